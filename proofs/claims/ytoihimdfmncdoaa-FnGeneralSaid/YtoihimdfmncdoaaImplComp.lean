/-
  The bindings of the program's map, in any order; a row appended to an owned one.
  The program's composition, plain: the mapped bindings and the rest, sorted, are the model's insertions.
  ComposeSubst of the program.
-/
import Derived.Test.YtoihimdfmncdoaaImplApp
import Derived.Test.YtoihimdfmncdoaaSortB
import Derived.Laws.AppendOwnNone
namespace Go.Proofs.Ytoihimdfmncdoaa
open Go.RowKit
set_option linter.unusedVariables false
set_option linter.unusedSimpArgs false

/-- What has come out of a map, what is left aside. -/
structure Got (f : Ent) (left : Int → Bool) (l : List Bd) : Prop where
  come : ∀ b ∈ l, (∃ U, f b.v = some (b.t, U)) ∧ left b.v = false
  once : l.Pairwise fun a b => ¬ a.v = b.v
  all : ∀ v, (f v).isSome = true → left v = false → ∃ b ∈ l, b.v = v
theorem got_start (f : Ent) : Got f (fun v => (f v).isSome) [] := ⟨fun b hb => by simp at hb, List.Pairwise.nil, fun v h1 h2 => by rw [h1] at h2; cases h2⟩
theorem Got.step {f : Ent} {left : Int → Bool} {l : List Bd} (h : Got f left l) {v : Int} {t : Tm} {U : Value} (hl : left v = true) (hf : f v = some (t, U)) : Got f (fun x => left x && !decide (x = v)) (l ++ [⟨v, t⟩]) := by
  refine ⟨fun b hb => ?_, ?_, fun x hx hlx => ?_⟩
  · rcases List.mem_append.1 hb with hb | hb
    · obtain ⟨h1, h2⟩ := h.come b hb
      exact ⟨h1, by rw [h2]; rfl⟩
    · simp at hb
      subst hb
      exact ⟨⟨U, hf⟩, by simp⟩
  · rw [List.pairwise_append]
    refine ⟨h.once, List.pairwise_singleton _ _, fun a ha b hb => ?_⟩
    simp at hb
    subst hb
    intro e
    have e' : a.v = v := e
    have := (h.come a ha).2
    rw [e', hl] at this
    cases this
  · by_cases e : x = v
    · subst e
      exact ⟨⟨x, t⟩, by simp, rfl⟩
    · have : left x = false := by simpa [e] using hlx
      obtain ⟨b, hb, hbv⟩ := h.all x hx this
      exact ⟨b, by simp [hb], hbv⟩
/-- All of a map, once each. -/
structure BindsOf (f : Ent) (l : List Bd) : Prop where
  come : ∀ b ∈ l, ∃ U, f b.v = some (b.t, U)
  once : l.Pairwise fun a b => ¬ a.v = b.v
  all : ∀ v, (f v).isSome = true → ∃ b ∈ l, b.v = v
theorem Got.fin {f : Ent} {left : Int → Bool} {l : List Bd} (h : Got f left l) (hl : ∀ v, left v = false) : BindsOf f l := ⟨fun b hb => (h.come b hb).1, h.once, fun v hv => h.all v hv (hl v)⟩

theorem heap_next {w w' : World} {r lo : Nat} (hg : w.grownBy w' (some r)) (hr : r < lo) : ∀ k, lo ≤ k → k < w.heap.size → w'.heap[k]? = w.heap[k]? := fun k h1 h2 => hg.block k h2 (fun e => by cases e; omega)

set_option maxRecDepth 100000 in
set_option maxHeartbeats 4000000 in
theorem bindings_any (b n : Nat) (f : Ent) (w : World) (hM : MapF w b n f) (hA : ∀ v p, f v = some p → ArgsAt w p.2 p.1.args ∧ p.1.sz ≤ 1048576 ∧ Good p.1) (hn : n ≤ 1048576) :
    Calls Try.prog 102 #[.map (some b)] w fun e w' => ∃ V l, e = .returned V ∧ ListO bdE 118 w' (iv w.heap.size w'.heap.size) V l ∧ (l = [] → V = .slice none 0 0) ∧ BindsOf f l ∧ l.length ≤ n ∧ Below w.heap.size w w' := by
  obtain ⟨i0, hi, hz0, hz1, hz2⟩ := info_parts infoBinding
  have HII := Lib.hid (And.intro hi (And.intro hz0 (And.intro hz1 hz2)))
  have HM := Lib.hid hM
  have HA := Lib.hid hA
  clear hi hz0 hz1 hz2 hM hA
  go_enter Try.func102, Try.ntmps102
  go_wp2_with (at_range; refine wpList_rangeF _ rfl _ rfl b n f rfl HM.out ?_; intro w0 cnt0 hc0 hrg0 hb0 hs0)
  have HR0 := Lib.hid hrg0
  have HB0 := Lib.hid hb0
  have HS0 := Lib.hid hs0
  have HG0 := Lib.hid (got_start f)
  clear hrg0 hb0 hs0
  go_frame
  go_loopw [3] (fun lv wr => ∃ (left : Int → Bool) (cnt : Nat) (l : List Bd), Hid (RanF wr b w.heap.size n f left cnt) ∧ Hid (ListO bdE 118 wr (iv (w.heap.size + 1) wr.heap.size) lv l) ∧ Hid (Got f left l) ∧ Hid (l = [] → lv = .slice none 0 0) ∧ l.length + cnt ≤ n ∧ Hid (Below w.heap.size w wr) ∧ Hid (w.heap.size + 1 ≤ wr.heap.size)) (fun _ wr => wr.rangeLeft b w.heap.size)
  case atStart => exact ⟨_, cnt0, [], HR0, Lib.hid .nil, HG0, Lib.hid (fun _ => rfl), by simpa using hc0, HB0, Lib.hid (by rw [HS0.out]; exact Nat.le_refl _)⟩
  case round =>
    obtain ⟨left, cnt, l, HR, HO, HG, HNI, hlc, HB, HSZ⟩ := hrel
    obtain ⟨oa, oc, rfl⟩ := HO.out.slice
    clear HR0 HB0 HS0 HG0 hc0
    have hrl := HR.out.left_eq
    have HRL := Lib.hid hrl
    clear hrl
    go_wp2_with (at_next; refine wpList_nextF _ rfl _ rfl b w.heap.size n cnt f left rfl HR.out ?_ ?_)
    · intro hc1 hl0
      have HF := Lib.hid (HG.out.fin hl0)
      clear hl0
      go_wp2
      go_ret
      exact ⟨_, l, rfl, HO.out.sub fun k hk => ⟨by have := hk.1; omega, hk.2⟩, HNI.out, HF.out, by omega, HB.out⟩
    · intro v t U w1 cnt1 hwf hlv hfv hrg hlt hgr hsz hen
      obtain ⟨hat, htz, htg⟩ := HA.out v (t, U) hfv
      obtain ⟨ua, uc, rfl⟩ := (show ArgsAt w U t.args from hat).slice
      have HB1 : Hid (Below w.heap.size w w1) := Lib.hid (HB.out.trans (below_of_grown hgr HB.out.size (fun j hj => by cases hj; exact Nat.le_refl _)))
      have HAT := Lib.hid (show ArgsAt w1 (.slice ua t.args.length uc) t.args from hat.kept HB1.out)
      have HTG := Lib.hid (show Good t from htg)
      have htz' : t.sz ≤ 1048576 := htz
      have HRN := Lib.hid hrg
      have HGN := Lib.hid (HG.out.step hlv hfv)
      have HON : Hid (ListO bdE 118 w1 (iv (w.heap.size + 1) w1.heap.size) (.slice oa l.length oc) l) := Lib.hid ((HO.out.frame fun k hk hks => hgr.block k hks (fun e => by cases e; have := hk.1; omega)).sub fun k hk => ⟨hk.1, by rw [hsz]; exact hk.2⟩)
      have HSZ1 : Hid (w.heap.size + 1 ≤ w1.heap.size) := Lib.hid (by rw [hsz]; exact HSZ.out)
      clear hrg hgr hat htz htg hfv hlv hwf hsz HR HO HG HB HSZ
      go_upto_region 5 with (fail)
      have hal : Below w1.heap.size w1 (w1.alloc (.cells #[.int .i64 t.kind, .int .i64 t.num, .string t.name, .slice ua t.args.length uc] 25)) := belowAlloc (Below.refl _ _) _
      have HBX := Lib.hid (at_box_of w1 #[.int .i64 t.kind, .int .i64 t.num, .string t.name, .slice ua t.args.length uc] 25 w1.heap.size rfl)
      have HO1 := Lib.hid ((HON.out.kept hal).sub (fun j hj => (⟨hj.1, by have := hj.2; have := hal.size; omega⟩ : iv (w.heap.size + 1) (w1.alloc (.cells #[.int .i64 t.kind, .int .i64 t.num, .string t.name, .slice ua t.args.length uc] 25)).heap.size j)))
      have HB2 := Lib.hid (belowOn HB1.out (Nat.le_refl _) hal)
      have HA2 := Lib.hid (HAT.out.kept hal)
      have HR2 := Lib.hid (HRN.out.kept hal)
      have HSZ2 : Hid (w.heap.size + 1 ≤ (w1.alloc (.cells #[.int .i64 t.kind, .int .i64 t.num, .string t.name, .slice ua t.args.length uc] 25)).heap.size) := Lib.hid (Nat.le_trans HSZ1.out hal.size)
      clear hal hen HON HB1 HAT HRN HSZ1
      generalize hw1 : w1.alloc (.cells #[.int .i64 t.kind, .int .i64 t.num, .string t.name, .slice ua t.args.length uc] 25) = w2 at HBX HO1 HB2 HA2 HR2 HSZ2 ⊢
      clear hw1
      generalize w1.heap.size = nb at HBX ⊢
      have HCO := Lib.hid (copied_any (t.nodes + 1) t _ w2 (Nat.lt_succ_self _) HA2.out htz' HTG.out)
      obtain ⟨c0, c1, c2, c3⟩ := HBX.out.cells
      have z0 := HBX.out.le
      go_wp2_with fail
      refine HCO.out.mono ?_
      rintro e w3 ⟨u, rfl, hnt⟩
      obtain ⟨va, vc, rfl⟩ := hnt.1.argsAt.slice
      have HN := Lib.hid hnt
      obtain ⟨L, C, hL1, hrow, hbk, hr, hC, hd⟩ := (HO1.out.kept hnt.2).parts
      obtain ⟨m, hm⟩ : ∃ m, m = l.length := ⟨_, rfl⟩
      have hmn : m ≤ 1048576 := by omega
      have hLn : m = L.length := by have := congrArg List.length hL1; rw [List.length_map, ← hm] at this; exact this
      rw [← hLn, ← hm] at hrow
      rw [← hm] at hbk hC ⊢
      have HROW := Lib.hid hrow
      have HPA := Lib.hid (And.intro hL1 (And.intro hLn (And.intro hbk (And.intro hr (And.intro hC hd)))))
      have HB3 := Lib.hid (belowOn HB2.out (Nat.le_refl _) hnt.2)
      have HR3 := Lib.hid (HR2.out.kept hnt.2)
      have HSZ3 : Hid (w.heap.size + 1 ≤ w3.heap.size) := Lib.hid (Nat.le_trans HSZ2.out hnt.2.size)
      have HS23 := Lib.hid hnt.2.size
      have HMM := Lib.hid hm
      clear hL1 hLn hrow hbk hr hC hd hnt HCO c0 c1 c2 c3 z0 hm
      go_wp2_with (at_builtin; refine wpList_append_lies _ rfl _ _ 28 rfl 0 118 i0 _ 5 64 Try.underlying28 HII.out.1 HII.out.2.1 HII.out.2.2.1 HII.out.2.2.2 rfl (by omega) (.slice oa m oc) m (cellsE bdE L) rfl (HROW.out.alloc _) ⟨w3.heap.size, 0, none⟩ 1 1 (bdE.cells ⟨v, t⟩ (.slice va t.args.length vc)) rfl rfl (World.news_of_block (heap_alloc_new w3 _)) (by simp [bdE, Value.oneCell']) (by omega) (by unfold maxLen; omega) (by omega) (Nat.zero_le _) (w3.heap.size + 1) (by simp) ?_; intro gg cap' w4 hown1 hgrow hat hlt1; have HAP := Lib.hid (And.intro hown1 (And.intro hgrow (And.intro hat hlt1))); clear hown1 hgrow hat hlt1)
      have HLO : Hid (ListO bdE 118 w4 (iv (w.heap.size + 1) w4.heap.size) (.slice (some ⟨gg, 0, none⟩) (m + 1) cap') (l ++ [⟨v, t⟩])) := Lib.hid (by
        have hgs := HAP.out.2.1.size
        simp only [World.size_alloc] at hgs
        have hb1 := HSZ2.out
        have hb2 := HSZ3.out
        have h := listO_append (E := bdE) (x := ⟨v, t⟩) (S' := iv (w.heap.size + 1) w4.heap.size) HPA.out.2.1 HPA.out.2.2.1 HPA.out.2.2.2.1 HPA.out.2.2.2.2.1 HPA.out.2.2.2.2.2 HN.out.1 (fun j hj => by have := hj.2; have := HS23.out; omega) (fun j hj => ⟨hj.2, fun h => by have h1 := hj.1; have h2 := h.2; omega⟩) (belowAlloc (Below.refl _ _) _) HAP.out.1 HAP.out.2.1 (HAP.out.2.2.1.imp id (fun h => by omega)) (fun j hj => by
          have hl := HAP.out.2.2.2
          have h23 := HS23.out
          rcases hj with hj | hj | hj
          · exact ⟨hj.1, by have := hj.2; omega⟩
          · exact ⟨by have := hj.1; omega, by have := hj.2; omega⟩
          · subst hj
            refine ⟨?_, hl⟩
            rcases HAP.out.2.2.1 with h | h
            · exact (HPA.out.2.2.1 _ h).1
            · omega)
        rw [← HPA.out.1] at h
        exact h)
      have HBF : Hid (Below w.heap.size w w4) := Lib.hid ((belowAlloc HB3.out _).trans (below_of_grown HAP.out.2.1 (by have := HSZ3.out; simp; omega) (fun j hj => by have h := (HPA.out.2.2.1 j hj).1; omega)))
      have HRF : Hid (RanF w4 b w.heap.size n f (fun x => left x && !decide (x = v)) cnt1) := Lib.hid (by
        have h1 := HR3.out.kept (belowAlloc (Below.refl _ _) (.cells #[.int .i64 v, .int .i64 t.kind, .int .i64 t.num, .string t.name, .slice va t.args.length vc] 118))
        have hlt := HM.out.lt
        refine h1.frame (HAP.out.2.1.block b h1.lt.1 (fun e => ?_)) (HAP.out.2.1.block w.heap.size h1.lt.2.1 (fun e => ?_))
        · have := (HPA.out.2.2.1 b e.symm).1; omega
        · have := (HPA.out.2.2.1 w.heap.size e.symm).1; omega)
      have HSF : Hid (w.heap.size + 1 ≤ w4.heap.size) := Lib.hid (by have hgs := HAP.out.2.1.size; simp only [World.size_alloc] at hgs; have := HSZ3.out; omega)
      clear HAP HPA HROW HN HSZ2 HSZ3 HS23 HB2 HB3 HR2 HR3 HO1 HBX
      go_roundw
      case rel => exact ⟨_, cnt1, l ++ [⟨v, t⟩], HRF, HLO, HGN, Lib.hid (fun h => by simp at h), by have := HMM.out; rw [List.length_append, List.length_singleton]; omega, HBF, HSF⟩
      case measure => rw [HRF.out.left_eq, HRL.out]; omega
end Go.Proofs.Ytoihimdfmncdoaa

namespace Go.Proofs.Ytoihimdfmncdoaa
open Go.RowKit
set_option linter.unusedVariables false
set_option linter.unusedSimpArgs false

theorem not_self {s t : List Bd} (hs : SubstP s) (ht : SubstP t) {b : Bd} (hb : b ∈ s) : selfB (mapped t b) = false := by
  unfold selfB
  refine decide_eq_false fun h => ?_
  have hk : (putT t b.t).kind = 1 := h.1
  have hn : (putT t b.t).num = b.v := h.2
  have hg := hs.good b hb
  have hlow : b.t.kind = 1 → b.t.num < b.v := fun h1 => by
    have h2 := (hs.2 b hb).1
    rcases Int.lt_or_le b.t.num b.v with h3 | h3
    · exact h3
    · exact absurd ⟨h1, h3⟩ h2
  by_cases h1 : b.t.kind = 1
  · rw [putT_var h1] at hk hn
    cases hget : getO t b.t.num with
    | none =>
      rw [hget] at hn
      have := hlow h1
      have hn' : b.t.num = b.v := hn
      omega
    | some x =>
      rw [hget] at hk hn
      obtain ⟨c, hc, h3, h4⟩ := getO_some hget
      have h5 := (ht.2 c hc).1
      have hk' : x.kind = 1 := hk
      have hn' : x.num = b.v := hn
      rw [h4] at h5
      have := hlow h1
      exact h5 ⟨hk', by omega⟩
  · by_cases h4 : b.t.kind = 4
    · rw [putT_pair h4] at hk
      have hk' : (4 : Int) = 1 := hk
      omega
    · rw [putT_atom h1 h4] at hk
      exact h1 hk
theorem cmpA_map {s t : List Bd} (hs : SubstP s) (ht : SubstP t) : cmpA s t = s.map (mapped t) := by
  unfold cmpA
  refine List.filter_eq_self.2 fun b hb => ?_
  obtain ⟨c, hc, rfl⟩ := List.mem_map.1 hb
  rw [not_self hs ht hc]; rfl
theorem insB_perm (s : List Bd) (b : Bd) : (insB s b).Perm (b :: s) := by
  unfold insB
  refine List.perm_middle.trans ?_
  rw [List.take_append_drop]
theorem foldB_perm : ∀ (r s : List Bd), (r.foldl insB s).Perm (r ++ s)
  | [], s => List.Perm.refl _
  | b :: r, s => by
    rw [List.foldl_cons]
    exact (foldB_perm r _).trans ((List.Perm.append_left r (insB_perm s b)).trans List.perm_middle)
theorem ValuesP.pair {s : List Bd} (h : ValuesP s) : s.Pairwise (fun a b => a.v < b.v) := by
  rw [List.pairwise_iff_getElem]
  intro i j hi hj hij
  exact h.less hij (List.getElem?_eq_getElem hi) (List.getElem?_eq_getElem hj)
/-- Bindings in ascending order with the same members are one list. -/
theorem asc_perm : ∀ {l m : List Bd}, l.Pairwise (fun a b => a.v < b.v) → m.Pairwise (fun a b => a.v < b.v) → l.Perm m → l = m
  | [], m, _, _, hp => (List.nil_perm.1 hp).symm
  | a :: l, [], _, _, hp => by have := hp.length_eq; simp at this
  | a :: l, b :: m, h1, h2, hp => by
    obtain ⟨a1, a2⟩ := List.pairwise_cons.1 h1
    obtain ⟨b1, b2⟩ := List.pairwise_cons.1 h2
    have hab : a = b := by
      rcases List.mem_cons.1 (hp.mem_iff.1 (List.mem_cons_self (a := a) (l := l))) with e | ha
      · exact e
      · rcases List.mem_cons.1 (hp.mem_iff.2 (List.mem_cons_self (a := b) (l := m))) with e | hb
        · exact e.symm
        · have h3 := b1 a ha
          have h4 := a1 b hb
          omega
    subst hab
    rw [asc_perm a2 b2 (List.Perm.cons_inv hp)]
theorem foldB_asc : ∀ (r s : List Bd), s.Pairwise (fun a b => a.v < b.v) → r.Pairwise (fun a b => a.v < b.v) → (∀ c ∈ s, ∀ d ∈ r, c.v ≠ d.v) → (r.foldl insB s).Pairwise (fun a b => a.v < b.v)
  | [], s, h, _, _ => h
  | b :: r, s, h, hr, hd => by
    obtain ⟨r1, r2⟩ := List.pairwise_cons.1 hr
    rw [List.foldl_cons]
    refine foldB_asc r _ (insB_asc h fun c hc => hd c hc b (by simp)) r2 fun c hc d hdm => ?_
    rcases insB_mem.1 hc with rfl | hc
    · have := r1 d hdm; omega
    · exact hd c hc d (by simp [hdm])
theorem mapped_asc {s t : List Bd} (h : s.Pairwise (fun a b => a.v < b.v)) : (s.map (mapped t)).Pairwise (fun a b => a.v < b.v) := by
  rw [List.pairwise_map]
  exact h
theorem cmpB_asc {s t : List Bd} (hs : SubstP s) (ht : SubstP t) : (cmpB s t).Pairwise (fun a b => a.v < b.v) := by
  unfold cmpB
  rw [cmpA_map hs ht]
  refine foldB_asc _ _ (mapped_asc hs.1.pair) (ht.1.pair.sublist List.filter_sublist) fun c hc d hd => ?_
  obtain ⟨x, hx, rfl⟩ := List.mem_map.1 hc
  obtain ⟨hd1, hd2⟩ := List.mem_filter.1 hd
  intro e
  have h1 : getB s d.v = false := by simpa using hd2
  exact (getO_none.1 (getB_none.1 h1)) x hx e
/-- Whatever list the program sorts: the mapped bindings, and the rest in any order. -/
theorem sorted_is {s t l m : List Bd} (hs : SubstP s) (ht : SubstP t) (hl : l.Perm (rest s t)) (hm : m.Perm (s.map (mapped t) ++ l)) (ha : m.Pairwise (fun a b => ¬ b.v < a.v)) : m = cmpB s t := by
  have hp : m.Perm (cmpB s t) := by
    unfold cmpB
    rw [cmpA_map hs ht]
    exact (hm.trans ((List.Perm.append_left _ hl).trans List.perm_append_comm)).trans (foldB_perm _ _).symm
  have hnd : (m.map Bd.v).Nodup := by
    rw [(hp.map Bd.v).nodup_iff]
    rw [List.nodup_iff_pairwise_ne, List.pairwise_map]
    exact (cmpB_asc hs ht).imp fun h => by omega
  rw [List.nodup_iff_pairwise_ne, List.pairwise_map] at hnd
  exact asc_perm ((ha.and hnd).imp fun {a b} h => by have h1 := h.1; have h2 := h.2; omega) (cmpB_asc hs ht) hp
end Go.Proofs.Ytoihimdfmncdoaa

namespace Go.Proofs.Ytoihimdfmncdoaa
open Go.RowKit
set_option linter.unusedVariables false
set_option linter.unusedSimpArgs false

/-- Two owned lists made one. -/
theorem listO_both {α : Type} {E : El α} {w W1 w1 : World} {e : TypeId} {S Su S' : Nat → Prop} {v : Value} {L M : List (α × Value)} {C D : Nat → Nat → Prop} {gg cap n m : Nat} (hn : n = L.length) (hm : m = M.length)
    (hb : ∀ k, v.ownBlock = some k → S k) (hr : ∀ (j : Nat) (p : α × Value), L[j]? = some p → E.own w (C j) p.2 p.1) (hC : ∀ j k, j < L.length → C j k → S k ∧ v.ownBlock ≠ some k) (hd : ∀ i j k, i < L.length → j < L.length → C i k → C j k → i = j)
    (hrM : ∀ (j : Nat) (p : α × Value), M[j]? = some p → E.own w (D j) p.2 p.1) (hD : ∀ j k, j < M.length → D j k → Su k) (hdM : ∀ i j k, i < M.length → j < M.length → D i k → D j k → i = j)
    (hS : ∀ k, S k → k < w.heap.size) (hSu : ∀ k, Su k → k < w.heap.size ∧ ¬ S k) (hW : Below w.heap.size w W1)
    (hown : w1.ownsRow 0 e E.n (.slice (some ⟨gg, 0, none⟩) (n + m) cap) (n + m) (cellsE E L ++ cellsE E M)) (hgr : W1.grownBy w1 v.ownBlock) (hat : v.ownBlock = some gg ∨ w.heap.size ≤ gg)
    (hS' : ∀ k, S k ∨ Su k ∨ k = gg → S' k) : ListO E e w1 S' (.slice (some ⟨gg, 0, none⟩) (n + m) cap) (L.map Prod.fst ++ M.map Prod.fst) := by
  subst hn
  subst hm
  have same : ∀ j, j < w.heap.size → v.ownBlock ≠ some j → w1.heap[j]? = w.heap[j]? := fun j hj hne => (hgr.block j (Nat.lt_of_lt_of_le hj hW.size) (fun e => hne e.symm)).trans (hW.block j hj)
  have hSub : ∀ k, Su k → v.ownBlock ≠ some k := fun k hk e => (hSu k hk).2 (hb k e)
  rw [← cellsE_append] at hown
  refine .row gg (L.length + M.length) cap (L ++ M) (fun j k => if j < L.length then C j k else D (j - L.length) k) _ (by simp) (by simp) (hS' gg (.inr (.inr rfl))) hown ?_ ?_ ?_
  · intro j p hj
    by_cases hjl : j < L.length
    · rw [List.getElem?_append_left hjl] at hj
      refine E.ownSub (E.ownFrame (hr j p hj) fun k hk hks => same k hks (hC j k hjl hk).2) fun k hk => ?_
      rw [if_pos hjl]; exact hk
    · rw [List.getElem?_append_right (by omega)] at hj
      have hjm := (List.getElem?_eq_some_iff.1 hj).1
      refine E.ownSub (E.ownFrame (hrM _ p hj) fun k hk hks => same k hks (hSub k (hD _ k hjm hk))) fun k hk => ?_
      rw [if_neg hjl]; exact hk
  · intro j k hj hk
    by_cases hjl : j < L.length
    · rw [if_pos hjl] at hk
      have h1 := hC j k hjl hk
      refine ⟨hS' k (.inl h1.1), fun e => ?_⟩
      subst e
      rcases hat with h | h
      · exact h1.2 h
      · have := hS k h1.1; omega
    · rw [if_neg hjl] at hk
      have h1 := hD _ k (by omega) hk
      refine ⟨hS' k (.inr (.inl h1)), fun e => ?_⟩
      subst e
      rcases hat with h | h
      · exact hSub k h1 h
      · have := (hSu k h1).1; omega
  · intro i j k hi hj hik hjk
    by_cases hil : i < L.length
    · rw [if_pos hil] at hik
      by_cases hjl : j < L.length
      · rw [if_pos hjl] at hjk
        exact hd i j k hil hjl hik hjk
      · rw [if_neg hjl] at hjk
        exact absurd (hC i k hil hik).1 (hSu k (hD _ k (by omega) hjk)).2
    · rw [if_neg hil] at hik
      by_cases hjl : j < L.length
      · rw [if_pos hjl] at hjk
        exact absurd (hC j k hjl hjk).1 (hSu k (hD _ k (by omega) hik)).2
      · rw [if_neg hjl] at hjk
        have := hdM _ _ k (by omega) (by omega) hik hjk
        omega

/-- What is left of a map, some variables struck. -/
def without (f : Ent) (s : List Bd) : Ent := fun v => if getB s v = true then none else f v
theorem without_nil (f : Ent) : without f [] = f := by funext v; rfl
theorem getB_snoc (s : List Bd) (x : Bd) (v : Int) : getB (s ++ [x]) v = (getB s v || decide (x.v = v)) := by
  cases h : getB (s ++ [x]) v with
  | false =>
    have h1 := getO_none.1 (getB_none.1 h)
    have h2 : getB s v = false := getB_none.2 (getO_none.2 fun b hb => h1 b (by simp [hb]))
    have h3 : ¬ x.v = v := h1 x (by simp)
    rw [h2]; simp [h3]
  | true =>
    cases h2 : getB s v with
    | true => rfl
    | false =>
      by_cases e : x.v = v
      · simp [e]
      · have : getB (s ++ [x]) v = false := getB_none.2 (getO_none.2 fun b hb => by
          rcases List.mem_append.1 hb with hb | hb
          · exact getO_none.1 (getB_none.1 h2) b hb
          · simp at hb; subst hb; exact e)
        rw [this] at h; cases h
theorem without_del {f : Ent} {s : List Bd} {k : Nat} {x : Bd} (hx : s[k]? = some x) : delF (without f (s.take k)) x.v = without f (s.take (k + 1)) := by
  funext v
  unfold without
  rw [takeE hx, getB_snoc]
  by_cases e : v = x.v
  · subst e
    rw [delF_self]; simp
  · rw [delF_ne _ e]
    have : ¬ x.v = v := fun h => e h.symm
    simp [this]
/-- What comes out of the rest of the map is the rest. -/
theorem binds_rest {f : Ent} {s t l : List Bd} (ht : SubstP t) (hf : ∀ v, (f v).map Prod.fst = getO t v) (h : BindsOf (without f s) l) : l.Perm (rest s t) := by
  have hu := ht.1.uniq
  have nd : l.Nodup := by
    rw [List.nodup_iff_pairwise_ne]
    exact h.once.imp fun {a b} hab e => hab (by rw [e])
  have ndr : (rest s t).Nodup := by
    rw [List.nodup_iff_pairwise_ne]
    exact (ht.1.pair.sublist List.filter_sublist).imp fun {a b} hab e => by rw [e] at hab; omega
  refine (List.perm_ext_iff_of_nodup nd ndr).2 fun b => ⟨fun hb => ?_, fun hb => ?_⟩
  · obtain ⟨U, hU⟩ := h.come b hb
    unfold without at hU
    split at hU
    · cases hU
    · rename_i hn
      have hg : getO t b.v = some b.t := by rw [← hf b.v, hU]; rfl
      obtain ⟨c, hc, h1, h2⟩ := getO_some hg
      have : c = b := by cases c; cases b; simp at h1 h2; rw [h1, h2]
      subst this
      refine List.mem_filter.2 ⟨hc, ?_⟩
      cases hgb : getB s c.v with
      | true => exact absurd hgb hn
      | false => rfl
  · obtain ⟨hb1, hb2⟩ := List.mem_filter.1 hb
    have hgb : getB s b.v = false := by simpa using hb2
    have hg := getO_uniq hu hb1
    have hsome : (without f s b.v).isSome = true := by
      unfold without
      rw [if_neg (by rw [hgb]; simp)]
      have := hf b.v
      rw [hg] at this
      cases hfv : f b.v with
      | none => rw [hfv] at this; cases this
      | some p => rfl
    obtain ⟨c, hc, hcv⟩ := h.all b.v hsome
    obtain ⟨U, hU⟩ := h.come c hc
    rw [hcv] at hU
    unfold without at hU
    rw [if_neg (by rw [hgb]; simp)] at hU
    have h3 := hf b.v
    rw [hU, hg] at h3
    simp at h3
    have : c = b := by cases c; cases b; simp at hcv h3; rw [hcv, h3]
    exact this ▸ hc
theorem rest_vars {s t : List Bd} (hs : SubstP s) (ht : SubstP t) : ∀ b ∈ cmpB s t, wfI b.v := by
  intro b hb
  rw [cmpB, foldB_mem] at hb
  have key : ∀ {u : List Bd}, SubstP u → ∀ c ∈ u, wfI c.v := fun hu c hc => by
    obtain ⟨i, hi⟩ := List.getElem?_of_mem hc
    have := (hu.1.1 i c hi).1
    exact wfI_of (by omega) (by omega)
  rcases hb with hb | hb
  · exact key ht b (List.mem_filter.1 hb).1
  · obtain ⟨c, hc, rfl⟩ := List.mem_map.1 (List.mem_filter.1 hb).1
    exact key hs c hc
theorem fits_take {s t : List Bd} (h : ∀ (i : Nat) (b : Bd), i < s.length → s[i]? = some b → (putT t b.t).nodes ≤ 5000) : ∀ b ∈ s, (putT t b.t).nodes ≤ 5000 := fun b hb => by
  obtain ⟨i, hi⟩ := List.getElem?_of_mem hb
  exact h i b (List.getElem?_eq_some_iff.1 hi).1 hi
theorem listO_cases {α : Type} {E : El α} {e : TypeId} {w : World} {S : Nat → Prop} {v : Value} {l : List α} (h : ListO E e w S v l) : (v = .slice none 0 0 ∧ l = []) ∨ ∃ (g cap : Nat) (L : List (α × Value)) (C : Nat → Nat → Prop), v = .slice (some ⟨g, 0, none⟩) L.length cap ∧ l = L.map Prod.fst ∧ S g ∧ w.ownsRow 0 e E.n (.slice (some ⟨g, 0, none⟩) L.length cap) L.length (cellsE E L) ∧ (∀ (j : Nat) (p : α × Value), L[j]? = some p → E.own w (C j) p.2 p.1) ∧ (∀ j k, j < L.length → C j k → S k ∧ k ≠ g) ∧ (∀ i j k, i < L.length → j < L.length → C i k → C j k → i = j) := by
  cases h with
  | nil => exact .inl ⟨rfl, rfl⟩
  | row g n cap L C l hl hn hg hown hr hC hd => subst hn; exact .inr ⟨g, cap, L, C, rfl, hl, hg, hown, hr, hC, hd⟩
theorem row_news {w : World} {e : TypeId} {g n cap : Nat} {L : List (Bd × Value)} (h : w.ownsRow 0 e bdE.n (.slice (some ⟨g, 0, none⟩) n cap) n (cellsE bdE L)) (hn : n = L.length) : ∀ j u, (cellsE bdE L)[j]? = some u → w.cell? ((⟨g, 0, none⟩ : Addr).add j) = some u := by
  intro j u hu
  have hj := (List.getElem?_eq_some_iff.1 hu).1
  rw [cellsE_length] at hj
  rw [add_at5, Nat.zero_add, World.ownsRow.cellAt h _ (by rw [hn]; exact hj)]
  exact hu
theorem below_after_only {B : Nat} {S : Nat → Prop} {w0 w w' : World} (h : Below B w0 w) (ho : Only S w w') (hS : ∀ k, S k → B ≤ k) (hB : B ≤ w.heap.size) : Below B w0 w' := h.trans (ho.below hS hB)

end Go.Proofs.Ytoihimdfmncdoaa

