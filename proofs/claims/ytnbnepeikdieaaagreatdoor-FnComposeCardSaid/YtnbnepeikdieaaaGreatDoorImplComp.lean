/-
  The bindings of the program's map, in any order; a row appended to an owned one.
  The program's composition, plain: the mapped bindings and the rest, sorted, are the model's insertions.
  ComposeSubst of the program.
-/
import Derived.Test.YtnbnepeikdieaaaGreatDoorImplApp
import Derived.Test.YtnbnepeikdieaaaGreatDoorSortB
import Derived.Laws.AppendOwnNone
namespace Go.Proofs.YtnbnepeikdieaaaGreatDoor
open Go.RowKit
set_option linter.unusedVariables false
set_option linter.unusedSimpArgs false

/-- What has come out of a map, what is left aside. -/
structure Got (f : Ent) (left : Int → Bool) (l : List Bd) : Prop where
  come : ∀ b ∈ l, (∃ U, f b.v = some (b.t, U)) ∧ left b.v = false
  once : l.Pairwise fun a b => ¬ a.v = b.v
  all : ∀ v, (f v).isSome = true → left v = false → ∃ b ∈ l, b.v = v
theorem got_start (f : Ent) : Got f (fun v => (f v).isSome) [] := ⟨fun b hb => by simp at hb, List.Pairwise.nil, fun v h1 h2 => by rw [h1] at h2; cases h2⟩
theorem Got.step {f : Ent} {left : Int → Bool} {l : List Bd} (h : Got f left l) {v : Int} {t : Tm} {U : Value} (hl : left v = true) (hf : f v = some (t, U)) : Got f (fun x => left x && !decide (x = v)) (l ++ [⟨v, t⟩]) := by
  refine ⟨fun b hb => ?_, ?_, fun x hx hlx => ?_⟩
  · rcases List.mem_append.1 hb with hb | hb
    · obtain ⟨h1, h2⟩ := h.come b hb
      exact ⟨h1, by rw [h2]; rfl⟩
    · simp at hb
      subst hb
      exact ⟨⟨U, hf⟩, by simp⟩
  · rw [List.pairwise_append]
    refine ⟨h.once, List.pairwise_singleton _ _, fun a ha b hb => ?_⟩
    simp at hb
    subst hb
    intro e
    have e' : a.v = v := e
    have := (h.come a ha).2
    rw [e', hl] at this
    cases this
  · by_cases e : x = v
    · subst e
      exact ⟨⟨x, t⟩, by simp, rfl⟩
    · have : left x = false := by simpa [e] using hlx
      obtain ⟨b, hb, hbv⟩ := h.all x hx this
      exact ⟨b, by simp [hb], hbv⟩
/-- All of a map, once each. -/
structure BindsOf (f : Ent) (l : List Bd) : Prop where
  come : ∀ b ∈ l, ∃ U, f b.v = some (b.t, U)
  once : l.Pairwise fun a b => ¬ a.v = b.v
  all : ∀ v, (f v).isSome = true → ∃ b ∈ l, b.v = v
theorem Got.fin {f : Ent} {left : Int → Bool} {l : List Bd} (h : Got f left l) (hl : ∀ v, left v = false) : BindsOf f l := ⟨fun b hb => (h.come b hb).1, h.once, fun v hv => h.all v hv (hl v)⟩

theorem heap_next {w w' : World} {r lo : Nat} (hg : w.grownBy w' (some r)) (hr : r < lo) : ∀ k, lo ≤ k → k < w.heap.size → w'.heap[k]? = w.heap[k]? := fun k h1 h2 => hg.block k h2 (fun e => by cases e; omega)

set_option maxRecDepth 100000 in
set_option maxHeartbeats 4000000 in
theorem bindings_any (b n : Nat) (f : Ent) (w : World) (hM : MapF w b n f) (hA : ∀ v p, f v = some p → ArgsAt w p.2 p.1.args ∧ p.1.sz ≤ 1048576 ∧ Good p.1) (hn : n ≤ 1048576) :
    Calls Tryz.prog 21 #[.map (some b)] w fun e w' => ∃ V l, e = .returned V ∧ ListO bdE 47 w' (iv w.heap.size w'.heap.size) V l ∧ (l = [] → V = .slice none 0 0) ∧ BindsOf f l ∧ l.length ≤ n ∧ Below w.heap.size w w' := by
  obtain ⟨i0, hi, hz0, hz1, hz2⟩ := info_parts infoBinding
  have HII := Lib.hid (And.intro hi (And.intro hz0 (And.intro hz1 hz2)))
  have HM := Lib.hid hM
  have HA := Lib.hid hA
  clear hi hz0 hz1 hz2 hM hA
  go_enter Tryz.func21, Tryz.ntmps21
  go_wp2_with (at_range; refine wpList_rangeF _ rfl _ rfl b n f rfl HM.out ?_; intro w0 cnt0 hc0 hrg0 hb0 hs0)
  have HR0 := Lib.hid hrg0
  have HB0 := Lib.hid hb0
  have HS0 := Lib.hid hs0
  have HG0 := Lib.hid (got_start f)
  clear hrg0 hb0 hs0
  go_frame
  go_loopw [3] (fun lv wr => ∃ (left : Int → Bool) (cnt : Nat) (l : List Bd), Hid (RanF wr b w.heap.size n f left cnt) ∧ Hid (ListO bdE 47 wr (iv (w.heap.size + 1) wr.heap.size) lv l) ∧ Hid (Got f left l) ∧ Hid (l = [] → lv = .slice none 0 0) ∧ l.length + cnt ≤ n ∧ Hid (Below w.heap.size w wr) ∧ Hid (w.heap.size + 1 ≤ wr.heap.size)) (fun _ wr => wr.rangeLeft b w.heap.size)
  case atStart => exact ⟨_, cnt0, [], HR0, Lib.hid .nil, HG0, Lib.hid (fun _ => rfl), by simpa using hc0, HB0, Lib.hid (by rw [HS0.out]; exact Nat.le_refl _)⟩
  case round =>
    obtain ⟨left, cnt, l, HR, HO, HG, HNI, hlc, HB, HSZ⟩ := hrel
    obtain ⟨oa, oc, rfl⟩ := HO.out.slice
    clear HR0 HB0 HS0 HG0 hc0
    have hrl := HR.out.left_eq
    have HRL := Lib.hid hrl
    clear hrl
    go_wp2_with (at_next; refine wpList_nextF _ rfl _ rfl b w.heap.size n cnt f left rfl HR.out ?_ ?_)
    · intro hc1 hl0
      have HF := Lib.hid (HG.out.fin hl0)
      clear hl0
      go_wp2
      go_ret
      exact ⟨_, l, rfl, HO.out.sub fun k hk => ⟨by have := hk.1; omega, hk.2⟩, HNI.out, HF.out, by omega, HB.out⟩
    · intro v t U w1 cnt1 hwf hlv hfv hrg hlt hgr hsz hen
      obtain ⟨hat, htz, htg⟩ := HA.out v (t, U) hfv
      obtain ⟨ua, uc, rfl⟩ := (show ArgsAt w U t.args from hat).slice
      have HB1 : Hid (Below w.heap.size w w1) := Lib.hid (HB.out.trans (below_of_grown hgr HB.out.size (fun j hj => by cases hj; exact Nat.le_refl _)))
      have HAT := Lib.hid (show ArgsAt w1 (.slice ua t.args.length uc) t.args from hat.kept HB1.out)
      have HTG := Lib.hid (show Good t from htg)
      have htz' : t.sz ≤ 1048576 := htz
      have HRN := Lib.hid hrg
      have HGN := Lib.hid (HG.out.step hlv hfv)
      have HON : Hid (ListO bdE 47 w1 (iv (w.heap.size + 1) w1.heap.size) (.slice oa l.length oc) l) := Lib.hid ((HO.out.frame fun k hk hks => hgr.block k hks (fun e => by cases e; have := hk.1; omega)).sub fun k hk => ⟨hk.1, by rw [hsz]; exact hk.2⟩)
      have HSZ1 : Hid (w.heap.size + 1 ≤ w1.heap.size) := Lib.hid (by rw [hsz]; exact HSZ.out)
      clear hrg hgr hat htz htg hfv hlv hwf hsz HR HO HG HB HSZ
      go_upto_region 5 with (fail)
      have hal : Below w1.heap.size w1 (w1.alloc (.cells #[.int .i64 t.kind, .int .i64 t.num, .string t.name, .slice ua t.args.length uc] 27)) := belowAlloc (Below.refl _ _) _
      have HBX := Lib.hid (at_box_of w1 #[.int .i64 t.kind, .int .i64 t.num, .string t.name, .slice ua t.args.length uc] 27 w1.heap.size rfl)
      have HO1 := Lib.hid ((HON.out.kept hal).sub (fun j hj => (⟨hj.1, by have := hj.2; have := hal.size; omega⟩ : iv (w.heap.size + 1) (w1.alloc (.cells #[.int .i64 t.kind, .int .i64 t.num, .string t.name, .slice ua t.args.length uc] 27)).heap.size j)))
      have HB2 := Lib.hid (belowOn HB1.out (Nat.le_refl _) hal)
      have HA2 := Lib.hid (HAT.out.kept hal)
      have HR2 := Lib.hid (HRN.out.kept hal)
      have HSZ2 : Hid (w.heap.size + 1 ≤ (w1.alloc (.cells #[.int .i64 t.kind, .int .i64 t.num, .string t.name, .slice ua t.args.length uc] 27)).heap.size) := Lib.hid (Nat.le_trans HSZ1.out hal.size)
      clear hal hen HON HB1 HAT HRN HSZ1
      generalize hw1 : w1.alloc (.cells #[.int .i64 t.kind, .int .i64 t.num, .string t.name, .slice ua t.args.length uc] 27) = w2 at HBX HO1 HB2 HA2 HR2 HSZ2 ⊢
      clear hw1
      generalize w1.heap.size = nb at HBX ⊢
      have HCO := Lib.hid (copied_any (t.nodes + 1) t _ w2 (Nat.lt_succ_self _) HA2.out htz' HTG.out)
      obtain ⟨c0, c1, c2, c3⟩ := HBX.out.cells
      have z0 := HBX.out.le
      go_wp2_with fail
      refine HCO.out.mono ?_
      rintro e w3 ⟨u, rfl, hnt⟩
      obtain ⟨va, vc, rfl⟩ := hnt.1.argsAt.slice
      have HN := Lib.hid hnt
      obtain ⟨L, C, hL1, hrow, hbk, hr, hC, hd⟩ := (HO1.out.kept hnt.2).parts
      obtain ⟨m, hm⟩ : ∃ m, m = l.length := ⟨_, rfl⟩
      have hmn : m ≤ 1048576 := by omega
      have hLn : m = L.length := by have := congrArg List.length hL1; rw [List.length_map, ← hm] at this; exact this
      rw [← hLn, ← hm] at hrow
      rw [← hm] at hbk hC ⊢
      have HROW := Lib.hid hrow
      have HPA := Lib.hid (And.intro hL1 (And.intro hLn (And.intro hbk (And.intro hr (And.intro hC hd)))))
      have HB3 := Lib.hid (belowOn HB2.out (Nat.le_refl _) hnt.2)
      have HR3 := Lib.hid (HR2.out.kept hnt.2)
      have HSZ3 : Hid (w.heap.size + 1 ≤ w3.heap.size) := Lib.hid (Nat.le_trans HSZ2.out hnt.2.size)
      have HS23 := Lib.hid hnt.2.size
      have HMM := Lib.hid hm
      clear hL1 hLn hrow hbk hr hC hd hnt HCO c0 c1 c2 c3 z0 hm
      go_wp2_with (at_builtin; refine wpList_append_lies _ rfl _ _ 23 rfl 0 47 i0 _ 5 64 Tryz.underlying23 HII.out.1 HII.out.2.1 HII.out.2.2.1 HII.out.2.2.2 rfl (by omega) (.slice oa m oc) m (cellsE bdE L) rfl (HROW.out.alloc _) ⟨w3.heap.size, 0, none⟩ 1 1 (bdE.cells ⟨v, t⟩ (.slice va t.args.length vc)) rfl rfl (World.news_of_block (heap_alloc_new w3 _)) (by simp [bdE, Value.oneCell']) (by omega) (by unfold maxLen; omega) (by omega) (Nat.zero_le _) (w3.heap.size + 1) (by simp) ?_; intro gg cap' w4 hown1 hgrow hat hlt1; have HAP := Lib.hid (And.intro hown1 (And.intro hgrow (And.intro hat hlt1))); clear hown1 hgrow hat hlt1)
      have HLO : Hid (ListO bdE 47 w4 (iv (w.heap.size + 1) w4.heap.size) (.slice (some ⟨gg, 0, none⟩) (m + 1) cap') (l ++ [⟨v, t⟩])) := Lib.hid (by
        have hgs := HAP.out.2.1.size
        simp only [World.size_alloc] at hgs
        have hb1 := HSZ2.out
        have hb2 := HSZ3.out
        have h := listO_append (E := bdE) (x := ⟨v, t⟩) (S' := iv (w.heap.size + 1) w4.heap.size) HPA.out.2.1 HPA.out.2.2.1 HPA.out.2.2.2.1 HPA.out.2.2.2.2.1 HPA.out.2.2.2.2.2 HN.out.1 (fun j hj => by have := hj.2; have := HS23.out; omega) (fun j hj => ⟨hj.2, fun h => by have h1 := hj.1; have h2 := h.2; omega⟩) (belowAlloc (Below.refl _ _) _) HAP.out.1 HAP.out.2.1 (HAP.out.2.2.1.imp id (fun h => by omega)) (fun j hj => by
          have hl := HAP.out.2.2.2
          have h23 := HS23.out
          rcases hj with hj | hj | hj
          · exact ⟨hj.1, by have := hj.2; omega⟩
          · exact ⟨by have := hj.1; omega, by have := hj.2; omega⟩
          · subst hj
            refine ⟨?_, hl⟩
            rcases HAP.out.2.2.1 with h | h
            · exact (HPA.out.2.2.1 _ h).1
            · omega)
        rw [← HPA.out.1] at h
        exact h)
      have HBF : Hid (Below w.heap.size w w4) := Lib.hid ((belowAlloc HB3.out _).trans (below_of_grown HAP.out.2.1 (by have := HSZ3.out; simp; omega) (fun j hj => by have h := (HPA.out.2.2.1 j hj).1; omega)))
      have HRF : Hid (RanF w4 b w.heap.size n f (fun x => left x && !decide (x = v)) cnt1) := Lib.hid (by
        have h1 := HR3.out.kept (belowAlloc (Below.refl _ _) (.cells #[.int .i64 v, .int .i64 t.kind, .int .i64 t.num, .string t.name, .slice va t.args.length vc] 47))
        have hlt := HM.out.lt
        refine h1.frame (HAP.out.2.1.block b h1.lt.1 (fun e => ?_)) (HAP.out.2.1.block w.heap.size h1.lt.2.1 (fun e => ?_))
        · have := (HPA.out.2.2.1 b e.symm).1; omega
        · have := (HPA.out.2.2.1 w.heap.size e.symm).1; omega)
      have HSF : Hid (w.heap.size + 1 ≤ w4.heap.size) := Lib.hid (by have hgs := HAP.out.2.1.size; simp only [World.size_alloc] at hgs; have := HSZ3.out; omega)
      clear HAP HPA HROW HN HSZ2 HSZ3 HS23 HB2 HB3 HR2 HR3 HO1 HBX
      go_roundw
      case rel => exact ⟨_, cnt1, l ++ [⟨v, t⟩], HRF, HLO, HGN, Lib.hid (fun h => by simp at h), by have := HMM.out; rw [List.length_append, List.length_singleton]; omega, HBF, HSF⟩
      case measure => rw [HRF.out.left_eq, HRL.out]; omega
end Go.Proofs.YtnbnepeikdieaaaGreatDoor

namespace Go.Proofs.YtnbnepeikdieaaaGreatDoor
open Go.RowKit
set_option linter.unusedVariables false
set_option linter.unusedSimpArgs false

theorem not_self {s t : List Bd} (hs : SubstP s) (ht : SubstP t) {b : Bd} (hb : b ∈ s) : selfB (mapped t b) = false := by
  unfold selfB
  refine decide_eq_false fun h => ?_
  have hk : (putT t b.t).kind = 1 := h.1
  have hn : (putT t b.t).num = b.v := h.2
  have hg := hs.good b hb
  have hlow : b.t.kind = 1 → b.t.num < b.v := fun h1 => by
    have h2 := (hs.2 b hb).1
    rcases Int.lt_or_le b.t.num b.v with h3 | h3
    · exact h3
    · exact absurd ⟨h1, h3⟩ h2
  by_cases h1 : b.t.kind = 1
  · rw [putT_var h1] at hk hn
    cases hget : getO t b.t.num with
    | none =>
      rw [hget] at hn
      have := hlow h1
      have hn' : b.t.num = b.v := hn
      omega
    | some x =>
      rw [hget] at hk hn
      obtain ⟨c, hc, h3, h4⟩ := getO_some hget
      have h5 := (ht.2 c hc).1
      have hk' : x.kind = 1 := hk
      have hn' : x.num = b.v := hn
      rw [h4] at h5
      have := hlow h1
      exact h5 ⟨hk', by omega⟩
  · by_cases h4 : b.t.kind = 4
    · rw [putT_pair h4] at hk
      have hk' : (4 : Int) = 1 := hk
      omega
    · rw [putT_atom h1 h4] at hk
      exact h1 hk
theorem cmpA_map {s t : List Bd} (hs : SubstP s) (ht : SubstP t) : cmpA s t = s.map (mapped t) := by
  unfold cmpA
  refine List.filter_eq_self.2 fun b hb => ?_
  obtain ⟨c, hc, rfl⟩ := List.mem_map.1 hb
  rw [not_self hs ht hc]; rfl
theorem insB_perm (s : List Bd) (b : Bd) : (insB s b).Perm (b :: s) := by
  unfold insB
  refine List.perm_middle.trans ?_
  rw [List.take_append_drop]
theorem foldB_perm : ∀ (r s : List Bd), (r.foldl insB s).Perm (r ++ s)
  | [], s => List.Perm.refl _
  | b :: r, s => by
    rw [List.foldl_cons]
    exact (foldB_perm r _).trans ((List.Perm.append_left r (insB_perm s b)).trans List.perm_middle)
theorem ValuesP.pair {s : List Bd} (h : ValuesP s) : s.Pairwise (fun a b => a.v < b.v) := by
  rw [List.pairwise_iff_getElem]
  intro i j hi hj hij
  exact h.less hij (List.getElem?_eq_getElem hi) (List.getElem?_eq_getElem hj)
/-- Bindings in ascending order with the same members are one list. -/
theorem asc_perm : ∀ {l m : List Bd}, l.Pairwise (fun a b => a.v < b.v) → m.Pairwise (fun a b => a.v < b.v) → l.Perm m → l = m
  | [], m, _, _, hp => (List.nil_perm.1 hp).symm
  | a :: l, [], _, _, hp => by have := hp.length_eq; simp at this
  | a :: l, b :: m, h1, h2, hp => by
    obtain ⟨a1, a2⟩ := List.pairwise_cons.1 h1
    obtain ⟨b1, b2⟩ := List.pairwise_cons.1 h2
    have hab : a = b := by
      rcases List.mem_cons.1 (hp.mem_iff.1 (List.mem_cons_self (a := a) (l := l))) with e | ha
      · exact e
      · rcases List.mem_cons.1 (hp.mem_iff.2 (List.mem_cons_self (a := b) (l := m))) with e | hb
        · exact e.symm
        · have h3 := b1 a ha
          have h4 := a1 b hb
          omega
    subst hab
    rw [asc_perm a2 b2 (List.Perm.cons_inv hp)]
theorem foldB_asc : ∀ (r s : List Bd), s.Pairwise (fun a b => a.v < b.v) → r.Pairwise (fun a b => a.v < b.v) → (∀ c ∈ s, ∀ d ∈ r, c.v ≠ d.v) → (r.foldl insB s).Pairwise (fun a b => a.v < b.v)
  | [], s, h, _, _ => h
  | b :: r, s, h, hr, hd => by
    obtain ⟨r1, r2⟩ := List.pairwise_cons.1 hr
    rw [List.foldl_cons]
    refine foldB_asc r _ (insB_asc h fun c hc => hd c hc b (by simp)) r2 fun c hc d hdm => ?_
    rcases insB_mem.1 hc with rfl | hc
    · have := r1 d hdm; omega
    · exact hd c hc d (by simp [hdm])
theorem mapped_asc {s t : List Bd} (h : s.Pairwise (fun a b => a.v < b.v)) : (s.map (mapped t)).Pairwise (fun a b => a.v < b.v) := by
  rw [List.pairwise_map]
  exact h
theorem cmpB_asc {s t : List Bd} (hs : SubstP s) (ht : SubstP t) : (cmpB s t).Pairwise (fun a b => a.v < b.v) := by
  unfold cmpB
  rw [cmpA_map hs ht]
  refine foldB_asc _ _ (mapped_asc hs.1.pair) (ht.1.pair.sublist List.filter_sublist) fun c hc d hd => ?_
  obtain ⟨x, hx, rfl⟩ := List.mem_map.1 hc
  obtain ⟨hd1, hd2⟩ := List.mem_filter.1 hd
  intro e
  have h1 : getB s d.v = false := by simpa using hd2
  exact (getO_none.1 (getB_none.1 h1)) x hx e
/-- Whatever list the program sorts: the mapped bindings, and the rest in any order. -/
theorem sorted_is {s t l m : List Bd} (hs : SubstP s) (ht : SubstP t) (hl : l.Perm (rest s t)) (hm : m.Perm (s.map (mapped t) ++ l)) (ha : m.Pairwise (fun a b => ¬ b.v < a.v)) : m = cmpB s t := by
  have hp : m.Perm (cmpB s t) := by
    unfold cmpB
    rw [cmpA_map hs ht]
    exact (hm.trans ((List.Perm.append_left _ hl).trans List.perm_append_comm)).trans (foldB_perm _ _).symm
  have hnd : (m.map Bd.v).Nodup := by
    rw [(hp.map Bd.v).nodup_iff]
    rw [List.nodup_iff_pairwise_ne, List.pairwise_map]
    exact (cmpB_asc hs ht).imp fun h => by omega
  rw [List.nodup_iff_pairwise_ne, List.pairwise_map] at hnd
  exact asc_perm ((ha.and hnd).imp fun {a b} h => by have h1 := h.1; have h2 := h.2; omega) (cmpB_asc hs ht) hp
end Go.Proofs.YtnbnepeikdieaaaGreatDoor

namespace Go.Proofs.YtnbnepeikdieaaaGreatDoor
open Go.RowKit
set_option linter.unusedVariables false
set_option linter.unusedSimpArgs false

/-- Two owned lists made one. -/
theorem listO_both {α : Type} {E : El α} {w W1 w1 : World} {e : TypeId} {S Su S' : Nat → Prop} {v : Value} {L M : List (α × Value)} {C D : Nat → Nat → Prop} {gg cap n m : Nat} (hn : n = L.length) (hm : m = M.length)
    (hb : ∀ k, v.ownBlock = some k → S k) (hr : ∀ (j : Nat) (p : α × Value), L[j]? = some p → E.own w (C j) p.2 p.1) (hC : ∀ j k, j < L.length → C j k → S k ∧ v.ownBlock ≠ some k) (hd : ∀ i j k, i < L.length → j < L.length → C i k → C j k → i = j)
    (hrM : ∀ (j : Nat) (p : α × Value), M[j]? = some p → E.own w (D j) p.2 p.1) (hD : ∀ j k, j < M.length → D j k → Su k) (hdM : ∀ i j k, i < M.length → j < M.length → D i k → D j k → i = j)
    (hS : ∀ k, S k → k < w.heap.size) (hSu : ∀ k, Su k → k < w.heap.size ∧ ¬ S k) (hW : Below w.heap.size w W1)
    (hown : w1.ownsRow 0 e E.n (.slice (some ⟨gg, 0, none⟩) (n + m) cap) (n + m) (cellsE E L ++ cellsE E M)) (hgr : W1.grownBy w1 v.ownBlock) (hat : v.ownBlock = some gg ∨ w.heap.size ≤ gg)
    (hS' : ∀ k, S k ∨ Su k ∨ k = gg → S' k) : ListO E e w1 S' (.slice (some ⟨gg, 0, none⟩) (n + m) cap) (L.map Prod.fst ++ M.map Prod.fst) := by
  subst hn
  subst hm
  have same : ∀ j, j < w.heap.size → v.ownBlock ≠ some j → w1.heap[j]? = w.heap[j]? := fun j hj hne => (hgr.block j (Nat.lt_of_lt_of_le hj hW.size) (fun e => hne e.symm)).trans (hW.block j hj)
  have hSub : ∀ k, Su k → v.ownBlock ≠ some k := fun k hk e => (hSu k hk).2 (hb k e)
  rw [← cellsE_append] at hown
  refine .row gg (L.length + M.length) cap (L ++ M) (fun j k => if j < L.length then C j k else D (j - L.length) k) _ (by simp) (by simp) (hS' gg (.inr (.inr rfl))) hown ?_ ?_ ?_
  · intro j p hj
    by_cases hjl : j < L.length
    · rw [List.getElem?_append_left hjl] at hj
      refine E.ownSub (E.ownFrame (hr j p hj) fun k hk hks => same k hks (hC j k hjl hk).2) fun k hk => ?_
      rw [if_pos hjl]; exact hk
    · rw [List.getElem?_append_right (by omega)] at hj
      have hjm := (List.getElem?_eq_some_iff.1 hj).1
      refine E.ownSub (E.ownFrame (hrM _ p hj) fun k hk hks => same k hks (hSub k (hD _ k hjm hk))) fun k hk => ?_
      rw [if_neg hjl]; exact hk
  · intro j k hj hk
    by_cases hjl : j < L.length
    · rw [if_pos hjl] at hk
      have h1 := hC j k hjl hk
      refine ⟨hS' k (.inl h1.1), fun e => ?_⟩
      subst e
      rcases hat with h | h
      · exact h1.2 h
      · have := hS k h1.1; omega
    · rw [if_neg hjl] at hk
      have h1 := hD _ k (by omega) hk
      refine ⟨hS' k (.inr (.inl h1)), fun e => ?_⟩
      subst e
      rcases hat with h | h
      · exact hSub k h1 h
      · have := (hSu k h1).1; omega
  · intro i j k hi hj hik hjk
    by_cases hil : i < L.length
    · rw [if_pos hil] at hik
      by_cases hjl : j < L.length
      · rw [if_pos hjl] at hjk
        exact hd i j k hil hjl hik hjk
      · rw [if_neg hjl] at hjk
        exact absurd (hC i k hil hik).1 (hSu k (hD _ k (by omega) hjk)).2
    · rw [if_neg hil] at hik
      by_cases hjl : j < L.length
      · rw [if_pos hjl] at hjk
        exact absurd (hC j k hjl hjk).1 (hSu k (hD _ k (by omega) hik)).2
      · rw [if_neg hjl] at hjk
        have := hdM _ _ k (by omega) (by omega) hik hjk
        omega

/-- What is left of a map, some variables struck. -/
def without (f : Ent) (s : List Bd) : Ent := fun v => if getB s v = true then none else f v
theorem without_nil (f : Ent) : without f [] = f := by funext v; rfl
theorem getB_snoc (s : List Bd) (x : Bd) (v : Int) : getB (s ++ [x]) v = (getB s v || decide (x.v = v)) := by
  cases h : getB (s ++ [x]) v with
  | false =>
    have h1 := getO_none.1 (getB_none.1 h)
    have h2 : getB s v = false := getB_none.2 (getO_none.2 fun b hb => h1 b (by simp [hb]))
    have h3 : ¬ x.v = v := h1 x (by simp)
    rw [h2]; simp [h3]
  | true =>
    cases h2 : getB s v with
    | true => rfl
    | false =>
      by_cases e : x.v = v
      · simp [e]
      · have : getB (s ++ [x]) v = false := getB_none.2 (getO_none.2 fun b hb => by
          rcases List.mem_append.1 hb with hb | hb
          · exact getO_none.1 (getB_none.1 h2) b hb
          · simp at hb; subst hb; exact e)
        rw [this] at h; cases h
theorem without_del {f : Ent} {s : List Bd} {k : Nat} {x : Bd} (hx : s[k]? = some x) : delF (without f (s.take k)) x.v = without f (s.take (k + 1)) := by
  funext v
  unfold without
  rw [takeE hx, getB_snoc]
  by_cases e : v = x.v
  · subst e
    rw [delF_self]; simp
  · rw [delF_ne _ e]
    have : ¬ x.v = v := fun h => e h.symm
    simp [this]
/-- What comes out of the rest of the map is the rest. -/
theorem binds_rest {f : Ent} {s t l : List Bd} (ht : SubstP t) (hf : ∀ v, (f v).map Prod.fst = getO t v) (h : BindsOf (without f s) l) : l.Perm (rest s t) := by
  have hu := ht.1.uniq
  have nd : l.Nodup := by
    rw [List.nodup_iff_pairwise_ne]
    exact h.once.imp fun {a b} hab e => hab (by rw [e])
  have ndr : (rest s t).Nodup := by
    rw [List.nodup_iff_pairwise_ne]
    exact (ht.1.pair.sublist List.filter_sublist).imp fun {a b} hab e => by rw [e] at hab; omega
  refine (List.perm_ext_iff_of_nodup nd ndr).2 fun b => ⟨fun hb => ?_, fun hb => ?_⟩
  · obtain ⟨U, hU⟩ := h.come b hb
    unfold without at hU
    split at hU
    · cases hU
    · rename_i hn
      have hg : getO t b.v = some b.t := by rw [← hf b.v, hU]; rfl
      obtain ⟨c, hc, h1, h2⟩ := getO_some hg
      have : c = b := by cases c; cases b; simp at h1 h2; rw [h1, h2]
      subst this
      refine List.mem_filter.2 ⟨hc, ?_⟩
      cases hgb : getB s c.v with
      | true => exact absurd hgb hn
      | false => rfl
  · obtain ⟨hb1, hb2⟩ := List.mem_filter.1 hb
    have hgb : getB s b.v = false := by simpa using hb2
    have hg := getO_uniq hu hb1
    have hsome : (without f s b.v).isSome = true := by
      unfold without
      rw [if_neg (by rw [hgb]; simp)]
      have := hf b.v
      rw [hg] at this
      cases hfv : f b.v with
      | none => rw [hfv] at this; cases this
      | some p => rfl
    obtain ⟨c, hc, hcv⟩ := h.all b.v hsome
    obtain ⟨U, hU⟩ := h.come c hc
    rw [hcv] at hU
    unfold without at hU
    rw [if_neg (by rw [hgb]; simp)] at hU
    have h3 := hf b.v
    rw [hU, hg] at h3
    simp at h3
    have : c = b := by cases c; cases b; simp at hcv h3; rw [hcv, h3]
    exact this ▸ hc
theorem rest_vars {s t : List Bd} (hs : SubstP s) (ht : SubstP t) : ∀ b ∈ cmpB s t, wfI b.v := by
  intro b hb
  rw [cmpB, foldB_mem] at hb
  have key : ∀ {u : List Bd}, SubstP u → ∀ c ∈ u, wfI c.v := fun hu c hc => by
    obtain ⟨i, hi⟩ := List.getElem?_of_mem hc
    have := (hu.1.1 i c hi).1
    exact wfI_of (by omega) (by omega)
  rcases hb with hb | hb
  · exact key ht b (List.mem_filter.1 hb).1
  · obtain ⟨c, hc, rfl⟩ := List.mem_map.1 (List.mem_filter.1 hb).1
    exact key hs c hc
theorem fits_take {s t : List Bd} (h : ∀ (i : Nat) (b : Bd), i < s.length → s[i]? = some b → (putT t b.t).nodes ≤ 5000) : ∀ b ∈ s, (putT t b.t).nodes ≤ 5000 := fun b hb => by
  obtain ⟨i, hi⟩ := List.getElem?_of_mem hb
  exact h i b (List.getElem?_eq_some_iff.1 hi).1 hi
theorem listO_cases {α : Type} {E : El α} {e : TypeId} {w : World} {S : Nat → Prop} {v : Value} {l : List α} (h : ListO E e w S v l) : (v = .slice none 0 0 ∧ l = []) ∨ ∃ (g cap : Nat) (L : List (α × Value)) (C : Nat → Nat → Prop), v = .slice (some ⟨g, 0, none⟩) L.length cap ∧ l = L.map Prod.fst ∧ S g ∧ w.ownsRow 0 e E.n (.slice (some ⟨g, 0, none⟩) L.length cap) L.length (cellsE E L) ∧ (∀ (j : Nat) (p : α × Value), L[j]? = some p → E.own w (C j) p.2 p.1) ∧ (∀ j k, j < L.length → C j k → S k ∧ k ≠ g) ∧ (∀ i j k, i < L.length → j < L.length → C i k → C j k → i = j) := by
  cases h with
  | nil => exact .inl ⟨rfl, rfl⟩
  | row g n cap L C l hl hn hg hown hr hC hd => subst hn; exact .inr ⟨g, cap, L, C, rfl, hl, hg, hown, hr, hC, hd⟩
theorem row_news {w : World} {e : TypeId} {g n cap : Nat} {L : List (Bd × Value)} (h : w.ownsRow 0 e bdE.n (.slice (some ⟨g, 0, none⟩) n cap) n (cellsE bdE L)) (hn : n = L.length) : ∀ j u, (cellsE bdE L)[j]? = some u → w.cell? ((⟨g, 0, none⟩ : Addr).add j) = some u := by
  intro j u hu
  have hj := (List.getElem?_eq_some_iff.1 hu).1
  rw [cellsE_length] at hj
  rw [add_at5, Nat.zero_add, World.ownsRow.cellAt h _ (by rw [hn]; exact hj)]
  exact hu
theorem below_after_only {B : Nat} {S : Nat → Prop} {w0 w w' : World} (h : Below B w0 w) (ho : Only S w w') (hS : ∀ k, S k → B ≤ k) (hB : B ≤ w.heap.size) : Below B w0 w' := h.trans (ho.below hS hB)

set_option maxRecDepth 100000 in
set_option maxHeartbeats 16000000 in
theorem implComposeSubst_any (s : List Bd) (Vs : Value) (t : List Bd) (Vt : Value) (w : World) (hA : ListS bdE w Any Vs s) (hZs : szB s ≤ 1048576) (hFs : fineB s) (hT : ListS bdE w Any Vt t) (hZt : szB t ≤ 1048576) (hFt : fineB t) :
    Calls Tryz.prog 7 #[Vs, Vt] w (NewB2 (coL s t) (coB s t) w) := by
  obtain ⟨i0, hi, hz0, hz1, hz2⟩ := info_parts infoBinding
  have HII := Lib.hid (And.intro hi (And.intro hz0 (And.intro hz1 hz2)))
  obtain ⟨a, cap, rfl⟩ := hA.slice
  obtain ⟨ta, tc, rfl⟩ := hT.slice
  have HE := Lib.hid (eachB_of hZs)
  have HEt := Lib.hid (eachB_of hZt)
  have HF := Lib.hid hFs.wf
  have HFt := Lib.hid hFt.wf
  have HA := Lib.hid hA
  have HT := Lib.hid hT
  have HNO := Lib.hid (fun (h : ¬ CompP s t) => co_no h)
  have HYES := Lib.hid (fun (h : CompP s t) => co_yes h)
  generalize coL s t = rl at HYES HNO ⊢
  generalize coB s t = rb at HYES HNO ⊢
  have HC := Lib.hid (implSubstOk_e s _ w hA HE.out HF.out)
  clear hA hT hFs hFt hi hz0 hz1 hz2
  go_enter Tryz.func7, Tryz.ntmps7
  go_wp2_with fail
  refine HC.out.mono ?_
  rintro e w0 ⟨rfl, hb⟩
  have HW := Lib.hid hb
  clear hb HC
  cases hs : substB s with
  | false =>
    obtain ⟨rfl, rfl⟩ := HNO.out fun h => substB_false.1 hs h.1
    clear hs
    go_wp2
    go_ret2
    exact ⟨_, rfl, .nil, HW.out⟩
  | true =>
  have HSP := Lib.hid (substB_true.1 hs)
  have HC := Lib.hid (implSubstOk_e t _ w0 (HT.out.kept HW.out) HEt.out HFt.out)
  clear hs
  go_wp2_with fail
  refine HC.out.mono ?_
  rintro e w1 ⟨rfl, hb⟩
  have HW1 := Lib.hid (belowOn HW.out (Nat.le_refl _) hb)
  clear hb HC HW
  cases ht : substB t with
  | false =>
    obtain ⟨rfl, rfl⟩ := HNO.out fun h => substB_false.1 ht h.2.1
    clear ht
    go_wp2
    go_ret2
    exact ⟨_, rfl, .nil, HW1.out⟩
  | true =>
  have HTP := Lib.hid (substB_true.1 ht)
  have hsl : s.length ≤ 400 := HSP.out.1.2.2
  have htl : t.length ≤ 400 := HTP.out.1.2.2
  have HC := Lib.hid (mapOf_low t _ w1 (HT.out.kept HW1.out) HEt.out.1 HFt.out)
  clear ht
  go_wp2_with fail
  refine HC.out.mono ?_
  rintro e w2 ⟨mb, rfl, hmb, hm, hb⟩
  obtain ⟨n, f, hn, hmf, hmg, hms⟩ := hm
  have HM2 := Lib.hid hmf
  have HMG := Lib.hid (fun v => (hmg v).trans (lastO_subst HTP.out v))
  have HMS := Lib.hid hms
  have HMB := Lib.hid hmb
  have hmbl : mb < w2.heap.size := hmf.lt
  have HMBL := Lib.hid hmbl
  have HL1 := Lib.hid hb.size
  have HW2 := Lib.hid (belowOn HW1.out (Nat.le_refl _) hb)
  clear hb HC hmf hmg hms hmb hmbl
  go_wp2
  go_loopw [7, 26] (fun lv cv wr => ∃ k : Nat, k ≤ s.length ∧ cv = .int .i64 k ∧ Hid (ListO bdE 47 wr (iv w2.heap.size wr.heap.size) lv ((s.take k).map (mapped t))) ∧ Hid (∀ (i : Nat) (b : Bd), i < k → s[i]? = some b → (putT t b.t).nodes ≤ 5000) ∧ Hid (Below w2.heap.size w2 wr)) (fun _ cv _ => s.length - (intOf cv).toNat)
  case atStart => exact ⟨0, Nat.zero_le _, rfl, Lib.hid .nil, Lib.hid (fun i b hi => absurd hi (Nat.not_lt_zero _)), Lib.hid (Below.refl _ _)⟩
  case round =>
    obtain ⟨k, hk, rfl, HO, HN, HB⟩ := hrel
    obtain ⟨oa, oc, rfl⟩ := HO.out.slice
    have hkl : ((s.take k).map (mapped t)).length = k := by rw [List.length_map, List.length_take]; omega
    rw [hkl] at HO ⊢
    clear hkl
    by_cases hlt : k < s.length
    · have hltI : (k : Int) < (s.length : Int) := by omega
      obtain ⟨x, hx⟩ : ∃ x, s[k]? = some x := ⟨_, List.getElem?_eq_getElem hlt⟩
      obtain ⟨g, off, u1, u2, rfl, hg, hq, hc, hu⟩ := HA.out.bd hx
      obtain ⟨d0, d1, d2, d3, d4⟩ := hc wr (belowOn HW2.out (Nat.le_refl _) HB.out)
      have HX := Lib.hid hx
      have HXO := Lib.hid (HSP.out.1.1 k x hx).2
      have HU := Lib.hid (hu.at.kept (belowOn HW2.out (Nat.le_refl _) HB.out))
      have hxz : x.t.sz ≤ 1048576 := by have := HE.out.2 x (List.mem_of_getElem? hx); omega
      clear hq hc hu hx
      go_upto_region 8 with (fail)
      have hal : Below wr.heap.size wr (wr.alloc (.cells #[.int .i64 x.v, .int .i64 x.t.kind, .int .i64 x.t.num, .string x.t.name, .slice u1 x.t.args.length u2] 47)) := belowAlloc (Below.refl _ _) _
      have HBX := Lib.hid (at_box_of wr #[.int .i64 x.v, .int .i64 x.t.kind, .int .i64 x.t.num, .string x.t.name, .slice u1 x.t.args.length u2] 47 wr.heap.size rfl)
      have HO1 := Lib.hid ((HO.out.kept hal).sub (fun j hj => (⟨hj.1, by have := hj.2; have := hal.size; omega⟩ : iv w2.heap.size (wr.alloc (.cells #[.int .i64 x.v, .int .i64 x.t.kind, .int .i64 x.t.num, .string x.t.name, .slice u1 x.t.args.length u2] 47)).heap.size j)))
      have HB1 := Lib.hid (belowOn HB.out (Nat.le_refl _) hal)
      have HU1 := Lib.hid (HU.out.kept hal)
      clear hal d0 d1 d2 d3 d4 HO HB HU
      generalize hw1 : wr.alloc (.cells #[.int .i64 x.v, .int .i64 x.t.kind, .int .i64 x.t.num, .string x.t.name, .slice u1 x.t.args.length u2] 47) = w3 at HBX HO1 HB1 HU1 ⊢
      clear hw1
      generalize wr.heap.size = nb at HBX ⊢
      have HMW : Hid (MapG w3 mb (getO t)) := Lib.hid ⟨n, f, hn, HM2.out.kept HB1.out, HMG.out, fun v p hp => (HMS.out v p hp).at.kept HB1.out⟩
      have HC := Lib.hid (apply_any mb t x.t _ w3 HMW.out HTP.out.fits HU1.out hxz HXO.out.2)
      have HFZ := Lib.hid (fitT_sz HTP.out.fits HXO.out.2)
      have HFY := Lib.hid (fun h => fit_yes (s := t) (t := x.t) h)
      have HFN := Lib.hid (fun h => fit_no (s := t) (t := x.t) h)
      generalize fitT t x.t = ft at HC HFZ HFY HFN
      generalize fitB t x.t = fb at HC HFY HFN
      obtain ⟨e0, e1, e2, e3, e4, ef⟩ := box_cells5 HBX.out.now
      go_wp2_with fail
      refine HC.out.mono ?_
      rintro e w4 ⟨u, rfl, hnt⟩
      obtain ⟨ua, uc, rfl⟩ := hnt.1.argsAt.slice
      have hb4 := belowAlloc hnt.2 (.cells #[.int .i64 ft.kind, .int .i64 ft.num, .string ft.name, .slice ua ft.args.length uc] 27)
      have HBX4 := Lib.hid (HBX.out.read hb4)
      have HFX4 := Lib.hid (at_box_of w4 #[.int .i64 ft.kind, .int .i64 ft.num, .string ft.name, .slice ua ft.args.length uc] 27 w4.heap.size rfl)
      have HO4 := Lib.hid (HO1.out.kept hb4)
      have HN4 : Hid (Own (w4.alloc (.cells #[.int .i64 ft.kind, .int .i64 ft.num, .string ft.name, .slice ua ft.args.length uc] 27)) 27 (iv w3.heap.size w4.heap.size) (.slice ua ft.args.length uc) ft.args) := Lib.hid (hnt.1.kept (belowAlloc (Below.refl _ _) _))
      have HB4 := Lib.hid (belowOn HB1.out (Nat.le_refl _) hb4)
      have HB3 := Lib.hid HB1.out.size
      have HS4 : Hid (w3.heap.size ≤ w4.heap.size ∧ w4.heap.size < (w4.alloc (.cells #[.int .i64 ft.kind, .int .i64 ft.num, .string ft.name, .slice ua ft.args.length uc] 27)).heap.size) := Lib.hid ⟨hnt.2.size, by simp⟩
      clear hb4 hnt HC e0 e1 e2 e3 e4 ef HBX HO1 HB1 HU1 HMW
      go_upto_region 9 with (fail)
      generalize hw1 : w4.alloc (.cells #[.int .i64 ft.kind, .int .i64 ft.num, .string ft.name, .slice ua ft.args.length uc] 27) = w5 at HBX4 HFX4 HO4 HN4 HB4 HS4 ⊢
      clear hw1
      obtain ⟨n4, hn4⟩ : ∃ n : Nat, n = w4.heap.size := ⟨_, rfl⟩
      rw [← hn4] at HFX4 HN4 HS4 ⊢
      clear hn4
      by_cases hfit : (putT t x.t).nodes ≤ 5000
      · obtain ⟨rfl, rfl⟩ := HFY.out hfit
        have HFIT := Lib.hid hfit
        have HMP : Hid ((s.take (k + 1)).map (mapped t) = (s.take k).map (mapped t) ++ [⟨x.v, putT t x.t⟩]) := Lib.hid (by rw [takeE HX.out, List.map_append]; rfl)
        clear hfit HFY HFN
        generalize putT t x.t = pt at HFX4 HN4 HFZ HMP HS4 HO4 HB4 HBX4 ⊢
        obtain ⟨L, C, hL1, hrow, hbk, hr, hC, hd⟩ := HO4.out.parts
        have hLn : k = L.length := by have := congrArg List.length hL1; rw [List.length_map, List.length_map, List.length_take] at this; omega
        rw [← hLn] at hrow
        have HROW := Lib.hid hrow
        have HPA := Lib.hid (And.intro hL1 (And.intro hLn (And.intro hbk (And.intro hr (And.intro hC hd)))))
        clear hL1 hLn hrow hbk hr hC hd HO4
        obtain ⟨e0, e1, e2, e3, e4, ef⟩ := box_cells5 HBX4.out.now
        obtain ⟨f0, f1, f2, f3⟩ := HFX4.out.cells
        have z1 := HFX4.out.le
        go_wp2_with (at_builtin; refine wpList_append_lies _ rfl _ _ 23 rfl 0 47 i0 _ 5 64 Tryz.underlying23 HII.out.1 HII.out.2.1 HII.out.2.2.1 HII.out.2.2.2 rfl (by omega) (.slice oa k oc) k (cellsE bdE L) rfl (HROW.out.alloc _) ⟨w5.heap.size, 0, none⟩ 1 1 (bdE.cells ⟨x.v, pt⟩ (.slice ua pt.args.length uc)) rfl rfl (World.news_of_block (heap_alloc_new w5 _)) (by simp [bdE, Value.oneCell']) (by omega) (by unfold maxLen; omega) (by omega) (Nat.zero_le _) (w5.heap.size + 1) (by simp) ?_; intro gg cap' w6 hown1 hgrow hat hlt1; have HAP := Lib.hid (And.intro hown1 (And.intro hgrow (And.intro hat hlt1))); clear hown1 hgrow hat hlt1)
        have HLO : Hid (ListO bdE 47 w6 (iv w2.heap.size w6.heap.size) (.slice (some ⟨gg, 0, none⟩) (k + 1) cap') ((s.take (k + 1)).map (mapped t))) := Lib.hid (by
          have hgs := HAP.out.2.1.size
          simp only [World.size_alloc] at hgs
          have hb4 := HB4.out.size
          have hs4 := HS4.out
          have h := listO_append (E := bdE) (x := ⟨x.v, pt⟩) (S' := iv w2.heap.size w6.heap.size) HPA.out.2.1 HPA.out.2.2.1 HPA.out.2.2.2.1 HPA.out.2.2.2.2.1 HPA.out.2.2.2.2.2 HN4.out (fun j hj => by have := hj.2; omega) (fun j hj => ⟨by have := hj.2; omega, fun h => by have h1 := hj.1; have h2 := h.2; omega⟩) (belowAlloc (Below.refl _ _) _) HAP.out.1 HAP.out.2.1 (HAP.out.2.2.1.imp id (fun h => by omega)) (fun j hj => by
            have hl := HAP.out.2.2.2
            rcases hj with hj | hj | hj
            · exact ⟨hj.1, by have := hj.2; omega⟩
            · exact ⟨by have := hj.1; have := HB3.out; omega, by have := hj.2; omega⟩
            · subst hj
              refine ⟨?_, hl⟩
              rcases HAP.out.2.2.1 with h | h
              · exact (HPA.out.2.2.1 _ h).1
              · omega)
          rw [← HPA.out.1, ← HMP.out] at h
          exact h)
        have HBF : Hid (Below w2.heap.size w2 w6) := Lib.hid ((belowAlloc HB4.out _).trans (below_of_grown HAP.out.2.1 (by have := HB4.out.size; simp; omega) (fun j hj => by have h := (HPA.out.2.2.1 j hj).1; omega)))
        clear HAP HPA HROW e0 e1 e2 e3 e4 ef f0 f1 f2 f3 z1
        go_roundw
        case rel =>
          refine ⟨k + 1, by omega, by go_num, HLO, Lib.hid fun i y hi hy => ?_, HBF⟩
          by_cases q : i = k
          · subst q
            cases hy.symm.trans HX.out
            exact HFIT.out
          · exact HN.out i y (by omega) hy
        case measure => simp [intOf]; omega
      · obtain ⟨rfl, rfl⟩ := HFN.out hfit
        obtain ⟨rfl, rfl⟩ := HNO.out fun h => hfit (h.2.2.1 x (List.mem_of_getElem? HX.out))
        clear hfit HFY HFN
        go_wp2
        go_ret2
        exact ⟨_, rfl, .nil, belowOn HW2.out (Nat.le_refl _) HB4.out⟩
    · obtain rfl : k = s.length := by omega
      obtain ⟨wo, rfl⟩ : ∃ wo : World, wo = wr := ⟨_, rfl⟩
      have HFITS := Lib.hid (fits_take HN.out)
      have HO3 : Hid (ListO bdE 47 wo (iv w2.heap.size wo.heap.size) (.slice oa s.length oc) (s.map (mapped t))) := Lib.hid (by have := HO.out; rw [List.take_length] at this; exact this)
      have HW3 := Lib.hid (belowOn HW2.out (Nat.le_refl _) HB.out)
      have HM3 : Hid (MapF wo mb n (without f (s.take 0))) := Lib.hid (by rw [List.take_zero, without_nil]; exact HM2.out.kept HB.out)
      have HLOW : Hid (w.heap.size ≤ mb ∧ mb < w2.heap.size ∧ w2.heap.size ≤ wo.heap.size ∧ w.heap.size ≤ w1.heap.size ∧ w1.heap.size ≤ mb) := Lib.hid ⟨by have := HW1.out.size; have := HMB.out; omega, HMBL.out, HB.out.size, HW1.out.size, HMB.out⟩
      clear HO HN
      go_wp2
      go_loopw [49] (fun cv wr => ∃ k : Nat, k ≤ s.length ∧ cv = .int .i64 k ∧ Hid (MapF wr mb n (without f (s.take k))) ∧ Hid (Only (fun j => j = mb) wo wr)) (fun cv _ => s.length - (intOf cv).toNat)
      case atStart => exact ⟨0, Nat.zero_le _, rfl, HM3, Lib.hid (Only.refl _ _)⟩
      case round =>
        obtain ⟨k, hk, rfl, HMK, HOK⟩ := hrel
        clear HM3
        have HWQ : Hid (Below w.heap.size w wr) := Lib.hid (below_after_only HW3.out HOK.out (fun j hj => by subst hj; exact HLOW.out.1) (by have := HLOW.out; omega))
        by_cases hlt : k < s.length
        · have hltI : (k : Int) < (s.length : Int) := by omega
          obtain ⟨x, hx⟩ : ∃ x, s[k]? = some x := ⟨_, List.getElem?_eq_getElem hlt⟩
          obtain ⟨g, off, u1, u2, rfl, hg, hq, hc, hu⟩ := HA.out.bd hx
          obtain ⟨d0, d1, d2, d3, d4⟩ := hc wr HWQ.out
          have HWX := Lib.hid (without_del (f := f) hx)
          have HWFX := Lib.hid (HF.out x (List.mem_of_getElem? hx))
          clear hq hc hu hx
          go_upto_region 16 with (fail)
          have hal : Below wr.heap.size wr (wr.alloc (.cells #[.int .i64 x.v, .int .i64 x.t.kind, .int .i64 x.t.num, .string x.t.name, .slice u1 x.t.args.length u2] 47)) := belowAlloc (Below.refl _ _) _
          have HBX := Lib.hid (at_box_of wr #[.int .i64 x.v, .int .i64 x.t.kind, .int .i64 x.t.num, .string x.t.name, .slice u1 x.t.args.length u2] 47 wr.heap.size rfl)
          have HM4 := Lib.hid (HMK.out.kept hal)
          have HO4 : Hid (Only (fun j => j = mb) wo (wr.alloc (.cells #[.int .i64 x.v, .int .i64 x.t.kind, .int .i64 x.t.num, .string x.t.name, .slice u1 x.t.args.length u2] 47))) := Lib.hid (HOK.out.trans (Only.of_below hal))
          clear hal d0 d1 d2 d3 d4 HMK HOK HWQ
          generalize hw1 : wr.alloc (.cells #[.int .i64 x.v, .int .i64 x.t.kind, .int .i64 x.t.num, .string x.t.name, .slice u1 x.t.args.length u2] 47) = w4 at HBX HM4 HO4 ⊢
          clear hw1
          generalize wr.heap.size = nb at HBX ⊢
          obtain ⟨e0, e1, e2, e3, e4, ef⟩ := box_cells5 HBX.out.now
          go_wp2_with (at_delete; refine wpList_del _ rfl _ _ rfl mb n (without f (s.take k)) rfl HM4.out x.v rfl HWFX.out ?_; intro w5 hm5 hg5; have HG := Lib.hid (And.intro hm5 hg5); clear hm5 hg5)
          have HO5 : Hid (Only (fun j => j = mb) wo w5) := Lib.hid (HO4.out.trans (Only.of_grown HG.out.2 rfl))
          clear e0 e1 e2 e3 e4 ef
          go_roundw
          case rel => exact ⟨k + 1, by omega, by go_num, Lib.hid (by rw [← HWX.out]; exact HG.out.1), HO5⟩
          case measure => simp [intOf]; omega
        · obtain rfl : k = s.length := by omega
          have HMF : Hid (MapF wr mb n (without f s)) := Lib.hid (by have := HMK.out; rw [List.take_length] at this; exact this)
          have HLQ : Hid (ListO bdE 47 wr (iv w2.heap.size wo.heap.size) (.slice oa s.length oc) (s.map (mapped t))) := Lib.hid (HO3.out.only HOK.out fun j hj e => by subst e; have := HLOW.out; have := hj.1; omega)
          have HSQ := Lib.hid HOK.out.size
          have HARG : Hid (∀ v p, without f s v = some p → ArgsAt wr p.2 p.1.args ∧ p.1.sz ≤ 1048576 ∧ Good p.1) := Lib.hid fun v p hp => by
            have hfp : f v = some p := by
              unfold without at hp
              split at hp
              · cases hp
              · exact hp
            have hg : getO t v = some p.1 := by rw [← HMG.out v, hfp]; rfl
            obtain ⟨ho, hz⟩ := HTP.out.fits.get hg
            have hfr := (HMS.out v p hfp).kept HB.out
            have hlow := HLOW.out
            exact ⟨(hfr.frame HOK.out.size fun j hj hjs => HOK.out.block j hjs (fun e => by subst e; omega)).at, hz, ho.2⟩
          have HC := Lib.hid (bindings_any mb n (without f s) wr HMF.out HARG.out hn)
          clear HMK HOK HO3
          go_wp2_with fail
          refine HC.out.mono ?_
          rintro e w5 ⟨V2, l2, rfl, hl2, hni, hbo, hln, hb5⟩
          have HPR := Lib.hid (binds_rest HTP.out HMG.out hbo)
          have HL5 := Lib.hid (HLQ.out.kept hb5)
          have HW5 := Lib.hid (belowOn HWQ.out (Nat.le_refl _) hb5)
          have HS5 := Lib.hid hb5.size
          have hl2n : l2.length ≤ 1048576 := by omega
          obtain ⟨L, C, hL1, hrow, hbk, hr, hC, hd⟩ := HL5.out.parts
          have hLn : s.length = L.length := by have := congrArg List.length hL1; rw [List.length_map, List.length_map] at this; exact this
          rw [← hLn] at hrow
          have HROW := Lib.hid hrow
          have HPA := Lib.hid (And.intro hL1 (And.intro hLn (And.intro hbk (And.intro hr (And.intro hC hd)))))
          clear hL1 hLn hrow hbk hr hC hd HC hbo hb5 HMF HARG hln
          rcases listO_cases hl2 with ⟨rfl, rfl⟩ | ⟨g2, cap2, M, D, rfl, hlM, hg2, hownM, hrM, hDM, hdM⟩
          · clear hl2 hni
            go_wp2_with (at_builtin; refine wpList_append_own_none rfl _ _ 23 rfl 0 47 i0 5 Tryz.underlying23 HII.out.1 (.slice oa s.length oc) s.length (cellsE bdE L) rfl HROW.out rfl ?_)
            have HL6 : Hid (ListO bdE 47 w5 (iv w2.heap.size w5.heap.size) (.slice oa s.length oc) (s.map (mapped t) ++ [])) := Lib.hid (by
              rw [List.append_nil]
              exact HL5.out.sub fun j hj => ⟨hj.1, by have := hj.2; have := HS5.out; have := HSQ.out; omega⟩)
            have hlen6 : (s.map (mapped t) ++ []).length ≤ 4194304 := by rw [List.length_append, List.length_map]; simp; omega
            have HW6 := HW5
            have HS6 : Hid (w2.heap.size ≤ w5.heap.size) := Lib.hid (by have := HS5.out; have := HSQ.out; have := HLOW.out; omega)
            clear HPA HROW
            have HC := Lib.hid (sortB_any _ _ _ w5 HL6.out hlen6)
            go_wp2_with fail
            refine HC.out.mono ?_
            rintro e w7 ⟨rfl, m, hpm, hpw, hlm, hom⟩
            have HMC := Lib.hid (sorted_is HSP.out HTP.out HPR.out hpm hpw)
            have HW7 : Hid (Below w.heap.size w w7) := Lib.hid (below_after_only HW6.out hom (fun j hj => by have := hj.1; have := HLOW.out; omega) HW6.out.size)
            have HL7 := Lib.hid hlm
            have HS7 := Lib.hid hom.size
            clear hpm hpw hlm hom HC hlen6
            have HCB : Hid (EachB m ∧ ∀ b ∈ m, wfI b.v) := Lib.hid (by rw [HMC.out]; exact ⟨cmpB_each HSP.out HTP.out HFITS.out, rest_vars HSP.out HTP.out⟩)
            have HC := Lib.hid (implSubstOk_e m _ w7 HL7.out.inS.any HCB.out.1 HCB.out.2)
            have HR : Hid ((substB m = true → rl = m ∧ rb = true) ∧ (substB m = false → rl = [] ∧ rb = false)) := Lib.hid (by
              rw [HMC.out]
              exact ⟨fun h => HYES.out ⟨HSP.out, HTP.out, HFITS.out, substB_true.1 h⟩, fun h => HNO.out fun hc => substB_false.1 h hc.2.2.2⟩)
            go_wp2_with fail
            refine HC.out.mono ?_
            rintro e w8 ⟨rfl, hb⟩
            have HW8 := Lib.hid (belowOn HW7.out (Nat.le_refl _) hb)
            have HL8 := Lib.hid (HL7.out.kept hb)
            have HS8 := Lib.hid hb.size
            clear hb HC
            cases hcs : substB m with
            | false =>
              obtain ⟨rfl, rfl⟩ := HR.out.2 hcs
              clear hcs
              go_wp2
              go_ret2
              exact ⟨_, rfl, .nil, HW8.out⟩
            | true =>
              obtain ⟨rfl, rfl⟩ := HR.out.1 hcs
              clear hcs
              go_wp2
              go_ret2
              exact ⟨_, rfl, HL8.out.sub fun j hj => ⟨by have := hj.1; have := HLOW.out; have := HS6.out; omega, by have := hj.2; have := HS7.out; have := HS8.out; omega⟩, HW8.out⟩
          · have hMp : 0 < M.length := by
              rcases Nat.eq_zero_or_pos M.length with h | h
              · have h1 := hni (by rw [hlM, List.length_eq_zero_iff.1 h]; rfl)
                simp at h1
              · exact h
            have hMl : M.length ≤ 1048576 := by rw [hlM, List.length_map] at hl2n; exact hl2n
            have HMM := Lib.hid (And.intro hlM (And.intro hg2 (And.intro hrM (And.intro hDM hdM))))
            have HNEW := Lib.hid (row_news hownM rfl)
            have HONE : Hid (∀ u ∈ cellsE bdE M, u.oneCell' = true) := Lib.hid (bd_one fun j p hj => by
              obtain ⟨a, c, ha⟩ := (show Own w5 27 (D j) p.2 p.1.t.args from hrM j p hj).argsAt.slice
              rw [ha]; rfl)
            have HCL := Lib.hid (cellsE_length bdE M)
            clear hl2 hni hlM hg2 hownM hrM hDM hdM
            go_wp2_with (at_builtin; refine wpList_append_lies _ rfl _ _ 23 rfl 0 47 i0 _ 5 64 Tryz.underlying23 HII.out.1 HII.out.2.1 HII.out.2.2.1 HII.out.2.2.2 rfl (by omega) (.slice oa s.length oc) s.length (cellsE bdE L) rfl HROW.out ⟨g2, 0, none⟩ M.length cap2 (cellsE bdE M) rfl HCL.out HNEW.out HONE.out hMp (by unfold maxLen; omega) (by omega) (Nat.zero_le _) w5.heap.size rfl ?_; intro gg cap' w6 hown1 hgrow hat hlt1; have HAP := Lib.hid (And.intro hown1 (And.intro hgrow (And.intro hat hlt1))); clear hown1 hgrow hat hlt1)
            have HS6 : Hid (w2.heap.size ≤ w6.heap.size ∧ w5.heap.size ≤ w6.heap.size) := Lib.hid (by have := HS5.out; have := HSQ.out; have := HLOW.out; have := HAP.out.2.1.size; omega)
            have HL6 : Hid (ListO bdE 47 w6 (iv w2.heap.size w6.heap.size) (.slice (some ⟨gg, 0, none⟩) (s.length + M.length) cap') (s.map (mapped t) ++ l2)) := Lib.hid (by
              have hs5 := HS5.out
              have hsq := HSQ.out
              have hlow := HLOW.out
              have hs6 := HS6.out
              have h := listO_both (E := bdE) (S := iv w2.heap.size wo.heap.size) (Su := iv wr.heap.size w5.heap.size) (S' := iv w2.heap.size w6.heap.size) HPA.out.2.1 rfl HPA.out.2.2.1 HPA.out.2.2.2.1 HPA.out.2.2.2.2.1 HPA.out.2.2.2.2.2 HMM.out.2.2.1 (fun j k hj hk => (HMM.out.2.2.2.1 j k hj hk).1) HMM.out.2.2.2.2 (fun j hj => by have := hj.2; omega) (fun j hj => ⟨hj.2, fun h => by have h1 := hj.1; have h2 := h.2; omega⟩) (Below.refl w5.heap.size w5) HAP.out.1 HAP.out.2.1 (HAP.out.2.2.1.imp id (fun h => by omega)) (fun j hj => by
                have hl := HAP.out.2.2.2
                rcases hj with hj | hj | hj
                · exact ⟨hj.1, by have := hj.2; omega⟩
                · exact ⟨by have := hj.1; omega, by have := hj.2; omega⟩
                · subst hj
                  refine ⟨?_, hl⟩
                  rcases HAP.out.2.2.1 with h | h
                  · exact (HPA.out.2.2.1 _ h).1
                  · omega)
              rw [← HPA.out.1, ← HMM.out.1] at h
              exact h)
            have hlen6 : (s.map (mapped t) ++ l2).length ≤ 4194304 := by rw [List.length_append, List.length_map]; have := HMM.out.1; rw [this, List.length_map]; omega
            have HW6 : Hid (Below w.heap.size w w6) := Lib.hid (HW5.out.trans (below_of_grown HAP.out.2.1 HW5.out.size (fun j hj => by have h := (HPA.out.2.2.1 j hj).1; have := HLOW.out; omega)))
            replace HS6 : Hid (w2.heap.size ≤ w6.heap.size) := Lib.hid HS6.out.1
            clear HPA HROW HAP HMM HNEW HONE HCL
            have HC := Lib.hid (sortB_any _ _ _ w6 HL6.out hlen6)
            go_wp2_with fail
            refine HC.out.mono ?_
            rintro e w7 ⟨rfl, m, hpm, hpw, hlm, hom⟩
            have HMC := Lib.hid (sorted_is HSP.out HTP.out HPR.out hpm hpw)
            have HW7 : Hid (Below w.heap.size w w7) := Lib.hid (below_after_only HW6.out hom (fun j hj => by have := hj.1; have := HLOW.out; omega) HW6.out.size)
            have HL7 := Lib.hid hlm
            have HS7 := Lib.hid hom.size
            clear hpm hpw hlm hom HC hlen6
            have HCB : Hid (EachB m ∧ ∀ b ∈ m, wfI b.v) := Lib.hid (by rw [HMC.out]; exact ⟨cmpB_each HSP.out HTP.out HFITS.out, rest_vars HSP.out HTP.out⟩)
            have HC := Lib.hid (implSubstOk_e m _ w7 HL7.out.inS.any HCB.out.1 HCB.out.2)
            have HR : Hid ((substB m = true → rl = m ∧ rb = true) ∧ (substB m = false → rl = [] ∧ rb = false)) := Lib.hid (by
              rw [HMC.out]
              exact ⟨fun h => HYES.out ⟨HSP.out, HTP.out, HFITS.out, substB_true.1 h⟩, fun h => HNO.out fun hc => substB_false.1 h hc.2.2.2⟩)
            go_wp2_with fail
            refine HC.out.mono ?_
            rintro e w8 ⟨rfl, hb⟩
            have HW8 := Lib.hid (belowOn HW7.out (Nat.le_refl _) hb)
            have HL8 := Lib.hid (HL7.out.kept hb)
            have HS8 := Lib.hid hb.size
            clear hb HC
            cases hcs : substB m with
            | false =>
              obtain ⟨rfl, rfl⟩ := HR.out.2 hcs
              clear hcs
              go_wp2
              go_ret2
              exact ⟨_, rfl, .nil, HW8.out⟩
            | true =>
              obtain ⟨rfl, rfl⟩ := HR.out.1 hcs
              clear hcs
              go_wp2
              go_ret2
              exact ⟨_, rfl, HL8.out.sub fun j hj => ⟨by have := hj.1; have := HLOW.out; have := HS6.out; omega, by have := hj.2; have := HS7.out; have := HS8.out; omega⟩, HW8.out⟩
end Go.Proofs.YtnbnepeikdieaaaGreatDoor

