/-
  The bindings of the program's map, in any order; a row appended to an owned one.
-/
import Derived.Test.YtjmmeccfjanpcaaImplSubs
import Derived.Deep.AppendLies
namespace Go.Proofs.Ytjmmeccfjanpcaa
open Go.RowKit
set_option linter.unusedVariables false
set_option linter.unusedSimpArgs false

/-- What has come out of a map, what is left aside. -/
structure Got (f : Ent) (left : Int → Bool) (l : List Bd) : Prop where
  come : ∀ b ∈ l, (∃ U, f b.v = some (b.t, U)) ∧ left b.v = false
  once : l.Pairwise fun a b => ¬ a.v = b.v
  all : ∀ v, (f v).isSome = true → left v = false → ∃ b ∈ l, b.v = v
theorem got_start (f : Ent) : Got f (fun v => (f v).isSome) [] := ⟨fun b hb => by simp at hb, List.Pairwise.nil, fun v h1 h2 => by rw [h1] at h2; cases h2⟩
theorem Got.step {f : Ent} {left : Int → Bool} {l : List Bd} (h : Got f left l) {v : Int} {t : Tm} {U : Value} (hl : left v = true) (hf : f v = some (t, U)) : Got f (fun x => left x && !decide (x = v)) (l ++ [⟨v, t⟩]) := by
  refine ⟨fun b hb => ?_, ?_, fun x hx hlx => ?_⟩
  · rcases List.mem_append.1 hb with hb | hb
    · obtain ⟨h1, h2⟩ := h.come b hb
      exact ⟨h1, by rw [h2]; rfl⟩
    · simp at hb
      subst hb
      exact ⟨⟨U, hf⟩, by simp⟩
  · rw [List.pairwise_append]
    refine ⟨h.once, List.pairwise_singleton _ _, fun a ha b hb => ?_⟩
    simp at hb
    subst hb
    intro e
    have e' : a.v = v := e
    have := (h.come a ha).2
    rw [e', hl] at this
    cases this
  · by_cases e : x = v
    · subst e
      exact ⟨⟨x, t⟩, by simp, rfl⟩
    · have : left x = false := by simpa [e] using hlx
      obtain ⟨b, hb, hbv⟩ := h.all x hx this
      exact ⟨b, by simp [hb], hbv⟩
/-- All of a map, once each. -/
structure BindsOf (f : Ent) (l : List Bd) : Prop where
  come : ∀ b ∈ l, ∃ U, f b.v = some (b.t, U)
  once : l.Pairwise fun a b => ¬ a.v = b.v
  all : ∀ v, (f v).isSome = true → ∃ b ∈ l, b.v = v
theorem Got.fin {f : Ent} {left : Int → Bool} {l : List Bd} (h : Got f left l) (hl : ∀ v, left v = false) : BindsOf f l := ⟨fun b hb => (h.come b hb).1, h.once, fun v hv => h.all v hv (hl v)⟩

theorem heap_next {w w' : World} {r lo : Nat} (hg : w.grownBy w' (some r)) (hr : r < lo) : ∀ k, lo ≤ k → k < w.heap.size → w'.heap[k]? = w.heap[k]? := fun k h1 h2 => hg.block k h2 (fun e => by cases e; omega)

set_option maxRecDepth 100000 in
set_option maxHeartbeats 4000000 in
theorem bindings_any (b n : Nat) (f : Ent) (w : World) (hM : MapF w b n f) (hA : ∀ v p, f v = some p → ArgsAt w p.2 p.1.args ∧ p.1.sz ≤ 1048576 ∧ Good p.1) (hn : n ≤ 1048576) :
    Calls Try.prog 60 #[.map (some b)] w fun e w' => ∃ V l, e = .returned V ∧ ListO bdE 58 w' (iv w.heap.size w'.heap.size) V l ∧ (l = [] → V = .slice none 0 0) ∧ BindsOf f l ∧ l.length ≤ n ∧ Below w.heap.size w w' := by
  obtain ⟨i0, hi, hz0, hz1, hz2⟩ := info_parts infoBinding
  have HII := Lib.hid (And.intro hi (And.intro hz0 (And.intro hz1 hz2)))
  have HM := Lib.hid hM
  have HA := Lib.hid hA
  clear hi hz0 hz1 hz2 hM hA
  go_enter Try.func60, Try.ntmps60
  go_wp2_with (at_range; refine wpList_rangeF _ rfl _ rfl b n f rfl HM.out ?_; intro w0 cnt0 hc0 hrg0 hb0 hs0)
  have HR0 := Lib.hid hrg0
  have HB0 := Lib.hid hb0
  have HS0 := Lib.hid hs0
  have HG0 := Lib.hid (got_start f)
  clear hrg0 hb0 hs0
  go_frame
  go_loopw [3] (fun lv wr => ∃ (left : Int → Bool) (cnt : Nat) (l : List Bd), Hid (RanF wr b w.heap.size n f left cnt) ∧ Hid (ListO bdE 58 wr (iv (w.heap.size + 1) wr.heap.size) lv l) ∧ Hid (Got f left l) ∧ Hid (l = [] → lv = .slice none 0 0) ∧ l.length + cnt ≤ n ∧ Hid (Below w.heap.size w wr) ∧ Hid (w.heap.size + 1 ≤ wr.heap.size)) (fun _ wr => wr.rangeLeft b w.heap.size)
  case atStart => exact ⟨_, cnt0, [], HR0, Lib.hid .nil, HG0, Lib.hid (fun _ => rfl), by simpa using hc0, HB0, Lib.hid (by rw [HS0.out]; exact Nat.le_refl _)⟩
  case round =>
    obtain ⟨left, cnt, l, HR, HO, HG, HNI, hlc, HB, HSZ⟩ := hrel
    obtain ⟨oa, oc, rfl⟩ := HO.out.slice
    clear HR0 HB0 HS0 HG0 hc0
    have hrl := HR.out.left_eq
    have HRL := Lib.hid hrl
    clear hrl
    go_wp2_with (at_next; refine wpList_nextF _ rfl _ rfl b w.heap.size n cnt f left rfl HR.out ?_ ?_)
    · intro hc1 hl0
      have HF := Lib.hid (HG.out.fin hl0)
      clear hl0
      go_wp2
      go_ret
      exact ⟨_, l, rfl, HO.out.sub fun k hk => ⟨by have := hk.1; omega, hk.2⟩, HNI.out, HF.out, by omega, HB.out⟩
    · intro v t U w1 cnt1 hwf hlv hfv hrg hlt hgr hsz hen
      obtain ⟨hat, htz, htg⟩ := HA.out v (t, U) hfv
      obtain ⟨ua, uc, rfl⟩ := (show ArgsAt w U t.args from hat).slice
      have HB1 : Hid (Below w.heap.size w w1) := Lib.hid (HB.out.trans (below_of_grown hgr HB.out.size (fun j hj => by cases hj; exact Nat.le_refl _)))
      have HAT := Lib.hid (show ArgsAt w1 (.slice ua t.args.length uc) t.args from hat.kept HB1.out)
      have HTG := Lib.hid (show Good t from htg)
      have htz' : t.sz ≤ 1048576 := htz
      have HRN := Lib.hid hrg
      have HGN := Lib.hid (HG.out.step hlv hfv)
      have HON : Hid (ListO bdE 58 w1 (iv (w.heap.size + 1) w1.heap.size) (.slice oa l.length oc) l) := Lib.hid ((HO.out.frame fun k hk hks => hgr.block k hks (fun e => by cases e; have := hk.1; omega)).sub fun k hk => ⟨hk.1, by rw [hsz]; exact hk.2⟩)
      have HSZ1 : Hid (w.heap.size + 1 ≤ w1.heap.size) := Lib.hid (by rw [hsz]; exact HSZ.out)
      clear hrg hgr hat htz htg hfv hlv hwf hsz HR HO HG HB HSZ
      go_upto_region 5 with (fail)
      have hal : Below w1.heap.size w1 (w1.alloc (.cells #[.int .i64 t.kind, .int .i64 t.num, .string t.name, .slice ua t.args.length uc] 31)) := belowAlloc (Below.refl _ _) _
      have HBX := Lib.hid (at_box_of w1 #[.int .i64 t.kind, .int .i64 t.num, .string t.name, .slice ua t.args.length uc] 31 w1.heap.size rfl)
      have HO1 := Lib.hid ((HON.out.kept hal).sub (fun j hj => (⟨hj.1, by have := hj.2; have := hal.size; omega⟩ : iv (w.heap.size + 1) (w1.alloc (.cells #[.int .i64 t.kind, .int .i64 t.num, .string t.name, .slice ua t.args.length uc] 31)).heap.size j)))
      have HB2 := Lib.hid (belowOn HB1.out (Nat.le_refl _) hal)
      have HA2 := Lib.hid (HAT.out.kept hal)
      have HR2 := Lib.hid (HRN.out.kept hal)
      have HSZ2 : Hid (w.heap.size + 1 ≤ (w1.alloc (.cells #[.int .i64 t.kind, .int .i64 t.num, .string t.name, .slice ua t.args.length uc] 31)).heap.size) := Lib.hid (Nat.le_trans HSZ1.out hal.size)
      clear hal hen HON HB1 HAT HRN HSZ1
      generalize hw1 : w1.alloc (.cells #[.int .i64 t.kind, .int .i64 t.num, .string t.name, .slice ua t.args.length uc] 31) = w2 at HBX HO1 HB2 HA2 HR2 HSZ2 ⊢
      clear hw1
      generalize w1.heap.size = nb at HBX ⊢
      have HCO := Lib.hid (copied_any (t.nodes + 1) t _ w2 (Nat.lt_succ_self _) HA2.out htz' HTG.out)
      obtain ⟨c0, c1, c2, c3⟩ := HBX.out.cells
      have z0 := HBX.out.le
      go_wp2_with fail
      refine HCO.out.mono ?_
      rintro e w3 ⟨u, rfl, hnt⟩
      obtain ⟨va, vc, rfl⟩ := hnt.1.argsAt.slice
      have HN := Lib.hid hnt
      obtain ⟨L, C, hL1, hrow, hbk, hr, hC, hd⟩ := (HO1.out.kept hnt.2).parts
      obtain ⟨m, hm⟩ : ∃ m, m = l.length := ⟨_, rfl⟩
      have hmn : m ≤ 1048576 := by omega
      have hLn : m = L.length := by have := congrArg List.length hL1; rw [List.length_map, ← hm] at this; exact this
      rw [← hLn, ← hm] at hrow
      rw [← hm] at hbk hC ⊢
      have HROW := Lib.hid hrow
      have HPA := Lib.hid (And.intro hL1 (And.intro hLn (And.intro hbk (And.intro hr (And.intro hC hd)))))
      have HB3 := Lib.hid (belowOn HB2.out (Nat.le_refl _) hnt.2)
      have HR3 := Lib.hid (HR2.out.kept hnt.2)
      have HSZ3 : Hid (w.heap.size + 1 ≤ w3.heap.size) := Lib.hid (Nat.le_trans HSZ2.out hnt.2.size)
      have HS23 := Lib.hid hnt.2.size
      have HMM := Lib.hid hm
      clear hL1 hLn hrow hbk hr hC hd hnt HCO c0 c1 c2 c3 z0 hm
      go_wp2_with (at_builtin; refine wpList_append_lies _ rfl _ _ 25 rfl 0 58 i0 _ 5 64 Try.underlying25 HII.out.1 HII.out.2.1 HII.out.2.2.1 HII.out.2.2.2 rfl (by omega) (.slice oa m oc) m (cellsE bdE L) rfl (HROW.out.alloc _) ⟨w3.heap.size, 0, none⟩ 1 1 (bdE.cells ⟨v, t⟩ (.slice va t.args.length vc)) rfl rfl (World.news_of_block (heap_alloc_new w3 _)) (by simp [bdE, Value.oneCell']) (by omega) (by unfold maxLen; omega) (by omega) (Nat.zero_le _) (w3.heap.size + 1) (by simp) ?_; intro gg cap' w4 hown1 hgrow hat hlt1; have HAP := Lib.hid (And.intro hown1 (And.intro hgrow (And.intro hat hlt1))); clear hown1 hgrow hat hlt1)
      have HLO : Hid (ListO bdE 58 w4 (iv (w.heap.size + 1) w4.heap.size) (.slice (some ⟨gg, 0, none⟩) (m + 1) cap') (l ++ [⟨v, t⟩])) := Lib.hid (by
        have hgs := HAP.out.2.1.size
        simp only [World.size_alloc] at hgs
        have hb1 := HSZ2.out
        have hb2 := HSZ3.out
        have h := listO_append (E := bdE) (x := ⟨v, t⟩) (S' := iv (w.heap.size + 1) w4.heap.size) HPA.out.2.1 HPA.out.2.2.1 HPA.out.2.2.2.1 HPA.out.2.2.2.2.1 HPA.out.2.2.2.2.2 HN.out.1 (fun j hj => by have := hj.2; have := HS23.out; omega) (fun j hj => ⟨hj.2, fun h => by have h1 := hj.1; have h2 := h.2; omega⟩) (belowAlloc (Below.refl _ _) _) HAP.out.1 HAP.out.2.1 (HAP.out.2.2.1.imp id (fun h => by omega)) (fun j hj => by
          have hl := HAP.out.2.2.2
          have h23 := HS23.out
          rcases hj with hj | hj | hj
          · exact ⟨hj.1, by have := hj.2; omega⟩
          · exact ⟨by have := hj.1; omega, by have := hj.2; omega⟩
          · subst hj
            refine ⟨?_, hl⟩
            rcases HAP.out.2.2.1 with h | h
            · exact (HPA.out.2.2.1 _ h).1
            · omega)
        rw [← HPA.out.1] at h
        exact h)
      have HBF : Hid (Below w.heap.size w w4) := Lib.hid ((belowAlloc HB3.out _).trans (below_of_grown HAP.out.2.1 (by have := HSZ3.out; simp; omega) (fun j hj => by have h := (HPA.out.2.2.1 j hj).1; omega)))
      have HRF : Hid (RanF w4 b w.heap.size n f (fun x => left x && !decide (x = v)) cnt1) := Lib.hid (by
        have h1 := HR3.out.kept (belowAlloc (Below.refl _ _) (.cells #[.int .i64 v, .int .i64 t.kind, .int .i64 t.num, .string t.name, .slice va t.args.length vc] 58))
        have hlt := HM.out.lt
        refine h1.frame (HAP.out.2.1.block b h1.lt.1 (fun e => ?_)) (HAP.out.2.1.block w.heap.size h1.lt.2.1 (fun e => ?_))
        · have := (HPA.out.2.2.1 b e.symm).1; omega
        · have := (HPA.out.2.2.1 w.heap.size e.symm).1; omega)
      have HSF : Hid (w.heap.size + 1 ≤ w4.heap.size) := Lib.hid (by have hgs := HAP.out.2.1.size; simp only [World.size_alloc] at hgs; have := HSZ3.out; omega)
      clear HAP HPA HROW HN HSZ2 HSZ3 HS23 HB2 HB3 HR2 HR3 HO1 HBX
      go_roundw
      case rel => exact ⟨_, cnt1, l ++ [⟨v, t⟩], HRF, HLO, HGN, Lib.hid (fun h => by simp at h), by have := HMM.out; rw [List.length_append, List.length_singleton]; omega, HBF, HSF⟩
      case measure => rw [HRF.out.left_eq, HRL.out]; omega
end Go.Proofs.Ytjmmeccfjanpcaa

