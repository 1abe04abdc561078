/-
  The order of terms: the contract of the model's l02Cmp; CompareTerms on both sides.
-/
import Derived.Test.YtokndpmoamjbfaaCmp
namespace Go.Proofs.Ytokndpmoamjbfaa
open Go.RowKit
set_option linter.unusedVariables false
set_option linter.unusedSimpArgs false

theorem cmpI_ne {x y : Int} (h : ¬ x = y) : cmpI x y = (if decide (x < y) = true then -1 else 1) := by
  unfold cmpI
  by_cases h1 : x < y
  · simp [h1]
  · have h2 : y < x := by omega
    simp [h1, h2]
theorem cmpI_self (x : Int) : cmpI x x = 0 := by unfold cmpI; split <;> (try split) <;> omega
theorem cmpS_self (x : ByteArray) : cmpS x x = 0 := by unfold cmpS; rw [if_pos rfl]
theorem cmpS_ne {x y : ByteArray} (h : ¬ x = y) : cmpS x y = (if Op.bytesLess x.toList y.toList = true then -1 else 1) := by unfold cmpS; rw [if_neg h]
theorem pm_ne {b : Bool} : ¬ (if b = true then (-1 : Int) else 1) = 0 := by cases b <;> simp
theorem cmp_by_kind {a b : Tm} (h : ¬ a.kind = b.kind) : a.cmp b = (if decide (a.kind < b.kind) = true then -1 else 1) := by
  have e : cmpN a b = (if decide (a.kind < b.kind) = true then -1 else 1) := by unfold cmpN or3; rw [cmpI_ne h, if_pos pm_ne]
  rw [cmp_of_num (by rw [e]; exact pm_ne), e]
theorem cmp_by_num {a b : Tm} (h0 : a.kind = b.kind) (h : ¬ a.num = b.num) : a.cmp b = (if decide (a.num < b.num) = true then -1 else 1) := by
  have e : cmpN a b = (if decide (a.num < b.num) = true then -1 else 1) := by unfold cmpN or3; rw [h0, cmpI_self, if_neg (by simp), cmpI_ne h, if_pos pm_ne]
  rw [cmp_of_num (by rw [e]; exact pm_ne), e]
theorem cmp_by_name {a b : Tm} (h0 : a.kind = b.kind) (h1 : a.num = b.num) (h : ¬ a.name = b.name) : a.cmp b = (if Op.bytesLess a.name.toList b.name.toList = true then -1 else 1) := by
  have e : cmpN a b = (if Op.bytesLess a.name.toList b.name.toList = true then -1 else 1) := by unfold cmpN or3; rw [h0, h1, cmpI_self, if_neg (by simp), cmpI_self, if_neg (by simp), cmpS_ne h]
  rw [cmp_of_num (by rw [e]; exact pm_ne), e]
theorem cmp_by_args {a b : Tm} (h0 : a.kind = b.kind) (h1 : a.num = b.num) (h2 : a.name = b.name) : a.cmp b = cmpL a.args b.args :=
  cmp_of_args (by unfold cmpN or3; rw [h0, h1, h2, cmpI_self, if_neg (by simp), cmpI_self, if_neg (by simp), cmpS_self])
theorem cmpL_drop {l m : List Tm} {k : Nat} {x y : Tm} (hx : l[k]? = some x) (hy : m[k]? = some y) : cmpL (l.drop k) (m.drop k) = if ¬ x.cmp y = 0 then x.cmp y else cmpL (l.drop (k + 1)) (m.drop (k + 1)) := by
  obtain ⟨h1, rfl⟩ := List.getElem?_eq_some_iff.1 hx
  obtain ⟨h2, rfl⟩ := List.getElem?_eq_some_iff.1 hy
  rw [List.drop_eq_getElem_cons h1, List.drop_eq_getElem_cons h2, cmpL]
theorem cmpL_end {l m : List Tm} {k : Nat} (h : l.length ≤ k ∨ m.length ≤ k) : cmpL (l.drop k) (m.drop k) = 0 := by
  rcases h with h | h
  · rw [List.drop_of_length_le h, cmpL]
  · rw [List.drop_of_length_le h]
    cases l.drop k with
    | nil => rw [cmpL]
    | cons x l => rw [cmpL]

noncomputable def cmpOf (a b : Tm) : Int := if (okB a && okB b) = true then a.cmp b else 2

set_option maxRecDepth 100000 in
set_option maxHeartbeats 1600000 in
theorem implCompareTerms_any (a : Tm) (Va : Value) (b : Tm) (Vb : Value) (w : World) (hA : ArgsAt w Va a.args) (hZa : a.sz ≤ 1048576) (hB : ArgsAt w Vb b.args) (hZb : b.sz ≤ 1048576) :
    Calls Try.prog 16 #[.agg #[.int .i64 a.kind, .int .i64 a.num, .string a.name, Va], .agg #[.int .i64 b.kind, .int .i64 b.num, .string b.name, Vb]] w fun e w' => e = .returned (.int .i64 (cmpOf a b)) ∧ Below w.heap.size w w' := by
    obtain ⟨aa, ca, rfl⟩ := hA.slice
    obtain ⟨ab, cb, rfl⟩ := hB.slice
    have HA := Lib.hid (at_args hA)
    have HB := Lib.hid (at_args hB)
    clear hA hB
    have HW : Hid (Below w.heap.size w w) := Lib.hid (Below.refl _ _)
    have hal : Below w.heap.size w (w.alloc (.cells #[.int .i64 a.kind, .int .i64 a.num, .string a.name, .slice aa a.args.length ca] 25)) := (Below.refl _ _).alloc (Nat.le_refl _) _
    replace HA := Lib.hid (HA.out.read hal)
    replace HB := Lib.hid (HB.out.read hal)
    replace HW := Lib.hid (belowOn HW.out (Nat.le_refl _) hal)
    have HX := Lib.hid (at_box_of w #[.int .i64 a.kind, .int .i64 a.num, .string a.name, .slice aa a.args.length ca] 25 (w.heap.size) rfl)
    have hal2 := (Below.refl (w.alloc (.cells #[.int .i64 a.kind, .int .i64 a.num, .string a.name, .slice aa a.args.length ca] 25)).heap.size (w.alloc (.cells #[.int .i64 a.kind, .int .i64 a.num, .string a.name, .slice aa a.args.length ca] 25))).alloc (Nat.le_refl _) (.cells #[.int .i64 b.kind, .int .i64 b.num, .string b.name, .slice ab b.args.length cb] 25)
    replace HA := Lib.hid (HA.out.read hal2)
    replace HB := Lib.hid (HB.out.read hal2)
    replace HX := Lib.hid (HX.out.read hal2)
    replace HW := Lib.hid (belowOn HW.out (Nat.le_refl _) hal2)
    have HY := Lib.hid (at_box_of (w.alloc (.cells #[.int .i64 a.kind, .int .i64 a.num, .string a.name, .slice aa a.args.length ca] 25)) #[.int .i64 b.kind, .int .i64 b.num, .string b.name, .slice ab b.args.length cb] 25 (w.heap.size + 1) (by simp))
    clear hal hal2
    go_enter Try.func16, Try.ntmps16
    go_upto_region 1 with (fail)
    generalize hw0 : (w.alloc (.cells #[.int .i64 a.kind, .int .i64 a.num, .string a.name, .slice aa a.args.length ca] 25)).alloc (.cells #[.int .i64 b.kind, .int .i64 b.num, .string b.name, .slice ab b.args.length cb] 25) = w0 at HA HB HX HY HW ⊢
    clear hw0
    obtain ⟨c0a, c0b, c0c, c0d⟩ := HX.out.cells
    obtain ⟨c1a, c1b, c1c, c1d⟩ := HY.out.cells
    have z0 := HX.out.le
    have z1 := HY.out.le
    have HO := Lib.hid (implTermOk_any a _ w0 HA.out.argsAt hZa)
    go_wp2_with fail
    refine HO.out.mono ?_
    rintro e w1 ⟨rfl, hb⟩
    replace HA := Lib.hid (HA.out.read hb)
    replace HB := Lib.hid (HB.out.read hb)
    replace HX := Lib.hid (HX.out.read hb)
    replace HY := Lib.hid (HY.out.read hb)
    replace HW := Lib.hid (belowOn HW.out (Nat.le_refl _) hb)
    clear hb c0a c0b c0c c0d c1a c1b c1c c1d z0 z1
    clear HO
    cases hoa : okB a with
    | false =>
      have HE : Hid (cmpOf a b = 2) := Lib.hid (by rw [cmpOf, hoa]; rfl)
      clear hoa
      go_wp2
      go_ret
      exact ⟨by rw [HE.out]; rfl, HW.out⟩
    | true =>
      have HOA := Lib.hid hoa
      clear hoa
      obtain ⟨c0a, c0b, c0c, c0d⟩ := HX.out.cells
      obtain ⟨c1a, c1b, c1c, c1d⟩ := HY.out.cells
      have z0 := HX.out.le
      have z1 := HY.out.le
      have HO := Lib.hid (implTermOk_any b _ w1 HB.out.argsAt hZb)
      go_wp2_with fail
      refine HO.out.mono ?_
      rintro e w2 ⟨rfl, hb⟩
      replace HA := Lib.hid (HA.out.read hb)
      replace HB := Lib.hid (HB.out.read hb)
      replace HX := Lib.hid (HX.out.read hb)
      replace HY := Lib.hid (HY.out.read hb)
      replace HW := Lib.hid (belowOn HW.out (Nat.le_refl _) hb)
      clear hb c0a c0b c0c c0d c1a c1b c1c c1d z0 z1
      clear HO
      cases hob : okB b with
      | false =>
        have HE : Hid (cmpOf a b = 2) := Lib.hid (by rw [cmpOf, hob, Bool.and_false]; rfl)
        clear hob
        go_wp2
        go_ret
        exact ⟨by rw [HE.out]; rfl, HW.out⟩
      | true =>
        have HOB := Lib.hid hob
        have HE : Hid (cmpOf a b = a.cmp b) := Lib.hid (by rw [cmpOf, HOA.out, hob]; rfl)
        clear hob
        have HC := Lib.hid (compare_any (a.nodes + 1) a b _ _ w2 (by omega) HA.out.argsAt HB.out.argsAt hZa hZb (okB_true.1 HOA.out).2 (okB_true.1 HOB.out).2)
        obtain ⟨c0a, c0b, c0c, c0d⟩ := HX.out.cells
        obtain ⟨c1a, c1b, c1c, c1d⟩ := HY.out.cells
        have z0 := HX.out.le
        have z1 := HY.out.le
        go_wp2_with fail
        refine HC.out.mono ?_
        rintro e w3 ⟨rfl, hb⟩
        replace HW := Lib.hid (belowOn HW.out (Nat.le_refl _) hb)
        clear hb c0a c0b c0c c0d c1a c1b c1c c1d z0 z1 HC
        go_wp2
        go_ret
        exact ⟨by rw [HE.out]; rfl, HW.out⟩
end Go.Proofs.Ytokndpmoamjbfaa

