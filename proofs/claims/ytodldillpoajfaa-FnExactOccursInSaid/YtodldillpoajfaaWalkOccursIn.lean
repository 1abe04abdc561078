/-
  The law of OccursIn, walked: it returns true, and nothing that was there is changed. (Written by wip/tools/mkexact.py over the law's operations.)
-/
import Derived.Test.YtodldillpoajfaaOcc
namespace Go.Proofs.Ytodldillpoajfaa
open Go.RowKit
set_option linter.unusedVariables false
set_option linter.unusedSimpArgs false

set_option maxHeartbeats 4000000 in
theorem walkOccursIn (w : World) (a0 : Int) (wa0 : (Lit.int .i64 a0).wf = true) (t1 : Tm) (V1 : Value) (A1 : ArgsAt w V1 t1.args) (f1 : t1.fine) :
    Calls Try.prog 8 #[.int .i64 a0, .agg #[.int .i64 t1.kind, .int .i64 t1.num, .string t1.name, V1]] w fun e w' => e = .returned (.bool true) ∧ Below w.heap.size w w' := by
  obtain ⟨ad1, cap1, rfl⟩ := A1.slice
  have HA1 := Lib.hid (at_args A1)
  clear A1
  have HW : Hid (Below w.heap.size w w) := Lib.hid (Below.refl _ _)
  have hal : Below w.heap.size w (w.alloc (.cells #[.int .i64 t1.kind, .int .i64 t1.num, .string t1.name, .slice ad1 t1.args.length cap1] 43)) := (Below.refl _ _).alloc (Nat.le_refl _) _
  replace HA1 := Lib.hid (HA1.out.read hal)
  replace HW := Lib.hid (belowOn HW.out (Nat.le_refl _) hal)
  have HB3 := Lib.hid (at_box_of w #[.int .i64 t1.kind, .int .i64 t1.num, .string t1.name, .slice ad1 t1.args.length cap1] 43 (w.heap.size) (by simp))
  clear hal
  go_enter Try.func8, Try.ntmps8
  obtain ⟨c0a, c0b, c0c, c0d⟩ := HB3.out.cells
  have z0 := HB3.out.le
  have HSZ := Lib.hid (szTerm_any t1 _ 1048576 (w.alloc (.cells #[.int .i64 t1.kind, .int .i64 t1.num, .string t1.name, .slice ad1 t1.args.length cap1] 43)) HA1.out.argsAt f1 (by omega) (by omega))
  go_wp2_with fail
  refine HSZ.out.mono ?_
  rintro e w1 ⟨r1, rfl, hr1, hr2, hr, hb⟩
  clear c0a c0b c0c c0d z0
  clear HSZ
  replace HA1 := Lib.hid (HA1.out.read hb)
  replace HB3 := Lib.hid (HB3.out.read hb)
  replace HW := Lib.hid (belowOn HW.out (Nat.le_refl _) hb)
  clear hb
  by_cases hneg : r1 < 0
  · clear hr
    go_wp2
    go_ret
    exact ⟨rfl, HW.out⟩
  have hZt1 : t1.sz ≤ 1048576 := by have := hr (by omega); omega
  replace hr1 : 0 ≤ r1 := by omega
  replace hr2 : r1 ≤ 1048576 := by omega
  clear hr hneg
  have h0r1 := hr1
  have h1r1 := hr2
  clear hr1 hr2
  obtain ⟨c0a, c0b, c0c, c0d⟩ := HB3.out.cells
  have z0 := HB3.out.le
  have HTO := Lib.hid (toTerm_any t1 _ w1 HA1.out.argsAt hZt1)
  go_wp2_with fail
  refine HTO.out.mono ?_
  rintro e w2 ⟨u2, rfl, hn⟩
  clear c0a c0b c0c c0d z0
  have hb := hn.2
  replace HA1 := Lib.hid (HA1.out.read hb)
  replace HB3 := Lib.hid (HB3.out.read hb)
  replace HW := Lib.hid (belowOn HW.out (Nat.le_refl _) hb)
  have HU2 := Lib.hid hn.at
  obtain ⟨ad102, cap102, rfl⟩ := hn.1.argsAt.slice
  clear HTO hn hb
  have HF := Lib.hid (specOccursIn_any a0 t1 _ w2 HU2.out.argsAt hZt1)
  go_wp2_with fail
  refine HF.out.mono ?_
  rintro e w3 ⟨rfl, hb⟩
  replace HA1 := Lib.hid (HA1.out.read hb)
  replace HB3 := Lib.hid (HB3.out.read hb)
  replace HU2 := Lib.hid (HU2.out.read hb)
  replace HW := Lib.hid (belowOn HW.out (Nat.le_refl _) hb)
  clear HF hb
  obtain ⟨c0a, c0b, c0c, c0d⟩ := HB3.out.cells
  have z0 := HB3.out.le
  have HTO := Lib.hid (toTerm_any t1 _ w3 HA1.out.argsAt hZt1)
  go_wp2_with fail
  refine HTO.out.mono ?_
  rintro e w4 ⟨u4, rfl, hn⟩
  clear c0a c0b c0c c0d z0
  have hb := hn.2
  replace HA1 := Lib.hid (HA1.out.read hb)
  replace HB3 := Lib.hid (HB3.out.read hb)
  replace HU2 := Lib.hid (HU2.out.read hb)
  replace HW := Lib.hid (belowOn HW.out (Nat.le_refl _) hb)
  have HU4 := Lib.hid hn.at
  obtain ⟨ad104, cap104, rfl⟩ := hn.1.argsAt.slice
  clear HTO hn hb
  have hal : Below w4.heap.size w4 (w4.alloc (.cells #[.int .i64 t1.kind, .int .i64 t1.num, .string t1.name, .slice ad104 t1.args.length cap104] 25)) := (Below.refl _ _).alloc (Nat.le_refl _) _
  replace HA1 := Lib.hid (HA1.out.read hal)
  replace HB3 := Lib.hid (HB3.out.read hal)
  replace HU2 := Lib.hid (HU2.out.read hal)
  replace HU4 := Lib.hid (HU4.out.read hal)
  replace HW := Lib.hid (belowOn HW.out (Nat.le_refl _) hal)
  have HB7 := Lib.hid (at_box_of w4 #[.int .i64 t1.kind, .int .i64 t1.num, .string t1.name, .slice ad104 t1.args.length cap104] 25 (w4.heap.size) (by simp))
  clear hal
  obtain ⟨c0a, c0b, c0c, c0d⟩ := HB7.out.cells
  have z0 := HB7.out.le
  have HF := Lib.hid (implOccursIn_any a0 t1 _ (w4.alloc (.cells #[.int .i64 t1.kind, .int .i64 t1.num, .string t1.name, .slice ad104 t1.args.length cap104] 25)) HU4.out.argsAt hZt1)
  go_wp2_with fail
  refine HF.out.mono ?_
  rintro e w5 ⟨rfl, hb⟩
  clear c0a c0b c0c c0d z0
  replace HA1 := Lib.hid (HA1.out.read hb)
  replace HB3 := Lib.hid (HB3.out.read hb)
  replace HU2 := Lib.hid (HU2.out.read hb)
  replace HU4 := Lib.hid (HU4.out.read hb)
  replace HB7 := Lib.hid (HB7.out.read hb)
  replace HW := Lib.hid (belowOn HW.out (Nat.le_refl _) hb)
  clear HF hb
  go_upto_region 10 with (fail)
  go_cut [30] from 26 (fun b wx => b = .bool false ∧ Below w5.heap.size w5 wx)
  case first =>
    obtain ⟨c0a, c0b, c0c, c0d⟩ := HB7.out.cells
    have z0 := HB7.out.le
    obtain ⟨c1a, c1b, c1c, c1d⟩ := HB3.out.cells
    have z1 := HB3.out.le
    have hself : Below w5.heap.size w5 w5 := Below.refl _ _
    have hdrew : Below w5.heap.size w5 w5.drew := hself.drew
    have HCE : Hid (∀ W, Below w5.heap.size w5 W → W.cell? ⟨w4.heap.size, 0, none⟩ = some (.int .i64 t1.kind) ∧ W.cell? ⟨w4.heap.size, 1, none⟩ = some (.int .i64 t1.num) ∧ W.cell? ⟨w4.heap.size, 2, none⟩ = some (.string t1.name) ∧ W.cell? ⟨w4.heap.size, 3, none⟩ = some (.slice ad104 t1.args.length cap104) ∧ W.cell? ⟨w.heap.size, 0, none⟩ = some (.int .i64 t1.kind) ∧ W.cell? ⟨w.heap.size, 1, none⟩ = some (.int .i64 t1.num) ∧ W.cell? ⟨w.heap.size, 2, none⟩ = some (.string t1.name) ∧ W.cell? ⟨w.heap.size, 3, none⟩ = some (.slice ad1 t1.args.length cap1)) := Lib.hid fun W hW => by
      obtain ⟨y0a, y0b, y0c, y0d⟩ := (HB7.out.read hW).cells
      obtain ⟨y1a, y1b, y1c, y1d⟩ := (HB3.out.read hW).cells
      exact ⟨y0a, y0b, y0c, y0d, y1a, y1b, y1c, y1d⟩
    have HTR : Hid (∀ a b, Below w5.heap.size w5 a → Below a.heap.size a b → Below w5.heap.size w5 b) := Lib.hid fun a b h1 h2 => belowOn h1 (Nat.le_refl _) h2
    have HTO0 : Hid (∀ W, Below w5.heap.size w5 W → Calls Try.prog 27 #[.agg #[.int .i64 t1.kind, .int .i64 t1.num, .string t1.name, .slice ad1 t1.args.length cap1]] W fun e w' => ∃ u, e = .returned (.agg #[.int .i64 t1.kind, .int .i64 t1.num, .string t1.name, u]) ∧ (∀ W2, Below w'.heap.size w' W2 → ArgsAt W2 u t1.args) ∧ Below W.heap.size W w') := Lib.hid fun W hW =>
      (toTerm_any t1 _ W (HA1.out.read hW).argsAt hZt1).mono fun e w' ⟨u, he, hn⟩ => ⟨u, he, fun W2 h2 => hn.1.argsAt.kept h2, hn.2⟩
    have HEQ : Hid (∀ W u, Below w5.heap.size w5 W → ArgsAt W u t1.args → Calls Try.prog 28 #[.agg #[.int .i64 t1.kind, .int .i64 t1.num, .string t1.name, .slice ad104 t1.args.length cap104], .agg #[.int .i64 t1.kind, .int .i64 t1.num, .string t1.name, u]] W (Yes W)) := Lib.hid fun W u hW hu => eqTerm_any t1 _ _ W (HU4.out.read hW).argsAt hu hZt1
    clear HW HA1 HB3 HU2 HU4 HB7
    go_region_held3 (fun w' => Below w5.heap.size w5 w' ∧ w'.cell? ⟨w4.heap.size, 0, none⟩ = some (.int .i64 t1.kind) ∧ w'.cell? ⟨w4.heap.size, 1, none⟩ = some (.int .i64 t1.num) ∧ w'.cell? ⟨w4.heap.size, 2, none⟩ = some (.string t1.name) ∧ w'.cell? ⟨w4.heap.size, 3, none⟩ = some (.slice ad104 t1.args.length cap104) ∧ w'.cell? ⟨w.heap.size, 0, none⟩ = some (.int .i64 t1.kind) ∧ w'.cell? ⟨w.heap.size, 1, none⟩ = some (.int .i64 t1.num) ∧ w'.cell? ⟨w.heap.size, 2, none⟩ = some (.string t1.name) ∧ w'.cell? ⟨w.heap.size, 3, none⟩ = some (.slice ad1 t1.args.length cap1)) (go_keep)
      (first
        | (go_at_call 27; refine Calls.mono (HTO0.out _ ?_) ?_; (assumption); rintro e w' ⟨u, rfl, hu0, hb0⟩; have HUU0 := Lib.hid hu0; clear hu0; have hB' := HTR.out _ _ (by assumption) hb0; obtain ⟨k0, k1, k2, k3, k4, k5, k6, k7⟩ := HCE.out _ hB')
        | (go_at_call 28; refine Calls.mono (HEQ.out _ _ ?_ ?_) ?_; (assumption); (first | exact HUU0.out _ (Below.refl _ _) | exact HUU0.out _ (by assumption)); rintro e w' ⟨rfl, hbz⟩; have hB' := HTR.out _ _ (by assumption) hbz; obtain ⟨k0, k1, k2, k3, k4, k5, k6, k7⟩ := HCE.out _ hB'))
    all_goals (go_wp2_with fail; go_meet; exact ⟨rfl, by assumption⟩)
  case rest =>
    obtain ⟨rfl, hb⟩ := hcut
    obtain ⟨w6, rfl⟩ : ∃ x : World, x = wc := ⟨_, rfl⟩
    replace HA1 := Lib.hid (HA1.out.read hb)
    replace HB3 := Lib.hid (HB3.out.read hb)
    replace HU2 := Lib.hid (HU2.out.read hb)
    replace HU4 := Lib.hid (HU4.out.read hb)
    replace HB7 := Lib.hid (HB7.out.read hb)
    replace HW := Lib.hid (belowOn HW.out (Nat.le_refl _) hb)
    clear hb
    go_wp2
    go_ret
    exact ⟨rfl, HW.out⟩
end Go.Proofs.Ytodldillpoajfaa
