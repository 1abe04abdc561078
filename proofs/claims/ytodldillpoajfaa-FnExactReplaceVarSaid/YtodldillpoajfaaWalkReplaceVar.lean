/-
  The law of ReplaceVar, walked: it returns true, and nothing that was there is changed. (Written by wip/tools/mkexact.py over the law's operations.)
-/
import Derived.Test.YtodldillpoajfaaLaw
namespace Go.Proofs.Ytodldillpoajfaa
open Go.RowKit
set_option linter.unusedVariables false
set_option linter.unusedSimpArgs false

set_option maxRecDepth 100000 in
set_option maxHeartbeats 16000000 in
theorem walkReplaceVar (w : World) (t0 : Tm) (V0 : Value) (A0 : ArgsAt w V0 t0.args) (f0 : t0.fine) (a1 : Int) (wa1 : (Lit.int .i64 a1).wf = true) (t2 : Tm) (V2 : Value) (A2 : ArgsAt w V2 t2.args) (f2 : t2.fine) :
    Calls Try.prog 10 #[.agg #[.int .i64 t0.kind, .int .i64 t0.num, .string t0.name, V0], .int .i64 a1, .agg #[.int .i64 t2.kind, .int .i64 t2.num, .string t2.name, V2]] w fun e w' => e = .returned (.bool true) ∧ Below w.heap.size w w' := by
  obtain ⟨ad0, cap0, rfl⟩ := A0.slice
  have HA0 := Lib.hid (at_args A0)
  clear A0
  obtain ⟨ad2, cap2, rfl⟩ := A2.slice
  have HA2 := Lib.hid (at_args A2)
  clear A2
  have HW : Hid (Below w.heap.size w w) := Lib.hid (Below.refl _ _)
  have hal : Below w.heap.size w (w.alloc (.cells #[.int .i64 t0.kind, .int .i64 t0.num, .string t0.name, .slice ad0 t0.args.length cap0] 43)) := (Below.refl _ _).alloc (Nat.le_refl _) _
  replace HA0 := Lib.hid (HA0.out.read hal)
  replace HA2 := Lib.hid (HA2.out.read hal)
  replace HW := Lib.hid (belowOn HW.out (Nat.le_refl _) hal)
  have HB3 := Lib.hid (at_box_of w #[.int .i64 t0.kind, .int .i64 t0.num, .string t0.name, .slice ad0 t0.args.length cap0] 43 (w.heap.size) (by simp))
  have HS0 := Lib.hid (show (w.alloc (.cells #[.int .i64 t0.kind, .int .i64 t0.num, .string t0.name, .slice ad0 t0.args.length cap0] 43)).heap.size = w.heap.size + 1 by simp)
  clear hal
  have hal : Below (w.alloc (.cells #[.int .i64 t0.kind, .int .i64 t0.num, .string t0.name, .slice ad0 t0.args.length cap0] 43)).heap.size (w.alloc (.cells #[.int .i64 t0.kind, .int .i64 t0.num, .string t0.name, .slice ad0 t0.args.length cap0] 43)) ((w.alloc (.cells #[.int .i64 t0.kind, .int .i64 t0.num, .string t0.name, .slice ad0 t0.args.length cap0] 43)).alloc (.cells #[.int .i64 t2.kind, .int .i64 t2.num, .string t2.name, .slice ad2 t2.args.length cap2] 43)) := (Below.refl _ _).alloc (Nat.le_refl _) _
  replace HA0 := Lib.hid (HA0.out.read hal)
  replace HA2 := Lib.hid (HA2.out.read hal)
  replace HB3 := Lib.hid (HB3.out.read hal)
  replace HW := Lib.hid (belowOn HW.out (Nat.le_refl _) hal)
  have HB5 := Lib.hid (at_box_of (w.alloc (.cells #[.int .i64 t0.kind, .int .i64 t0.num, .string t0.name, .slice ad0 t0.args.length cap0] 43)) #[.int .i64 t2.kind, .int .i64 t2.num, .string t2.name, .slice ad2 t2.args.length cap2] 43 (w.heap.size + 1) (by simp))
  have HS1 := Lib.hid (show ((w.alloc (.cells #[.int .i64 t0.kind, .int .i64 t0.num, .string t0.name, .slice ad0 t0.args.length cap0] 43)).alloc (.cells #[.int .i64 t2.kind, .int .i64 t2.num, .string t2.name, .slice ad2 t2.args.length cap2] 43)).heap.size = (w.alloc (.cells #[.int .i64 t0.kind, .int .i64 t0.num, .string t0.name, .slice ad0 t0.args.length cap0] 43)).heap.size + 1 by simp)
  clear hal
  go_enter Try.func10, Try.ntmps10
  obtain ⟨c0a, c0b, c0c, c0d⟩ := HB3.out.cells
  have z0 := HB3.out.le
  have HSZ := Lib.hid (szTerm_any t0 _ 1048576 ((w.alloc (.cells #[.int .i64 t0.kind, .int .i64 t0.num, .string t0.name, .slice ad0 t0.args.length cap0] 43)).alloc (.cells #[.int .i64 t2.kind, .int .i64 t2.num, .string t2.name, .slice ad2 t2.args.length cap2] 43)) HA0.out.argsAt f0 (by omega) (by omega))
  go_wp2_with fail
  refine HSZ.out.mono ?_
  rintro e w1 ⟨r0, rfl, hr1, hr2, hr, hb⟩
  clear c0a c0b c0c c0d z0
  clear HSZ
  replace HA0 := Lib.hid (HA0.out.read hb)
  replace HA2 := Lib.hid (HA2.out.read hb)
  replace HB3 := Lib.hid (HB3.out.read hb)
  replace HB5 := Lib.hid (HB5.out.read hb)
  replace HW := Lib.hid (belowOn HW.out (Nat.le_refl _) hb)
  have HS2 := Lib.hid (hb.size)
  clear hb
  by_cases hneg : r0 < 0
  · clear hr
    go_wp2
    go_ret
    exact ⟨rfl, HW.out⟩
  have hZt0 : t0.sz ≤ 1048576 := by have := hr (by omega); omega
  replace hr1 : 0 ≤ r0 := by omega
  replace hr2 : r0 ≤ 1048576 := by omega
  clear hr hneg
  have h0r0 := hr1
  have h1r0 := hr2
  clear hr1 hr2
  obtain ⟨c0a, c0b, c0c, c0d⟩ := HB5.out.cells
  have z0 := HB5.out.le
  have HSZ := Lib.hid (szTerm_any t2 _ r0 w1 HA2.out.argsAt f2 (by omega) (by omega))
  go_wp2_with fail
  refine HSZ.out.mono ?_
  rintro e w2 ⟨r2, rfl, hr1, hr2, hr, hb⟩
  clear c0a c0b c0c c0d z0
  clear HSZ
  replace HA0 := Lib.hid (HA0.out.read hb)
  replace HA2 := Lib.hid (HA2.out.read hb)
  replace HB3 := Lib.hid (HB3.out.read hb)
  replace HB5 := Lib.hid (HB5.out.read hb)
  replace HW := Lib.hid (belowOn HW.out (Nat.le_refl _) hb)
  have HS3 := Lib.hid (hb.size)
  clear hb
  by_cases hneg : r2 < 0
  · clear hr
    go_wp2
    go_ret
    exact ⟨rfl, HW.out⟩
  have hZt2 : t2.sz ≤ 1048576 := by have := hr (by omega); omega
  replace hr1 : 0 ≤ r2 := by omega
  replace hr2 : r2 ≤ 1048576 := by omega
  clear hr hneg
  have h0r2 := hr1
  have h1r2 := hr2
  clear hr1 hr2
  go_upto_region 8 with (fail)
  go_cut [8, 9] from 29 (fun p b wx => Struct2 w2 (rvT t0 a1 t2) (rvB t0 a1 t2) p b wx)
  case first =>
    obtain ⟨c0a, c0b, c0c, c0d⟩ := HB3.out.cells
    have z0 := HB3.out.le
    obtain ⟨c1a, c1b, c1c, c1d⟩ := HB5.out.cells
    have z1 := HB5.out.le
    have hself : Below w2.heap.size w2 w2 := Below.refl _ _
    have hdrew : Below w2.heap.size w2 w2.drew := hself.drew
    have HCE : Hid (∀ W, Below w2.heap.size w2 W → W.cell? ⟨w.heap.size, 0, none⟩ = some (.int .i64 t0.kind) ∧ W.cell? ⟨w.heap.size, 1, none⟩ = some (.int .i64 t0.num) ∧ W.cell? ⟨w.heap.size, 2, none⟩ = some (.string t0.name) ∧ W.cell? ⟨w.heap.size, 3, none⟩ = some (.slice ad0 t0.args.length cap0) ∧ W.cell? ⟨w.heap.size + 1, 0, none⟩ = some (.int .i64 t2.kind) ∧ W.cell? ⟨w.heap.size + 1, 1, none⟩ = some (.int .i64 t2.num) ∧ W.cell? ⟨w.heap.size + 1, 2, none⟩ = some (.string t2.name) ∧ W.cell? ⟨w.heap.size + 1, 3, none⟩ = some (.slice ad2 t2.args.length cap2)) := Lib.hid fun W hW => by
      obtain ⟨y0a, y0b, y0c, y0d⟩ := (HB3.out.read hW).cells
      obtain ⟨y1a, y1b, y1c, y1d⟩ := (HB5.out.read hW).cells
      exact ⟨y0a, y0b, y0c, y0d, y1a, y1b, y1c, y1d⟩
    have HTR : Hid (∀ a b, Below w2.heap.size w2 a → Below a.heap.size a b → Below w2.heap.size w2 b) := Lib.hid fun a b h1 h2 => belowOn h1 (Nat.le_refl _) h2
    have HTO0 : Hid (∀ W, Below w2.heap.size w2 W → Calls Try.prog 27 #[.agg #[.int .i64 t0.kind, .int .i64 t0.num, .string t0.name, .slice ad0 t0.args.length cap0]] W fun e w' => ∃ u, e = .returned (.agg #[.int .i64 t0.kind, .int .i64 t0.num, .string t0.name, u]) ∧ (∀ W2, Below w'.heap.size w' W2 → ArgsAt W2 u t0.args) ∧ Below W.heap.size W w') := Lib.hid fun W hW =>
      (toTerm_any t0 _ W (HA0.out.read hW).argsAt hZt0).mono fun e w' ⟨u, he, hn⟩ => ⟨u, he, fun W2 h2 => hn.1.argsAt.kept h2, hn.2⟩
    have HTO1 : Hid (∀ W, Below w2.heap.size w2 W → Calls Try.prog 27 #[.agg #[.int .i64 t2.kind, .int .i64 t2.num, .string t2.name, .slice ad2 t2.args.length cap2]] W fun e w' => ∃ u, e = .returned (.agg #[.int .i64 t2.kind, .int .i64 t2.num, .string t2.name, u]) ∧ (∀ W2, Below w'.heap.size w' W2 → ArgsAt W2 u t2.args) ∧ Below W.heap.size W w') := Lib.hid fun W hW =>
      (toTerm_any t2 _ W (HA2.out.read hW).argsAt hZt2).mono fun e w' ⟨u, he, hn⟩ => ⟨u, he, fun W2 h2 => hn.1.argsAt.kept h2, hn.2⟩
    have HF : Hid (∀ W u0 u1, Below w2.heap.size w2 W → ArgsAt W u0 t0.args → ArgsAt W u1 t2.args → Calls Try.prog 38 #[.agg #[.int .i64 t0.kind, .int .i64 t0.num, .string t0.name, u0], .int .i64 a1, .agg #[.int .i64 t2.kind, .int .i64 t2.num, .string t2.name, u1]] W (OldTm2 (rvT t0 a1 t2) (rvB t0 a1 t2) W)) := Lib.hid fun W u0 u1 hW hu0 hu1 => (specReplaceVar_any t0 u0 a1 t2 u1 W hu0 hZt0 hu1 hZt2)
    clear HW HA0 HA2 HB3 HB5
    have n0a : ¬ w.heap.size = w2.heap.size := by omega
    have n0b : ¬ w2.heap.size = w.heap.size := by omega
    have n1a : ¬ w.heap.size + 1 = w2.heap.size := by omega
    have n1b : ¬ w2.heap.size = w.heap.size + 1 := by omega
    go_region_held3 (fun w' => w'.cell? ⟨w.heap.size, 0, none⟩ = some (.int .i64 t0.kind) ∧ w'.cell? ⟨w.heap.size, 1, none⟩ = some (.int .i64 t0.num) ∧ w'.cell? ⟨w.heap.size, 2, none⟩ = some (.string t0.name) ∧ w'.cell? ⟨w.heap.size, 3, none⟩ = some (.slice ad0 t0.args.length cap0) ∧ w'.cell? ⟨w.heap.size + 1, 0, none⟩ = some (.int .i64 t2.kind) ∧ w'.cell? ⟨w.heap.size + 1, 1, none⟩ = some (.int .i64 t2.num) ∧ w'.cell? ⟨w.heap.size + 1, 2, none⟩ = some (.string t2.name) ∧ w'.cell? ⟨w.heap.size + 1, 3, none⟩ = some (.slice ad2 t2.args.length cap2)) (go_keep)
      (first
        | (go_at_call 27; (with_reducible refine Calls.mono (HTO0.out _ ?_) ?_); (first | assumption | exact belowAlloc (by assumption) _ | exact (belowAlloc (by assumption) _).drew); rintro e wA0 ⟨u0, rfl, hu0, hb0⟩; (first | (with_reducible have HBX := Lib.hid (box_after (W0 := w2) (by assumption) hb0)) | (with_reducible have HBX := Lib.hid (box_after_drew (W0 := w2) (by assumption) hb0)) | (replace HBX := Lib.hid (box_keep HBX.out hb0)) | skip); have HUU0 := Lib.hid hu0; clear hu0; have hB0 := HTR.out _ _ (by first | assumption | exact belowAlloc (by assumption) _ | exact (belowAlloc (by assumption) _).drew) hb0; have n0awA0 : ¬ w.heap.size = wA0.heap.size := (by have := hB0.size; omega); have n0bwA0 : ¬ wA0.heap.size = w.heap.size := (by have := hB0.size; omega); have n1awA0 : ¬ w.heap.size + 1 = wA0.heap.size := (by have := hB0.size; omega); have n1bwA0 : ¬ wA0.heap.size = w.heap.size + 1 := (by have := hB0.size; omega); obtain ⟨k0, k1, k2, k3, k4, k5, k6, k7⟩ := HCE.out _ hB0)
        | (go_at_call 27; (with_reducible refine Calls.mono (HTO1.out _ ?_) ?_); (first | assumption | exact belowAlloc (by assumption) _ | exact (belowAlloc (by assumption) _).drew); rintro e wA1 ⟨u1, rfl, hu1, hb1⟩; (first | (with_reducible have HBX := Lib.hid (box_after (W0 := w2) (by assumption) hb1)) | (with_reducible have HBX := Lib.hid (box_after_drew (W0 := w2) (by assumption) hb1)) | (replace HBX := Lib.hid (box_keep HBX.out hb1)) | skip); have HUU1 := Lib.hid hu1; clear hu1; have hB1 := HTR.out _ _ (by first | assumption | exact belowAlloc (by assumption) _ | exact (belowAlloc (by assumption) _).drew) hb1; have n0awA1 : ¬ w.heap.size = wA1.heap.size := (by have := hB1.size; omega); have n0bwA1 : ¬ wA1.heap.size = w.heap.size := (by have := hB1.size; omega); have n1awA1 : ¬ w.heap.size + 1 = wA1.heap.size := (by have := hB1.size; omega); have n1bwA1 : ¬ wA1.heap.size = w.heap.size + 1 := (by have := hB1.size; omega); obtain ⟨k0, k1, k2, k3, k4, k5, k6, k7⟩ := HCE.out _ hB1)
        | (go_at_call 38; (with_reducible refine Calls.mono (HF.out _ _ _ ?_ ?_ ?_) ?_); (first | assumption | exact belowAlloc (by assumption) _ | exact (belowAlloc (by assumption) _).drew); (first | exact HUU0.out _ (Below.refl _ _) | exact HUU0.out _ (by assumption) | exact HUU0.out _ (belowAlloc (Below.refl _ _) _) | exact HUU0.out _ (belowAlloc (by assumption) _) | exact HUU0.out _ (belowOn (belowAlloc (Below.refl _ _) _) (Nat.le_refl _) (by assumption))); (first | exact HUU1.out _ (Below.refl _ _) | exact HUU1.out _ (by assumption) | exact HUU1.out _ (belowAlloc (Below.refl _ _) _) | exact HUU1.out _ (belowAlloc (by assumption) _) | exact HUU1.out _ (belowOn (belowAlloc (Below.refl _ _) _) (Nat.le_refl _) (by assumption))); rintro e wS ⟨uS, rfl, huS, hbS⟩; obtain ⟨aS, kS, rfl⟩ := huS.at.slice; (first | (with_reducible have HBL := Lib.hid (alloc_lt hbS)) | (have HBL := Lib.hid (block_lt HBX.out hbS)) | skip); (first | (with_reducible have HBX := Lib.hid (box_after (W0 := w2) (by assumption) hbS)) | (with_reducible have HBX := Lib.hid (box_after_drew (W0 := w2) (by assumption) hbS)) | (replace HBX := Lib.hid (box_keep HBX.out hbS)) | skip); have hS := HTR.out _ _ (by first | assumption | exact belowAlloc (by assumption) _ | exact (belowAlloc (by assumption) _).drew) hbS; have n0awS : ¬ w.heap.size = wS.heap.size := (by have := hS.size; omega); have n0bwS : ¬ wS.heap.size = w.heap.size := (by have := hS.size; omega); have n1awS : ¬ w.heap.size + 1 = wS.heap.size := (by have := hS.size; omega); have n1bwS : ¬ wS.heap.size = w.heap.size + 1 := (by have := hS.size; omega); obtain ⟨k0, k1, k2, k3, k4, k5, k6, k7⟩ := HCE.out _ hS; have HUS := Lib.hid huS; (first | (have hq9 := box_cells (HBX.out).1; obtain ⟨q0, q1, q2, q3, qf⟩ := hq9) | skip)))
    all_goals (go_wp2_with fail; go_meet; first | (with_reducible exact struct2_late HUS.out hS) | (with_reducible exact struct2_early HBX.out HBL.out HUS.out hS) | exact struct2_late HUS.out hS | exact struct2_early HBX.out HBL.out HUS.out hS)
  case rest =>
    obtain ⟨B3, ad103, cap103, rfl, rfl, hbx, hlo, hu, hb⟩ := hcut
    obtain ⟨w3, rfl⟩ : ∃ x : World, x = wc := ⟨_, rfl⟩
    replace HA0 := Lib.hid (HA0.out.read hb)
    replace HA2 := Lib.hid (HA2.out.read hb)
    replace HB3 := Lib.hid (HB3.out.read hb)
    replace HB5 := Lib.hid (HB5.out.read hb)
    replace HW := Lib.hid (belowOn HW.out (Nat.le_refl _) hb)
    have HS4 := Lib.hid (hb.size)
    have HB8 := Lib.hid (at_box_in hbx)
    have HV3 := Lib.hid (at_args hu)
    have HS5 := Lib.hid (And.intro hlo (at_box_in hbx).le)
    clear hb hbx hlo hu
    obtain ⟨c0a, c0b, c0c, c0d⟩ := HB3.out.cells
    have z0 := HB3.out.le
    have HTO := Lib.hid (toTerm_any t0 _ w3 HA0.out.argsAt hZt0)
    go_wp2_with fail
    refine HTO.out.mono ?_
    rintro e w4 ⟨u4, rfl, hn⟩
    clear c0a c0b c0c c0d z0
    have hb := hn.2
    replace HA0 := Lib.hid (HA0.out.read hb)
    replace HA2 := Lib.hid (HA2.out.read hb)
    replace HB3 := Lib.hid (HB3.out.read hb)
    replace HB5 := Lib.hid (HB5.out.read hb)
    replace HB8 := Lib.hid (HB8.out.read hb)
    replace HV3 := Lib.hid (HV3.out.read hb)
    replace HW := Lib.hid (belowOn HW.out (Nat.le_refl _) hb)
    have HS6 := Lib.hid (hb.size)
    have HU4 := Lib.hid hn.at
    obtain ⟨ad104, cap104, rfl⟩ := hn.1.argsAt.slice
    clear HTO hn hb
    have hal : Below w4.heap.size w4 (w4.alloc (.cells #[.int .i64 t0.kind, .int .i64 t0.num, .string t0.name, .slice ad104 t0.args.length cap104] 25)) := (Below.refl _ _).alloc (Nat.le_refl _) _
    replace HA0 := Lib.hid (HA0.out.read hal)
    replace HA2 := Lib.hid (HA2.out.read hal)
    replace HB3 := Lib.hid (HB3.out.read hal)
    replace HB5 := Lib.hid (HB5.out.read hal)
    replace HB8 := Lib.hid (HB8.out.read hal)
    replace HV3 := Lib.hid (HV3.out.read hal)
    replace HU4 := Lib.hid (HU4.out.read hal)
    replace HW := Lib.hid (belowOn HW.out (Nat.le_refl _) hal)
    have HB10 := Lib.hid (at_box_of w4 #[.int .i64 t0.kind, .int .i64 t0.num, .string t0.name, .slice ad104 t0.args.length cap104] 25 (w4.heap.size) (by simp))
    have HS7 := Lib.hid (show (w4.alloc (.cells #[.int .i64 t0.kind, .int .i64 t0.num, .string t0.name, .slice ad104 t0.args.length cap104] 25)).heap.size = w4.heap.size + 1 by simp)
    clear hal
    obtain ⟨c0a, c0b, c0c, c0d⟩ := HB5.out.cells
    have z0 := HB5.out.le
    have HTO := Lib.hid (toTerm_any t2 _ (w4.alloc (.cells #[.int .i64 t0.kind, .int .i64 t0.num, .string t0.name, .slice ad104 t0.args.length cap104] 25)) HA2.out.argsAt hZt2)
    go_wp2_with fail
    refine HTO.out.mono ?_
    rintro e w5 ⟨u5, rfl, hn⟩
    clear c0a c0b c0c c0d z0
    have hb := hn.2
    replace HA0 := Lib.hid (HA0.out.read hb)
    replace HA2 := Lib.hid (HA2.out.read hb)
    replace HB3 := Lib.hid (HB3.out.read hb)
    replace HB5 := Lib.hid (HB5.out.read hb)
    replace HB8 := Lib.hid (HB8.out.read hb)
    replace HV3 := Lib.hid (HV3.out.read hb)
    replace HU4 := Lib.hid (HU4.out.read hb)
    replace HB10 := Lib.hid (HB10.out.read hb)
    replace HW := Lib.hid (belowOn HW.out (Nat.le_refl _) hb)
    have HS8 := Lib.hid (hb.size)
    have HU5 := Lib.hid hn.at
    obtain ⟨ad105, cap105, rfl⟩ := hn.1.argsAt.slice
    clear HTO hn hb
    have hal : Below w5.heap.size w5 (w5.alloc (.cells #[.int .i64 t2.kind, .int .i64 t2.num, .string t2.name, .slice ad105 t2.args.length cap105] 25)) := (Below.refl _ _).alloc (Nat.le_refl _) _
    replace HA0 := Lib.hid (HA0.out.read hal)
    replace HA2 := Lib.hid (HA2.out.read hal)
    replace HB3 := Lib.hid (HB3.out.read hal)
    replace HB5 := Lib.hid (HB5.out.read hal)
    replace HB8 := Lib.hid (HB8.out.read hal)
    replace HV3 := Lib.hid (HV3.out.read hal)
    replace HU4 := Lib.hid (HU4.out.read hal)
    replace HB10 := Lib.hid (HB10.out.read hal)
    replace HU5 := Lib.hid (HU5.out.read hal)
    replace HW := Lib.hid (belowOn HW.out (Nat.le_refl _) hal)
    have HB11 := Lib.hid (at_box_of w5 #[.int .i64 t2.kind, .int .i64 t2.num, .string t2.name, .slice ad105 t2.args.length cap105] 25 (w5.heap.size) (by simp))
    have HS9 := Lib.hid (show (w5.alloc (.cells #[.int .i64 t2.kind, .int .i64 t2.num, .string t2.name, .slice ad105 t2.args.length cap105] 25)).heap.size = w5.heap.size + 1 by simp)
    clear hal
    obtain ⟨c0a, c0b, c0c, c0d⟩ := HB10.out.cells
    have z0 := HB10.out.le
    obtain ⟨c1a, c1b, c1c, c1d⟩ := HB11.out.cells
    have z1 := HB11.out.le
    have HF := Lib.hid (implReplaceVar_any t0 _ a1 t2 _ (w5.alloc (.cells #[.int .i64 t2.kind, .int .i64 t2.num, .string t2.name, .slice ad105 t2.args.length cap105] 25)) HU4.out.argsAt hZt0 HU5.out.argsAt hZt2)
    go_wp2_with fail
    refine HF.out.mono ?_
    rintro e w6 ⟨u6, rfl, hn⟩
    clear c0a c0b c0c c0d z0 c1a c1b c1c c1d z1
    have hb := hn.2
    replace HA0 := Lib.hid (HA0.out.read hb)
    replace HA2 := Lib.hid (HA2.out.read hb)
    replace HB3 := Lib.hid (HB3.out.read hb)
    replace HB5 := Lib.hid (HB5.out.read hb)
    replace HB8 := Lib.hid (HB8.out.read hb)
    replace HV3 := Lib.hid (HV3.out.read hb)
    replace HU4 := Lib.hid (HU4.out.read hb)
    replace HB10 := Lib.hid (HB10.out.read hb)
    replace HU5 := Lib.hid (HU5.out.read hb)
    replace HB11 := Lib.hid (HB11.out.read hb)
    replace HW := Lib.hid (belowOn HW.out (Nat.le_refl _) hb)
    have HS10 := Lib.hid (hb.size)
    have HU6 := Lib.hid hn.at
    obtain ⟨ad106, cap106, rfl⟩ := hn.1.argsAt.slice
    clear HF hn hb
    have hal : Below w6.heap.size w6 (w6.alloc (.cells #[.int .i64 (rvT t0 a1 t2).kind, .int .i64 (rvT t0 a1 t2).num, .string (rvT t0 a1 t2).name, .slice ad106 (rvT t0 a1 t2).args.length cap106] 25)) := (Below.refl _ _).alloc (Nat.le_refl _) _
    replace HA0 := Lib.hid (HA0.out.read hal)
    replace HA2 := Lib.hid (HA2.out.read hal)
    replace HB3 := Lib.hid (HB3.out.read hal)
    replace HB5 := Lib.hid (HB5.out.read hal)
    replace HB8 := Lib.hid (HB8.out.read hal)
    replace HV3 := Lib.hid (HV3.out.read hal)
    replace HU4 := Lib.hid (HU4.out.read hal)
    replace HB10 := Lib.hid (HB10.out.read hal)
    replace HU5 := Lib.hid (HU5.out.read hal)
    replace HB11 := Lib.hid (HB11.out.read hal)
    replace HU6 := Lib.hid (HU6.out.read hal)
    replace HW := Lib.hid (belowOn HW.out (Nat.le_refl _) hal)
    have HB12 := Lib.hid (at_box_of w6 #[.int .i64 (rvT t0 a1 t2).kind, .int .i64 (rvT t0 a1 t2).num, .string (rvT t0 a1 t2).name, .slice ad106 (rvT t0 a1 t2).args.length cap106] 25 (w6.heap.size) (by simp))
    have HS11 := Lib.hid (show (w6.alloc (.cells #[.int .i64 (rvT t0 a1 t2).kind, .int .i64 (rvT t0 a1 t2).num, .string (rvT t0 a1 t2).name, .slice ad106 (rvT t0 a1 t2).args.length cap106] 25)).heap.size = w6.heap.size + 1 by simp)
    clear hal
    obtain ⟨c0a, c0b, c0c, c0d⟩ := HB12.out.cells
    have z0 := HB12.out.le
    obtain ⟨c1a, c1b, c1c, c1d⟩ := HB8.out.cells
    have z1 := HB8.out.le
    have HF := Lib.hid (eqTerm_any (rvT t0 a1 t2) _ _ (w6.alloc (.cells #[.int .i64 (rvT t0 a1 t2).kind, .int .i64 (rvT t0 a1 t2).num, .string (rvT t0 a1 t2).name, .slice ad106 (rvT t0 a1 t2).args.length cap106] 25)) HU6.out.argsAt HV3.out.argsAt (rv_sz t0 a1 t2))
    go_wp2_with fail
    refine HF.out.mono ?_
    rintro e w7 ⟨rfl, hb⟩
    clear c0a c0b c0c c0d z0 c1a c1b c1c c1d z1
    replace HA0 := Lib.hid (HA0.out.read hb)
    replace HA2 := Lib.hid (HA2.out.read hb)
    replace HB3 := Lib.hid (HB3.out.read hb)
    replace HB5 := Lib.hid (HB5.out.read hb)
    replace HB8 := Lib.hid (HB8.out.read hb)
    replace HV3 := Lib.hid (HV3.out.read hb)
    replace HU4 := Lib.hid (HU4.out.read hb)
    replace HB10 := Lib.hid (HB10.out.read hb)
    replace HU5 := Lib.hid (HU5.out.read hb)
    replace HB11 := Lib.hid (HB11.out.read hb)
    replace HU6 := Lib.hid (HU6.out.read hb)
    replace HB12 := Lib.hid (HB12.out.read hb)
    replace HW := Lib.hid (belowOn HW.out (Nat.le_refl _) hb)
    have HS12 := Lib.hid (hb.size)
    clear HF hb
    go_upto_region 14 with (fail)
    go_cut [62] from 58 (fun b wx => b = .bool false ∧ Below w7.heap.size w7 wx)
    case first =>
      obtain ⟨c0a, c0b, c0c, c0d⟩ := HB10.out.cells
      have z0 := HB10.out.le
      obtain ⟨c1a, c1b, c1c, c1d⟩ := HB3.out.cells
      have z1 := HB3.out.le
      have hself : Below w7.heap.size w7 w7 := Below.refl _ _
      have hdrew : Below w7.heap.size w7 w7.drew := hself.drew
      have HCE : Hid (∀ W, Below w7.heap.size w7 W → W.cell? ⟨w4.heap.size, 0, none⟩ = some (.int .i64 t0.kind) ∧ W.cell? ⟨w4.heap.size, 1, none⟩ = some (.int .i64 t0.num) ∧ W.cell? ⟨w4.heap.size, 2, none⟩ = some (.string t0.name) ∧ W.cell? ⟨w4.heap.size, 3, none⟩ = some (.slice ad104 t0.args.length cap104) ∧ W.cell? ⟨w.heap.size, 0, none⟩ = some (.int .i64 t0.kind) ∧ W.cell? ⟨w.heap.size, 1, none⟩ = some (.int .i64 t0.num) ∧ W.cell? ⟨w.heap.size, 2, none⟩ = some (.string t0.name) ∧ W.cell? ⟨w.heap.size, 3, none⟩ = some (.slice ad0 t0.args.length cap0)) := Lib.hid fun W hW => by
        obtain ⟨y0a, y0b, y0c, y0d⟩ := (HB10.out.read hW).cells
        obtain ⟨y1a, y1b, y1c, y1d⟩ := (HB3.out.read hW).cells
        exact ⟨y0a, y0b, y0c, y0d, y1a, y1b, y1c, y1d⟩
      have HTR : Hid (∀ a b, Below w7.heap.size w7 a → Below a.heap.size a b → Below w7.heap.size w7 b) := Lib.hid fun a b h1 h2 => belowOn h1 (Nat.le_refl _) h2
      have HTO0 : Hid (∀ W, Below w7.heap.size w7 W → Calls Try.prog 27 #[.agg #[.int .i64 t0.kind, .int .i64 t0.num, .string t0.name, .slice ad0 t0.args.length cap0]] W fun e w' => ∃ u, e = .returned (.agg #[.int .i64 t0.kind, .int .i64 t0.num, .string t0.name, u]) ∧ (∀ W2, Below w'.heap.size w' W2 → ArgsAt W2 u t0.args) ∧ Below W.heap.size W w') := Lib.hid fun W hW =>
        (toTerm_any t0 _ W (HA0.out.read hW).argsAt hZt0).mono fun e w' ⟨u, he, hn⟩ => ⟨u, he, fun W2 h2 => hn.1.argsAt.kept h2, hn.2⟩
      have HEQ : Hid (∀ W u, Below w7.heap.size w7 W → ArgsAt W u t0.args → Calls Try.prog 28 #[.agg #[.int .i64 t0.kind, .int .i64 t0.num, .string t0.name, .slice ad104 t0.args.length cap104], .agg #[.int .i64 t0.kind, .int .i64 t0.num, .string t0.name, u]] W (Yes W)) := Lib.hid fun W u hW hu => eqTerm_any t0 _ _ W (HU4.out.read hW).argsAt hu hZt0
      clear HW HA0 HA2 HB3 HB5 HB8 HV3 HU4 HB10 HU5 HB11 HU6 HB12
      go_region_held3 (fun w' => Below w7.heap.size w7 w' ∧ w'.cell? ⟨w4.heap.size, 0, none⟩ = some (.int .i64 t0.kind) ∧ w'.cell? ⟨w4.heap.size, 1, none⟩ = some (.int .i64 t0.num) ∧ w'.cell? ⟨w4.heap.size, 2, none⟩ = some (.string t0.name) ∧ w'.cell? ⟨w4.heap.size, 3, none⟩ = some (.slice ad104 t0.args.length cap104) ∧ w'.cell? ⟨w.heap.size, 0, none⟩ = some (.int .i64 t0.kind) ∧ w'.cell? ⟨w.heap.size, 1, none⟩ = some (.int .i64 t0.num) ∧ w'.cell? ⟨w.heap.size, 2, none⟩ = some (.string t0.name) ∧ w'.cell? ⟨w.heap.size, 3, none⟩ = some (.slice ad0 t0.args.length cap0)) (go_keep)
        (first
          | (go_at_call 27; (with_reducible refine Calls.mono (HTO0.out _ ?_) ?_); (first | assumption | exact belowAlloc (by assumption) _ | exact (belowAlloc (by assumption) _).drew); rintro e wA0 ⟨u0, rfl, hu0, hb0⟩; have HUU0 := Lib.hid hu0; clear hu0; have hB0 := HTR.out _ _ (by first | assumption | exact belowAlloc (by assumption) _ | exact (belowAlloc (by assumption) _).drew) hb0; obtain ⟨k0, k1, k2, k3, k4, k5, k6, k7⟩ := HCE.out _ hB0)
          | (go_at_call 28; (with_reducible refine Calls.mono (HEQ.out _ _ ?_ ?_) ?_); (assumption); (first | exact HUU0.out _ (Below.refl _ _) | exact HUU0.out _ (by assumption)); rintro e w' ⟨rfl, hbz⟩; have hB' := HTR.out _ _ (by assumption) hbz; obtain ⟨k0, k1, k2, k3, k4, k5, k6, k7⟩ := HCE.out _ hB'))
      all_goals (go_wp2_with fail; go_meet; exact ⟨rfl, by assumption⟩)
    case rest =>
      obtain ⟨rfl, hb⟩ := hcut
      obtain ⟨w8, rfl⟩ : ∃ x : World, x = wc := ⟨_, rfl⟩
      replace HA0 := Lib.hid (HA0.out.read hb)
      replace HA2 := Lib.hid (HA2.out.read hb)
      replace HB3 := Lib.hid (HB3.out.read hb)
      replace HB5 := Lib.hid (HB5.out.read hb)
      replace HB8 := Lib.hid (HB8.out.read hb)
      replace HV3 := Lib.hid (HV3.out.read hb)
      replace HU4 := Lib.hid (HU4.out.read hb)
      replace HB10 := Lib.hid (HB10.out.read hb)
      replace HU5 := Lib.hid (HU5.out.read hb)
      replace HB11 := Lib.hid (HB11.out.read hb)
      replace HU6 := Lib.hid (HU6.out.read hb)
      replace HB12 := Lib.hid (HB12.out.read hb)
      replace HW := Lib.hid (belowOn HW.out (Nat.le_refl _) hb)
      have HS13 := Lib.hid (hb.size)
      clear hb
      go_upto_region 16 with (fail)
      go_cut [67] from 63 (fun b wx => b = .bool false ∧ Below w8.heap.size w8 wx)
      case first =>
        obtain ⟨c0a, c0b, c0c, c0d⟩ := HB11.out.cells
        have z0 := HB11.out.le
        obtain ⟨c1a, c1b, c1c, c1d⟩ := HB5.out.cells
        have z1 := HB5.out.le
        have hself : Below w8.heap.size w8 w8 := Below.refl _ _
        have hdrew : Below w8.heap.size w8 w8.drew := hself.drew
        have HCE : Hid (∀ W, Below w8.heap.size w8 W → W.cell? ⟨w5.heap.size, 0, none⟩ = some (.int .i64 t2.kind) ∧ W.cell? ⟨w5.heap.size, 1, none⟩ = some (.int .i64 t2.num) ∧ W.cell? ⟨w5.heap.size, 2, none⟩ = some (.string t2.name) ∧ W.cell? ⟨w5.heap.size, 3, none⟩ = some (.slice ad105 t2.args.length cap105) ∧ W.cell? ⟨w.heap.size + 1, 0, none⟩ = some (.int .i64 t2.kind) ∧ W.cell? ⟨w.heap.size + 1, 1, none⟩ = some (.int .i64 t2.num) ∧ W.cell? ⟨w.heap.size + 1, 2, none⟩ = some (.string t2.name) ∧ W.cell? ⟨w.heap.size + 1, 3, none⟩ = some (.slice ad2 t2.args.length cap2)) := Lib.hid fun W hW => by
          obtain ⟨y0a, y0b, y0c, y0d⟩ := (HB11.out.read hW).cells
          obtain ⟨y1a, y1b, y1c, y1d⟩ := (HB5.out.read hW).cells
          exact ⟨y0a, y0b, y0c, y0d, y1a, y1b, y1c, y1d⟩
        have HTR : Hid (∀ a b, Below w8.heap.size w8 a → Below a.heap.size a b → Below w8.heap.size w8 b) := Lib.hid fun a b h1 h2 => belowOn h1 (Nat.le_refl _) h2
        have HTO0 : Hid (∀ W, Below w8.heap.size w8 W → Calls Try.prog 27 #[.agg #[.int .i64 t2.kind, .int .i64 t2.num, .string t2.name, .slice ad2 t2.args.length cap2]] W fun e w' => ∃ u, e = .returned (.agg #[.int .i64 t2.kind, .int .i64 t2.num, .string t2.name, u]) ∧ (∀ W2, Below w'.heap.size w' W2 → ArgsAt W2 u t2.args) ∧ Below W.heap.size W w') := Lib.hid fun W hW =>
          (toTerm_any t2 _ W (HA2.out.read hW).argsAt hZt2).mono fun e w' ⟨u, he, hn⟩ => ⟨u, he, fun W2 h2 => hn.1.argsAt.kept h2, hn.2⟩
        have HEQ : Hid (∀ W u, Below w8.heap.size w8 W → ArgsAt W u t2.args → Calls Try.prog 28 #[.agg #[.int .i64 t2.kind, .int .i64 t2.num, .string t2.name, .slice ad105 t2.args.length cap105], .agg #[.int .i64 t2.kind, .int .i64 t2.num, .string t2.name, u]] W (Yes W)) := Lib.hid fun W u hW hu => eqTerm_any t2 _ _ W (HU5.out.read hW).argsAt hu hZt2
        clear HW HA0 HA2 HB3 HB5 HB8 HV3 HU4 HB10 HU5 HB11 HU6 HB12
        go_region_held3 (fun w' => Below w8.heap.size w8 w' ∧ w'.cell? ⟨w5.heap.size, 0, none⟩ = some (.int .i64 t2.kind) ∧ w'.cell? ⟨w5.heap.size, 1, none⟩ = some (.int .i64 t2.num) ∧ w'.cell? ⟨w5.heap.size, 2, none⟩ = some (.string t2.name) ∧ w'.cell? ⟨w5.heap.size, 3, none⟩ = some (.slice ad105 t2.args.length cap105) ∧ w'.cell? ⟨w.heap.size + 1, 0, none⟩ = some (.int .i64 t2.kind) ∧ w'.cell? ⟨w.heap.size + 1, 1, none⟩ = some (.int .i64 t2.num) ∧ w'.cell? ⟨w.heap.size + 1, 2, none⟩ = some (.string t2.name) ∧ w'.cell? ⟨w.heap.size + 1, 3, none⟩ = some (.slice ad2 t2.args.length cap2)) (go_keep)
          (first
            | (go_at_call 27; (with_reducible refine Calls.mono (HTO0.out _ ?_) ?_); (first | assumption | exact belowAlloc (by assumption) _ | exact (belowAlloc (by assumption) _).drew); rintro e wA0 ⟨u0, rfl, hu0, hb0⟩; have HUU0 := Lib.hid hu0; clear hu0; have hB0 := HTR.out _ _ (by first | assumption | exact belowAlloc (by assumption) _ | exact (belowAlloc (by assumption) _).drew) hb0; obtain ⟨k0, k1, k2, k3, k4, k5, k6, k7⟩ := HCE.out _ hB0)
            | (go_at_call 28; (with_reducible refine Calls.mono (HEQ.out _ _ ?_ ?_) ?_); (assumption); (first | exact HUU0.out _ (Below.refl _ _) | exact HUU0.out _ (by assumption)); rintro e w' ⟨rfl, hbz⟩; have hB' := HTR.out _ _ (by assumption) hbz; obtain ⟨k0, k1, k2, k3, k4, k5, k6, k7⟩ := HCE.out _ hB'))
        all_goals (go_wp2_with fail; go_meet; exact ⟨rfl, by assumption⟩)
      case rest =>
        obtain ⟨rfl, hb⟩ := hcut
        obtain ⟨w9, rfl⟩ : ∃ x : World, x = wc := ⟨_, rfl⟩
        replace HA0 := Lib.hid (HA0.out.read hb)
        replace HA2 := Lib.hid (HA2.out.read hb)
        replace HB3 := Lib.hid (HB3.out.read hb)
        replace HB5 := Lib.hid (HB5.out.read hb)
        replace HB8 := Lib.hid (HB8.out.read hb)
        replace HV3 := Lib.hid (HV3.out.read hb)
        replace HU4 := Lib.hid (HU4.out.read hb)
        replace HB10 := Lib.hid (HB10.out.read hb)
        replace HU5 := Lib.hid (HU5.out.read hb)
        replace HB11 := Lib.hid (HB11.out.read hb)
        replace HU6 := Lib.hid (HU6.out.read hb)
        replace HB12 := Lib.hid (HB12.out.read hb)
        replace HW := Lib.hid (belowOn HW.out (Nat.le_refl _) hb)
        have HS14 := Lib.hid (hb.size)
        clear hb
        obtain ⟨c0a, c0b, c0c, c0d⟩ := HB10.out.cells
        have z0 := HB10.out.le
        have hnl := nl_bd hZt0
        have HF := Lib.hid (markTerm_any t0.kind t0.num t0.name t0.args _ (1) _ _ w9 HU4.out (by omega) (by omega))
        go_wp2_with fail
        refine HF.out.mono ?_
        rintro e w10 ⟨rfl, hat, ho⟩
        clear c0a c0b c0c c0d z0
        have s0 := HS0.out
        have s1 := HS1.out
        have s2 := HS2.out
        have s3 := HS3.out
        have s4 := HS4.out
        have s5 := HS5.out
        have s6 := HS6.out
        have s7 := HS7.out
        have s8 := HS8.out
        have s9 := HS9.out
        have s10 := HS10.out
        have s11 := HS11.out
        have s12 := HS12.out
        have s13 := HS13.out
        have s14 := HS14.out
        replace HA0 := Lib.hid (HA0.out.only ho (by omega))
        replace HA2 := Lib.hid (HA2.out.only ho (by omega))
        replace HB3 := Lib.hid (HB3.out.only ho (by omega))
        replace HB5 := Lib.hid (HB5.out.only ho (by omega))
        replace HB8 := Lib.hid (HB8.out.only ho (by omega))
        replace HV3 := Lib.hid (HV3.out.only ho (by omega))
        replace HB10 := Lib.hid (HB10.out.only ho (by omega))
        replace HU5 := Lib.hid (HU5.out.only ho (by omega))
        replace HB11 := Lib.hid (HB11.out.only ho (by omega))
        replace HU6 := Lib.hid (HU6.out.only ho (by omega))
        replace HB12 := Lib.hid (HB12.out.only ho (by omega))
        replace HW := Lib.hid (HW.out.trans (ho.below (fun k hk => by have := hk.1; omega) (by omega)))
        clear s0 s1 s2 s3 s4 s5 s6 s7 s8 s9 s10 s11 s12 s13 s14
        replace HU4 := Lib.hid hat
        have HS15 := Lib.hid (ho.size)
        clear HF hat ho
        obtain ⟨c0a, c0b, c0c, c0d⟩ := HB11.out.cells
        have z0 := HB11.out.le
        have hnl := nl_bd hZt2
        have HF := Lib.hid (markTerm_any t2.kind t2.num t2.name t2.args _ (1 + 3 * (nodesL t0.args : Int)) _ _ w10 HU5.out (by omega) (by omega))
        go_wp2_with fail
        refine HF.out.mono ?_
        rintro e w11 ⟨rfl, hat, ho⟩
        clear c0a c0b c0c c0d z0
        have s0 := HS0.out
        have s1 := HS1.out
        have s2 := HS2.out
        have s3 := HS3.out
        have s4 := HS4.out
        have s5 := HS5.out
        have s6 := HS6.out
        have s7 := HS7.out
        have s8 := HS8.out
        have s9 := HS9.out
        have s10 := HS10.out
        have s11 := HS11.out
        have s12 := HS12.out
        have s13 := HS13.out
        have s14 := HS14.out
        have s15 := HS15.out
        replace HA0 := Lib.hid (HA0.out.only ho (by omega))
        replace HA2 := Lib.hid (HA2.out.only ho (by omega))
        replace HB3 := Lib.hid (HB3.out.only ho (by omega))
        replace HB5 := Lib.hid (HB5.out.only ho (by omega))
        replace HB8 := Lib.hid (HB8.out.only ho (by omega))
        replace HV3 := Lib.hid (HV3.out.only ho (by omega))
        replace HU4 := Lib.hid (HU4.out.only ho (by omega))
        replace HB10 := Lib.hid (HB10.out.only ho (by omega))
        replace HB11 := Lib.hid (HB11.out.only ho (by omega))
        replace HU6 := Lib.hid (HU6.out.only ho (by omega))
        replace HB12 := Lib.hid (HB12.out.only ho (by omega))
        replace HW := Lib.hid (HW.out.trans (ho.below (fun k hk => by have := hk.1; omega) (by omega)))
        clear s0 s1 s2 s3 s4 s5 s6 s7 s8 s9 s10 s11 s12 s13 s14 s15
        replace HU5 := Lib.hid hat
        have HS16 := Lib.hid (ho.size)
        clear HF hat ho
        obtain ⟨c0a, c0b, c0c, c0d⟩ := HB12.out.cells
        have z0 := HB12.out.le
        obtain ⟨c1a, c1b, c1c, c1d⟩ := HB8.out.cells
        have z1 := HB8.out.le
        have HF := Lib.hid (eqTerm_any (rvT t0 a1 t2) _ _ w11 HU6.out.argsAt HV3.out.argsAt (rv_sz t0 a1 t2))
        go_wp2_with fail
        refine HF.out.mono ?_
        rintro e w12 ⟨rfl, hb⟩
        clear c0a c0b c0c c0d z0 c1a c1b c1c c1d z1
        replace HA0 := Lib.hid (HA0.out.read hb)
        replace HA2 := Lib.hid (HA2.out.read hb)
        replace HB3 := Lib.hid (HB3.out.read hb)
        replace HB5 := Lib.hid (HB5.out.read hb)
        replace HB8 := Lib.hid (HB8.out.read hb)
        replace HV3 := Lib.hid (HV3.out.read hb)
        replace HU4 := Lib.hid (HU4.out.read hb)
        replace HB10 := Lib.hid (HB10.out.read hb)
        replace HU5 := Lib.hid (HU5.out.read hb)
        replace HB11 := Lib.hid (HB11.out.read hb)
        replace HU6 := Lib.hid (HU6.out.read hb)
        replace HB12 := Lib.hid (HB12.out.read hb)
        replace HW := Lib.hid (belowOn HW.out (Nat.le_refl _) hb)
        have HS17 := Lib.hid (hb.size)
        clear HF hb
        obtain ⟨c0a, c0b, c0c, c0d⟩ := HB12.out.cells
        have z0 := HB12.out.le
        have hnl := nl_bd (rv_sz t0 a1 t2)
        have HF := Lib.hid (markTerm_any (rvT t0 a1 t2).kind (rvT t0 a1 t2).num (rvT t0 a1 t2).name (rvT t0 a1 t2).args _ (1) _ _ w12 HU6.out (by omega) (by omega))
        go_wp2_with fail
        refine HF.out.mono ?_
        rintro e w13 ⟨rfl, hat, ho⟩
        clear c0a c0b c0c c0d z0
        have s0 := HS0.out
        have s1 := HS1.out
        have s2 := HS2.out
        have s3 := HS3.out
        have s4 := HS4.out
        have s5 := HS5.out
        have s6 := HS6.out
        have s7 := HS7.out
        have s8 := HS8.out
        have s9 := HS9.out
        have s10 := HS10.out
        have s11 := HS11.out
        have s12 := HS12.out
        have s13 := HS13.out
        have s14 := HS14.out
        have s15 := HS15.out
        have s16 := HS16.out
        have s17 := HS17.out
        replace HA0 := Lib.hid (HA0.out.only ho (by omega))
        replace HA2 := Lib.hid (HA2.out.only ho (by omega))
        replace HB3 := Lib.hid (HB3.out.only ho (by omega))
        replace HB5 := Lib.hid (HB5.out.only ho (by omega))
        replace HB8 := Lib.hid (HB8.out.only ho (by omega))
        replace HV3 := Lib.hid (HV3.out.only ho (by omega))
        replace HU4 := Lib.hid (HU4.out.only ho (by omega))
        replace HB10 := Lib.hid (HB10.out.only ho (by omega))
        replace HU5 := Lib.hid (HU5.out.only ho (by omega))
        replace HB11 := Lib.hid (HB11.out.only ho (by omega))
        replace HB12 := Lib.hid (HB12.out.only ho (by omega))
        replace HW := Lib.hid (HW.out.trans (ho.below (fun k hk => by have := hk.1; omega) (by omega)))
        clear s0 s1 s2 s3 s4 s5 s6 s7 s8 s9 s10 s11 s12 s13 s14 s15 s16 s17
        replace HU6 := Lib.hid hat
        have HS18 := Lib.hid (ho.size)
        clear HF hat ho
        obtain ⟨c0a, c0b, c0c, c0d⟩ := HB12.out.cells
        have z0 := HB12.out.le
        have hnl := nl_bd (rv_sz t0 a1 t2)
        have HF := Lib.hid (heldTerm_any (rvT t0 a1 t2).kind (rvT t0 a1 t2).num (rvT t0 a1 t2).name (rvT t0 a1 t2).args _ (1) w13 HU6.out.argsAt (by omega) (by omega))
        go_wp2_with fail
        refine HF.out.mono ?_
        rintro e w14 ⟨rfl, hb⟩
        clear c0a c0b c0c c0d z0
        replace HA0 := Lib.hid (HA0.out.read hb)
        replace HA2 := Lib.hid (HA2.out.read hb)
        replace HB3 := Lib.hid (HB3.out.read hb)
        replace HB5 := Lib.hid (HB5.out.read hb)
        replace HB8 := Lib.hid (HB8.out.read hb)
        replace HV3 := Lib.hid (HV3.out.read hb)
        replace HU4 := Lib.hid (HU4.out.read hb)
        replace HB10 := Lib.hid (HB10.out.read hb)
        replace HU5 := Lib.hid (HU5.out.read hb)
        replace HB11 := Lib.hid (HB11.out.read hb)
        replace HU6 := Lib.hid (HU6.out.read hb)
        replace HB12 := Lib.hid (HB12.out.read hb)
        replace HW := Lib.hid (belowOn HW.out (Nat.le_refl _) hb)
        have HS19 := Lib.hid (hb.size)
        clear HF hb
        go_upto_region 31 with (fail)
        go_cut [17, 18] from 98 (fun p b wx => Struct2 w14 (rvT t0 a1 t2) (rvB t0 a1 t2) p b wx)
        case first =>
          obtain ⟨c0a, c0b, c0c, c0d⟩ := HB3.out.cells
          have z0 := HB3.out.le
          obtain ⟨c1a, c1b, c1c, c1d⟩ := HB5.out.cells
          have z1 := HB5.out.le
          have hself : Below w14.heap.size w14 w14 := Below.refl _ _
          have hdrew : Below w14.heap.size w14 w14.drew := hself.drew
          have HCE : Hid (∀ W, Below w14.heap.size w14 W → W.cell? ⟨w.heap.size, 0, none⟩ = some (.int .i64 t0.kind) ∧ W.cell? ⟨w.heap.size, 1, none⟩ = some (.int .i64 t0.num) ∧ W.cell? ⟨w.heap.size, 2, none⟩ = some (.string t0.name) ∧ W.cell? ⟨w.heap.size, 3, none⟩ = some (.slice ad0 t0.args.length cap0) ∧ W.cell? ⟨w.heap.size + 1, 0, none⟩ = some (.int .i64 t2.kind) ∧ W.cell? ⟨w.heap.size + 1, 1, none⟩ = some (.int .i64 t2.num) ∧ W.cell? ⟨w.heap.size + 1, 2, none⟩ = some (.string t2.name) ∧ W.cell? ⟨w.heap.size + 1, 3, none⟩ = some (.slice ad2 t2.args.length cap2)) := Lib.hid fun W hW => by
            obtain ⟨y0a, y0b, y0c, y0d⟩ := (HB3.out.read hW).cells
            obtain ⟨y1a, y1b, y1c, y1d⟩ := (HB5.out.read hW).cells
            exact ⟨y0a, y0b, y0c, y0d, y1a, y1b, y1c, y1d⟩
          have HTR : Hid (∀ a b, Below w14.heap.size w14 a → Below a.heap.size a b → Below w14.heap.size w14 b) := Lib.hid fun a b h1 h2 => belowOn h1 (Nat.le_refl _) h2
          have HTO0 : Hid (∀ W, Below w14.heap.size w14 W → Calls Try.prog 27 #[.agg #[.int .i64 t0.kind, .int .i64 t0.num, .string t0.name, .slice ad0 t0.args.length cap0]] W fun e w' => ∃ u, e = .returned (.agg #[.int .i64 t0.kind, .int .i64 t0.num, .string t0.name, u]) ∧ (∀ W2, Below w'.heap.size w' W2 → ArgsAt W2 u t0.args) ∧ Below W.heap.size W w') := Lib.hid fun W hW =>
            (toTerm_any t0 _ W (HA0.out.read hW).argsAt hZt0).mono fun e w' ⟨u, he, hn⟩ => ⟨u, he, fun W2 h2 => hn.1.argsAt.kept h2, hn.2⟩
          have HTO1 : Hid (∀ W, Below w14.heap.size w14 W → Calls Try.prog 27 #[.agg #[.int .i64 t2.kind, .int .i64 t2.num, .string t2.name, .slice ad2 t2.args.length cap2]] W fun e w' => ∃ u, e = .returned (.agg #[.int .i64 t2.kind, .int .i64 t2.num, .string t2.name, u]) ∧ (∀ W2, Below w'.heap.size w' W2 → ArgsAt W2 u t2.args) ∧ Below W.heap.size W w') := Lib.hid fun W hW =>
            (toTerm_any t2 _ W (HA2.out.read hW).argsAt hZt2).mono fun e w' ⟨u, he, hn⟩ => ⟨u, he, fun W2 h2 => hn.1.argsAt.kept h2, hn.2⟩
          have HF : Hid (∀ W u0 u1, Below w14.heap.size w14 W → ArgsAt W u0 t0.args → ArgsAt W u1 t2.args → Calls Try.prog 15 #[.agg #[.int .i64 t0.kind, .int .i64 t0.num, .string t0.name, u0], .int .i64 a1, .agg #[.int .i64 t2.kind, .int .i64 t2.num, .string t2.name, u1]] W (OldTm2 (rvT t0 a1 t2) (rvB t0 a1 t2) W)) := Lib.hid fun W u0 u1 hW hu0 hu1 => (implReplaceVar_any t0 u0 a1 t2 u1 W hu0 hZt0 hu1 hZt2).mono fun e w' h => h.old
          clear HW HA0 HA2 HB3 HB5 HB8 HV3 HU4 HB10 HU5 HB11 HU6 HB12
          have n0a : ¬ w.heap.size = w14.heap.size := by omega
          have n0b : ¬ w14.heap.size = w.heap.size := by omega
          have n1a : ¬ w.heap.size + 1 = w14.heap.size := by omega
          have n1b : ¬ w14.heap.size = w.heap.size + 1 := by omega
          go_region_held3 (fun w' => w'.cell? ⟨w.heap.size, 0, none⟩ = some (.int .i64 t0.kind) ∧ w'.cell? ⟨w.heap.size, 1, none⟩ = some (.int .i64 t0.num) ∧ w'.cell? ⟨w.heap.size, 2, none⟩ = some (.string t0.name) ∧ w'.cell? ⟨w.heap.size, 3, none⟩ = some (.slice ad0 t0.args.length cap0) ∧ w'.cell? ⟨w.heap.size + 1, 0, none⟩ = some (.int .i64 t2.kind) ∧ w'.cell? ⟨w.heap.size + 1, 1, none⟩ = some (.int .i64 t2.num) ∧ w'.cell? ⟨w.heap.size + 1, 2, none⟩ = some (.string t2.name) ∧ w'.cell? ⟨w.heap.size + 1, 3, none⟩ = some (.slice ad2 t2.args.length cap2)) (go_keep)
            (first
              | (go_at_call 27; (with_reducible refine Calls.mono (HTO0.out _ ?_) ?_); (first | assumption | exact belowAlloc (by assumption) _ | exact (belowAlloc (by assumption) _).drew); rintro e wA0 ⟨u0, rfl, hu0, hb0⟩; (first | (with_reducible have HBX := Lib.hid (box_after (W0 := w14) (by assumption) hb0)) | (with_reducible have HBX := Lib.hid (box_after_drew (W0 := w14) (by assumption) hb0)) | (replace HBX := Lib.hid (box_keep HBX.out hb0)) | skip); have HUU0 := Lib.hid hu0; clear hu0; have hB0 := HTR.out _ _ (by first | assumption | exact belowAlloc (by assumption) _ | exact (belowAlloc (by assumption) _).drew) hb0; have n0awA0 : ¬ w.heap.size = wA0.heap.size := (by have := hB0.size; omega); have n0bwA0 : ¬ wA0.heap.size = w.heap.size := (by have := hB0.size; omega); have n1awA0 : ¬ w.heap.size + 1 = wA0.heap.size := (by have := hB0.size; omega); have n1bwA0 : ¬ wA0.heap.size = w.heap.size + 1 := (by have := hB0.size; omega); obtain ⟨k0, k1, k2, k3, k4, k5, k6, k7⟩ := HCE.out _ hB0)
              | (go_at_call 27; (with_reducible refine Calls.mono (HTO1.out _ ?_) ?_); (first | assumption | exact belowAlloc (by assumption) _ | exact (belowAlloc (by assumption) _).drew); rintro e wA1 ⟨u1, rfl, hu1, hb1⟩; (first | (with_reducible have HBX := Lib.hid (box_after (W0 := w14) (by assumption) hb1)) | (with_reducible have HBX := Lib.hid (box_after_drew (W0 := w14) (by assumption) hb1)) | (replace HBX := Lib.hid (box_keep HBX.out hb1)) | skip); have HUU1 := Lib.hid hu1; clear hu1; have hB1 := HTR.out _ _ (by first | assumption | exact belowAlloc (by assumption) _ | exact (belowAlloc (by assumption) _).drew) hb1; have n0awA1 : ¬ w.heap.size = wA1.heap.size := (by have := hB1.size; omega); have n0bwA1 : ¬ wA1.heap.size = w.heap.size := (by have := hB1.size; omega); have n1awA1 : ¬ w.heap.size + 1 = wA1.heap.size := (by have := hB1.size; omega); have n1bwA1 : ¬ wA1.heap.size = w.heap.size + 1 := (by have := hB1.size; omega); obtain ⟨k0, k1, k2, k3, k4, k5, k6, k7⟩ := HCE.out _ hB1)
              | (go_at_call 15; (with_reducible refine Calls.mono (HF.out _ _ _ ?_ ?_ ?_) ?_); (first | assumption | exact belowAlloc (by assumption) _ | exact (belowAlloc (by assumption) _).drew); (first | exact HUU0.out _ (Below.refl _ _) | exact HUU0.out _ (by assumption) | exact HUU0.out _ (belowAlloc (Below.refl _ _) _) | exact HUU0.out _ (belowAlloc (by assumption) _) | exact HUU0.out _ (belowOn (belowAlloc (Below.refl _ _) _) (Nat.le_refl _) (by assumption))); (first | exact HUU1.out _ (Below.refl _ _) | exact HUU1.out _ (by assumption) | exact HUU1.out _ (belowAlloc (Below.refl _ _) _) | exact HUU1.out _ (belowAlloc (by assumption) _) | exact HUU1.out _ (belowOn (belowAlloc (Below.refl _ _) _) (Nat.le_refl _) (by assumption))); rintro e wS ⟨uS, rfl, huS, hbS⟩; obtain ⟨aS, kS, rfl⟩ := huS.at.slice; (first | (with_reducible have HBL := Lib.hid (alloc_lt hbS)) | (have HBL := Lib.hid (block_lt HBX.out hbS)) | skip); (first | (with_reducible have HBX := Lib.hid (box_after (W0 := w14) (by assumption) hbS)) | (with_reducible have HBX := Lib.hid (box_after_drew (W0 := w14) (by assumption) hbS)) | (replace HBX := Lib.hid (box_keep HBX.out hbS)) | skip); have hS := HTR.out _ _ (by first | assumption | exact belowAlloc (by assumption) _ | exact (belowAlloc (by assumption) _).drew) hbS; have n0awS : ¬ w.heap.size = wS.heap.size := (by have := hS.size; omega); have n0bwS : ¬ wS.heap.size = w.heap.size := (by have := hS.size; omega); have n1awS : ¬ w.heap.size + 1 = wS.heap.size := (by have := hS.size; omega); have n1bwS : ¬ wS.heap.size = w.heap.size + 1 := (by have := hS.size; omega); obtain ⟨k0, k1, k2, k3, k4, k5, k6, k7⟩ := HCE.out _ hS; have HUS := Lib.hid huS; (first | (have hq9 := box_cells (HBX.out).1; obtain ⟨q0, q1, q2, q3, qf⟩ := hq9) | skip)))
          all_goals (go_wp2_with fail; go_meet; first | (with_reducible exact struct2_late HUS.out hS) | (with_reducible exact struct2_early HBX.out HBL.out HUS.out hS) | exact struct2_late HUS.out hS | exact struct2_early HBX.out HBL.out HUS.out hS)
        case rest =>
          obtain ⟨B15, ad115, cap115, rfl, rfl, hbx, hlo, hu, hb⟩ := hcut
          obtain ⟨w15, rfl⟩ : ∃ x : World, x = wc := ⟨_, rfl⟩
          replace HA0 := Lib.hid (HA0.out.read hb)
          replace HA2 := Lib.hid (HA2.out.read hb)
          replace HB3 := Lib.hid (HB3.out.read hb)
          replace HB5 := Lib.hid (HB5.out.read hb)
          replace HB8 := Lib.hid (HB8.out.read hb)
          replace HV3 := Lib.hid (HV3.out.read hb)
          replace HU4 := Lib.hid (HU4.out.read hb)
          replace HB10 := Lib.hid (HB10.out.read hb)
          replace HU5 := Lib.hid (HU5.out.read hb)
          replace HB11 := Lib.hid (HB11.out.read hb)
          replace HU6 := Lib.hid (HU6.out.read hb)
          replace HB12 := Lib.hid (HB12.out.read hb)
          replace HW := Lib.hid (belowOn HW.out (Nat.le_refl _) hb)
          have HS20 := Lib.hid (hb.size)
          have HB17 := Lib.hid (at_box_in hbx)
          have HV15 := Lib.hid (at_args hu)
          have HS21 := Lib.hid (And.intro hlo (at_box_in hbx).le)
          clear hb hbx hlo hu
          obtain ⟨c0a, c0b, c0c, c0d⟩ := HB17.out.cells
          have z0 := HB17.out.le
          obtain ⟨c1a, c1b, c1c, c1d⟩ := HB8.out.cells
          have z1 := HB8.out.le
          have HF := Lib.hid (eqTerm_any (rvT t0 a1 t2) _ _ w15 HV15.out.argsAt HV3.out.argsAt (rv_sz t0 a1 t2))
          go_wp2_with fail
          refine HF.out.mono ?_
          rintro e w16 ⟨rfl, hb⟩
          clear c0a c0b c0c c0d z0 c1a c1b c1c c1d z1
          replace HA0 := Lib.hid (HA0.out.read hb)
          replace HA2 := Lib.hid (HA2.out.read hb)
          replace HB3 := Lib.hid (HB3.out.read hb)
          replace HB5 := Lib.hid (HB5.out.read hb)
          replace HB8 := Lib.hid (HB8.out.read hb)
          replace HV3 := Lib.hid (HV3.out.read hb)
          replace HU4 := Lib.hid (HU4.out.read hb)
          replace HB10 := Lib.hid (HB10.out.read hb)
          replace HU5 := Lib.hid (HU5.out.read hb)
          replace HB11 := Lib.hid (HB11.out.read hb)
          replace HU6 := Lib.hid (HU6.out.read hb)
          replace HB12 := Lib.hid (HB12.out.read hb)
          replace HB17 := Lib.hid (HB17.out.read hb)
          replace HV15 := Lib.hid (HV15.out.read hb)
          replace HW := Lib.hid (belowOn HW.out (Nat.le_refl _) hb)
          have HS22 := Lib.hid (hb.size)
          clear HF hb
          obtain ⟨c0a, c0b, c0c, c0d⟩ := HB12.out.cells
          have z0 := HB12.out.le
          have hnl := nl_bd (rv_sz t0 a1 t2)
          have HF := Lib.hid (heldTerm_any (rvT t0 a1 t2).kind (rvT t0 a1 t2).num (rvT t0 a1 t2).name (rvT t0 a1 t2).args _ (1) w16 HU6.out.argsAt (by omega) (by omega))
          go_wp2_with fail
          refine HF.out.mono ?_
          rintro e w17 ⟨rfl, hb⟩
          clear c0a c0b c0c c0d z0
          replace HA0 := Lib.hid (HA0.out.read hb)
          replace HA2 := Lib.hid (HA2.out.read hb)
          replace HB3 := Lib.hid (HB3.out.read hb)
          replace HB5 := Lib.hid (HB5.out.read hb)
          replace HB8 := Lib.hid (HB8.out.read hb)
          replace HV3 := Lib.hid (HV3.out.read hb)
          replace HU4 := Lib.hid (HU4.out.read hb)
          replace HB10 := Lib.hid (HB10.out.read hb)
          replace HU5 := Lib.hid (HU5.out.read hb)
          replace HB11 := Lib.hid (HB11.out.read hb)
          replace HU6 := Lib.hid (HU6.out.read hb)
          replace HB12 := Lib.hid (HB12.out.read hb)
          replace HB17 := Lib.hid (HB17.out.read hb)
          replace HV15 := Lib.hid (HV15.out.read hb)
          replace HW := Lib.hid (belowOn HW.out (Nat.le_refl _) hb)
          have HS23 := Lib.hid (hb.size)
          clear HF hb
          go_wp2
          go_ret
          exact ⟨rfl, HW.out⟩
end Go.Proofs.Ytodldillpoajfaa
