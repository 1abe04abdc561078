/-
  The law of ApplySubst, walked: it returns true, and nothing that was there is changed. (Written by wip/tools/mkexact.py over the law's operations.)
-/
import Derived.Test.YtnbnepeikdieaaaSpecSubs
import Derived.Test.YtnbnepeikdieaaaImplComp
import Derived.Test.YtnbnepeikdieaaaSubsQ
import Derived.Test.YtnbnepeikdieaaaLaws
namespace Go.Proofs.Ytnbnepeikdieaaa
open Go.RowKit
set_option linter.unusedVariables false
set_option linter.unusedSimpArgs false

set_option maxRecDepth 100000 in
set_option maxHeartbeats 16000000 in
theorem walkApplySubst (w : World) (V0 : Value) (l0 : List Bd) (A0 : ListS bdE w Any V0 l0) (f0 : fineB l0) (n0 : l0.length ≤ maxLen) (t1 : Tm) (V1 : Value) (A1 : ArgsAt w V1 t1.args) (f1 : t1.fine) :
    Calls Try.prog 5 #[V0, .agg #[.int .i64 t1.kind, .int .i64 t1.num, .string t1.name, V1]] w fun e w' => e = .returned (.bool true) ∧ Below w.heap.size w w' := by
  obtain ⟨ad0, cap0, rfl⟩ := A0.slice
  have HA0 := Lib.hid (at_list A0)
  clear A0
  obtain ⟨ad1, cap1, rfl⟩ := A1.slice
  have HA1 := Lib.hid (at_args A1)
  clear A1
  have HW : Hid (Below w.heap.size w w) := Lib.hid (Below.refl _ _)
  have hal : Below w.heap.size w (w.alloc (.cells #[.int .i64 t1.kind, .int .i64 t1.num, .string t1.name, .slice ad1 t1.args.length cap1] 40)) := (Below.refl _ _).alloc (Nat.le_refl _) _
  replace HA0 := Lib.hid (HA0.out.read hal)
  replace HA1 := Lib.hid (HA1.out.read hal)
  replace HW := Lib.hid (belowOn HW.out (Nat.le_refl _) hal)
  have HB3 := Lib.hid (at_box_of w #[.int .i64 t1.kind, .int .i64 t1.num, .string t1.name, .slice ad1 t1.args.length cap1] 40 (w.heap.size) (by simp))
  have HS0 := Lib.hid (show (w.alloc (.cells #[.int .i64 t1.kind, .int .i64 t1.num, .string t1.name, .slice ad1 t1.args.length cap1] 40)).heap.size = w.heap.size + 1 by simp)
  clear hal
  go_enter Try.func5, Try.ntmps5
  have HSZ := Lib.hid (szBindingL_any l0 _ 1048576 (w.alloc (.cells #[.int .i64 t1.kind, .int .i64 t1.num, .string t1.name, .slice ad1 t1.args.length cap1] 40)) HA0.out.listS f0 n0 (by omega) (by omega))
  go_wp2_with fail
  refine HSZ.out.mono ?_
  rintro e w1 ⟨r0, rfl, hr1, hr2, hr, hb⟩
  clear HSZ
  replace HA0 := Lib.hid (HA0.out.read hb)
  replace HA1 := Lib.hid (HA1.out.read hb)
  replace HB3 := Lib.hid (HB3.out.read hb)
  replace HW := Lib.hid (belowOn HW.out (Nat.le_refl _) hb)
  have HS1 := Lib.hid (hb.size)
  clear hb
  by_cases hneg : r0 < 0
  · clear hr
    go_wp2
    go_ret
    exact ⟨rfl, HW.out⟩
  have hZl0 : szB l0 ≤ 1048576 := by have := hr (by omega); omega
  replace hr1 : 0 ≤ r0 := by omega
  replace hr2 : r0 ≤ 1048576 := by omega
  clear hr hneg
  have h0r0 := hr1
  have h1r0 := hr2
  clear hr1 hr2
  obtain ⟨c0a, c0b, c0c, c0d⟩ := HB3.out.cells
  have z0 := HB3.out.le
  have HSZ := Lib.hid (szTerm_any t1 _ r0 w1 HA1.out.argsAt f1 (by omega) (by omega))
  go_wp2_with fail
  refine HSZ.out.mono ?_
  rintro e w2 ⟨r1, rfl, hr1, hr2, hr, hb⟩
  clear c0a c0b c0c c0d z0
  clear HSZ
  replace HA0 := Lib.hid (HA0.out.read hb)
  replace HA1 := Lib.hid (HA1.out.read hb)
  replace HB3 := Lib.hid (HB3.out.read hb)
  replace HW := Lib.hid (belowOn HW.out (Nat.le_refl _) hb)
  have HS2 := Lib.hid (hb.size)
  clear hb
  by_cases hneg : r1 < 0
  · clear hr
    go_wp2
    go_ret
    exact ⟨rfl, HW.out⟩
  have hZt1 : t1.sz ≤ 1048576 := by have := hr (by omega); omega
  replace hr1 : 0 ≤ r1 := by omega
  replace hr2 : r1 ≤ 1048576 := by omega
  clear hr hneg
  have h0r1 := hr1
  have h1r1 := hr2
  clear hr1 hr2
  go_upto_region 8 with (fail)
  go_cut [6, 7] from 27 (fun p b wx => Struct2 w2 (apT l0 t1) (apB l0 t1) p b wx)
  case first =>
    obtain ⟨c0a, c0b, c0c, c0d⟩ := HB3.out.cells
    have z0 := HB3.out.le
    have hself : Below w2.heap.size w2 w2 := Below.refl _ _
    have hdrew : Below w2.heap.size w2 w2.drew := hself.drew
    have HCE : Hid (∀ W, Below w2.heap.size w2 W → W.cell? ⟨w.heap.size, 0, none⟩ = some (.int .i64 t1.kind) ∧ W.cell? ⟨w.heap.size, 1, none⟩ = some (.int .i64 t1.num) ∧ W.cell? ⟨w.heap.size, 2, none⟩ = some (.string t1.name) ∧ W.cell? ⟨w.heap.size, 3, none⟩ = some (.slice ad1 t1.args.length cap1)) := Lib.hid fun W hW => by
      obtain ⟨y0a, y0b, y0c, y0d⟩ := (HB3.out.read hW).cells
      exact ⟨y0a, y0b, y0c, y0d⟩
    have HTR : Hid (∀ a b, Below w2.heap.size w2 a → Below a.heap.size a b → Below w2.heap.size w2 b) := Lib.hid fun a b h1 h2 => belowOn h1 (Nat.le_refl _) h2
    have HTO0 : Hid (∀ W, Below w2.heap.size w2 W → Calls Try.prog 12 #[(.slice ad0 l0.length cap0)] W fun e w' => ∃ u, e = .returned (u) ∧ (∀ W2, Below w'.heap.size w' W2 → ListS bdE W2 Any u l0) ∧ Below W.heap.size W w') := Lib.hid fun W hW =>
      (toBindingL_any l0 _ W (HA0.out.read hW).listS hZl0).mono fun e w' ⟨u, he, hn⟩ => ⟨u, he, fun W2 h2 => hn.1.inS.any.kept h2, hn.2⟩
    have HTO1 : Hid (∀ W, Below w2.heap.size w2 W → Calls Try.prog 23 #[.agg #[.int .i64 t1.kind, .int .i64 t1.num, .string t1.name, .slice ad1 t1.args.length cap1]] W fun e w' => ∃ u, e = .returned (.agg #[.int .i64 t1.kind, .int .i64 t1.num, .string t1.name, u]) ∧ (∀ W2, Below w'.heap.size w' W2 → ArgsAt W2 u t1.args) ∧ Below W.heap.size W w') := Lib.hid fun W hW =>
      (toTerm_any t1 _ W (HA1.out.read hW).argsAt hZt1).mono fun e w' ⟨u, he, hn⟩ => ⟨u, he, fun W2 h2 => hn.1.argsAt.kept h2, hn.2⟩
    have HF : Hid (∀ W u0 u1, Below w2.heap.size w2 W → ListS bdE W Any u0 l0 → ArgsAt W u1 t1.args → Calls Try.prog 22 #[u0, .agg #[.int .i64 t1.kind, .int .i64 t1.num, .string t1.name, u1]] W (OldTm2 (apT l0 t1) (apB l0 t1) W)) := Lib.hid fun W u0 u1 hW hu0 hu1 => (specApply_z l0 u0 t1 u1 W hu0 hZl0 hu1 hZt1)
    clear HW HA0 HA1 HB3
    have n0a : ¬ w.heap.size = w2.heap.size := by omega
    have n0b : ¬ w2.heap.size = w.heap.size := by omega
    go_region_held3 (fun w' => w'.cell? ⟨w.heap.size, 0, none⟩ = some (.int .i64 t1.kind) ∧ w'.cell? ⟨w.heap.size, 1, none⟩ = some (.int .i64 t1.num) ∧ w'.cell? ⟨w.heap.size, 2, none⟩ = some (.string t1.name) ∧ w'.cell? ⟨w.heap.size, 3, none⟩ = some (.slice ad1 t1.args.length cap1)) (go_keep)
      (first
        | (go_at_call 12; (with_reducible refine Calls.mono (HTO0.out _ ?_) ?_); (first | assumption | exact belowAlloc (by assumption) _ | exact (belowAlloc (by assumption) _).drew); rintro e wA0 ⟨u0, rfl, hu0, hb0⟩; (first | (with_reducible have HBX := Lib.hid (box_after (W0 := w2) (by assumption) hb0)) | (with_reducible have HBX := Lib.hid (box_after_drew (W0 := w2) (by assumption) hb0)) | (replace HBX := Lib.hid (box_keep HBX.out hb0)) | skip); have HUU0 := Lib.hid hu0; clear hu0; have hB0 := HTR.out _ _ (by first | assumption | exact belowAlloc (by assumption) _ | exact (belowAlloc (by assumption) _).drew) hb0; have n0awA0 : ¬ w.heap.size = wA0.heap.size := (by have := hB0.size; omega); have n0bwA0 : ¬ wA0.heap.size = w.heap.size := (by have := hB0.size; omega); obtain ⟨k0, k1, k2, k3⟩ := HCE.out _ hB0)
        | (go_at_call 23; (with_reducible refine Calls.mono (HTO1.out _ ?_) ?_); (first | assumption | exact belowAlloc (by assumption) _ | exact (belowAlloc (by assumption) _).drew); rintro e wA1 ⟨u1, rfl, hu1, hb1⟩; (first | (with_reducible have HBX := Lib.hid (box_after (W0 := w2) (by assumption) hb1)) | (with_reducible have HBX := Lib.hid (box_after_drew (W0 := w2) (by assumption) hb1)) | (replace HBX := Lib.hid (box_keep HBX.out hb1)) | skip); have HUU1 := Lib.hid hu1; clear hu1; have hB1 := HTR.out _ _ (by first | assumption | exact belowAlloc (by assumption) _ | exact (belowAlloc (by assumption) _).drew) hb1; have n0awA1 : ¬ w.heap.size = wA1.heap.size := (by have := hB1.size; omega); have n0bwA1 : ¬ wA1.heap.size = w.heap.size := (by have := hB1.size; omega); obtain ⟨k0, k1, k2, k3⟩ := HCE.out _ hB1)
        | (go_at_call 22; (with_reducible refine Calls.mono (HF.out _ _ _ ?_ ?_ ?_) ?_); (first | assumption | exact belowAlloc (by assumption) _ | exact (belowAlloc (by assumption) _).drew); (first | exact HUU0.out _ (Below.refl _ _) | exact HUU0.out _ (by assumption) | exact HUU0.out _ (belowAlloc (Below.refl _ _) _) | exact HUU0.out _ (belowAlloc (by assumption) _) | exact HUU0.out _ (belowOn (belowAlloc (Below.refl _ _) _) (Nat.le_refl _) (by assumption))); (first | exact HUU1.out _ (Below.refl _ _) | exact HUU1.out _ (by assumption) | exact HUU1.out _ (belowAlloc (Below.refl _ _) _) | exact HUU1.out _ (belowAlloc (by assumption) _) | exact HUU1.out _ (belowOn (belowAlloc (Below.refl _ _) _) (Nat.le_refl _) (by assumption))); rintro e wS ⟨uS, rfl, huS, hbS⟩; obtain ⟨aS, kS, rfl⟩ := huS.at.slice; (first | (with_reducible have HBL := Lib.hid (alloc_lt hbS)) | (have HBL := Lib.hid (block_lt HBX.out hbS)) | skip); (first | (with_reducible have HBX := Lib.hid (box_after (W0 := w2) (by assumption) hbS)) | (with_reducible have HBX := Lib.hid (box_after_drew (W0 := w2) (by assumption) hbS)) | (replace HBX := Lib.hid (box_keep HBX.out hbS)) | skip); have hS := HTR.out _ _ (by first | assumption | exact belowAlloc (by assumption) _ | exact (belowAlloc (by assumption) _).drew) hbS; have n0awS : ¬ w.heap.size = wS.heap.size := (by have := hS.size; omega); have n0bwS : ¬ wS.heap.size = w.heap.size := (by have := hS.size; omega); obtain ⟨k0, k1, k2, k3⟩ := HCE.out _ hS; have HUS := Lib.hid huS; (first | (have hq9 := box_cells (HBX.out).1; obtain ⟨q0, q1, q2, q3, qf⟩ := hq9) | skip)))
    all_goals (go_wp2_with fail; go_meet; first | (with_reducible exact struct2_late HUS.out hS) | (with_reducible exact struct2_early HBX.out HBL.out HUS.out hS) | exact struct2_late HUS.out hS | exact struct2_early HBX.out HBL.out HUS.out hS)
  case rest =>
    obtain ⟨B3, ad103, cap103, rfl, rfl, hbx, hlo, hu, hb⟩ := hcut
    obtain ⟨w3, rfl⟩ : ∃ x : World, x = wc := ⟨_, rfl⟩
    replace HA0 := Lib.hid (HA0.out.read hb)
    replace HA1 := Lib.hid (HA1.out.read hb)
    replace HB3 := Lib.hid (HB3.out.read hb)
    replace HW := Lib.hid (belowOn HW.out (Nat.le_refl _) hb)
    have HS3 := Lib.hid (hb.size)
    have HB6 := Lib.hid (at_box_in hbx)
    have HV3 := Lib.hid (at_args hu)
    have HS4 := Lib.hid (And.intro hlo (at_box_in hbx).le)
    clear hb hbx hlo hu
    have HTO := Lib.hid (toBindingL_any l0 _ w3 HA0.out.listS hZl0)
    go_wp2_with fail
    refine HTO.out.mono ?_
    rintro e w4 ⟨u4, rfl, hn⟩
    have hb := hn.2
    replace HA0 := Lib.hid (HA0.out.read hb)
    replace HA1 := Lib.hid (HA1.out.read hb)
    replace HB3 := Lib.hid (HB3.out.read hb)
    replace HB6 := Lib.hid (HB6.out.read hb)
    replace HV3 := Lib.hid (HV3.out.read hb)
    replace HW := Lib.hid (belowOn HW.out (Nat.le_refl _) hb)
    have HS5 := Lib.hid (hb.size)
    have HU4 := Lib.hid hn.at
    obtain ⟨ad104, cap104, rfl⟩ := hn.1.slice
    clear HTO hn hb
    obtain ⟨c0a, c0b, c0c, c0d⟩ := HB3.out.cells
    have z0 := HB3.out.le
    have HTO := Lib.hid (toTerm_any t1 _ w4 HA1.out.argsAt hZt1)
    go_wp2_with fail
    refine HTO.out.mono ?_
    rintro e w5 ⟨u5, rfl, hn⟩
    clear c0a c0b c0c c0d z0
    have hb := hn.2
    replace HA0 := Lib.hid (HA0.out.read hb)
    replace HA1 := Lib.hid (HA1.out.read hb)
    replace HB3 := Lib.hid (HB3.out.read hb)
    replace HB6 := Lib.hid (HB6.out.read hb)
    replace HV3 := Lib.hid (HV3.out.read hb)
    replace HU4 := Lib.hid (HU4.out.read hb)
    replace HW := Lib.hid (belowOn HW.out (Nat.le_refl _) hb)
    have HS6 := Lib.hid (hb.size)
    have HU5 := Lib.hid hn.at
    obtain ⟨ad105, cap105, rfl⟩ := hn.1.argsAt.slice
    clear HTO hn hb
    have hal : Below w5.heap.size w5 (w5.alloc (.cells #[.int .i64 t1.kind, .int .i64 t1.num, .string t1.name, .slice ad105 t1.args.length cap105] 31)) := (Below.refl _ _).alloc (Nat.le_refl _) _
    replace HA0 := Lib.hid (HA0.out.read hal)
    replace HA1 := Lib.hid (HA1.out.read hal)
    replace HB3 := Lib.hid (HB3.out.read hal)
    replace HB6 := Lib.hid (HB6.out.read hal)
    replace HV3 := Lib.hid (HV3.out.read hal)
    replace HU4 := Lib.hid (HU4.out.read hal)
    replace HU5 := Lib.hid (HU5.out.read hal)
    replace HW := Lib.hid (belowOn HW.out (Nat.le_refl _) hal)
    have HB9 := Lib.hid (at_box_of w5 #[.int .i64 t1.kind, .int .i64 t1.num, .string t1.name, .slice ad105 t1.args.length cap105] 31 (w5.heap.size) (by simp))
    have HS7 := Lib.hid (show (w5.alloc (.cells #[.int .i64 t1.kind, .int .i64 t1.num, .string t1.name, .slice ad105 t1.args.length cap105] 31)).heap.size = w5.heap.size + 1 by simp)
    clear hal
    obtain ⟨c0a, c0b, c0c, c0d⟩ := HB9.out.cells
    have z0 := HB9.out.le
    have HF := Lib.hid (implApplySubst_any l0 _ t1 _ (w5.alloc (.cells #[.int .i64 t1.kind, .int .i64 t1.num, .string t1.name, .slice ad105 t1.args.length cap105] 31)) HU4.out.listS hZl0 f0 HU5.out.argsAt hZt1)
    go_wp2_with fail
    refine HF.out.mono ?_
    rintro e w6 ⟨u6, rfl, hn⟩
    clear c0a c0b c0c c0d z0
    have hb := hn.2
    have hv := hn.1
    replace HA0 := Lib.hid (HA0.out.read hb)
    replace HA1 := Lib.hid (HA1.out.read hb)
    replace HB3 := Lib.hid (HB3.out.read hb)
    replace HB6 := Lib.hid (HB6.out.read hb)
    replace HV3 := Lib.hid (HV3.out.read hb)
    replace HU4 := Lib.hid (HU4.out.read hb)
    replace HU5 := Lib.hid (HU5.out.read hb)
    replace HB9 := Lib.hid (HB9.out.read hb)
    replace HW := Lib.hid (belowOn HW.out (Nat.le_refl _) hb)
    have HS8 := Lib.hid (hb.size)
    have HU6 := Lib.hid (at_own hv (Nat.le_refl _))
    obtain ⟨ad106, cap106, rfl⟩ := hv.argsAt.slice
    clear HF hv hb hn
    have hal : Below w6.heap.size w6 (w6.alloc (.cells #[.int .i64 (apT l0 t1).kind, .int .i64 (apT l0 t1).num, .string (apT l0 t1).name, .slice ad106 (apT l0 t1).args.length cap106] 31)) := (Below.refl _ _).alloc (Nat.le_refl _) _
    replace HA0 := Lib.hid (HA0.out.read hal)
    replace HA1 := Lib.hid (HA1.out.read hal)
    replace HB3 := Lib.hid (HB3.out.read hal)
    replace HB6 := Lib.hid (HB6.out.read hal)
    replace HV3 := Lib.hid (HV3.out.read hal)
    replace HU4 := Lib.hid (HU4.out.read hal)
    replace HU5 := Lib.hid (HU5.out.read hal)
    replace HB9 := Lib.hid (HB9.out.read hal)
    replace HU6 := Lib.hid (HU6.out.read hal)
    replace HW := Lib.hid (belowOn HW.out (Nat.le_refl _) hal)
    have HB10 := Lib.hid (at_box_of w6 #[.int .i64 (apT l0 t1).kind, .int .i64 (apT l0 t1).num, .string (apT l0 t1).name, .slice ad106 (apT l0 t1).args.length cap106] 31 (w6.heap.size) (by simp))
    have HS9 := Lib.hid (show (w6.alloc (.cells #[.int .i64 (apT l0 t1).kind, .int .i64 (apT l0 t1).num, .string (apT l0 t1).name, .slice ad106 (apT l0 t1).args.length cap106] 31)).heap.size = w6.heap.size + 1 by simp)
    clear hal
    obtain ⟨c0a, c0b, c0c, c0d⟩ := HB10.out.cells
    have z0 := HB10.out.le
    obtain ⟨c1a, c1b, c1c, c1d⟩ := HB6.out.cells
    have z1 := HB6.out.le
    have HF := Lib.hid (eqTerm_any (apT l0 t1) _ _ (w6.alloc (.cells #[.int .i64 (apT l0 t1).kind, .int .i64 (apT l0 t1).num, .string (apT l0 t1).name, .slice ad106 (apT l0 t1).args.length cap106] 31)) HU6.out.argsAt HV3.out.argsAt (ap_sz l0 t1))
    go_wp2_with fail
    refine HF.out.mono ?_
    rintro e w7 ⟨rfl, hb⟩
    clear c0a c0b c0c c0d z0 c1a c1b c1c c1d z1
    replace HA0 := Lib.hid (HA0.out.read hb)
    replace HA1 := Lib.hid (HA1.out.read hb)
    replace HB3 := Lib.hid (HB3.out.read hb)
    replace HB6 := Lib.hid (HB6.out.read hb)
    replace HV3 := Lib.hid (HV3.out.read hb)
    replace HU4 := Lib.hid (HU4.out.read hb)
    replace HU5 := Lib.hid (HU5.out.read hb)
    replace HB9 := Lib.hid (HB9.out.read hb)
    replace HU6 := Lib.hid (HU6.out.read hb)
    replace HB10 := Lib.hid (HB10.out.read hb)
    replace HW := Lib.hid (belowOn HW.out (Nat.le_refl _) hb)
    have HS10 := Lib.hid (hb.size)
    clear HF hb
    have HTO := Lib.hid (toBindingL_any l0 _ w7 HA0.out.listS hZl0)
    go_wp2_with fail
    refine HTO.out.mono ?_
    rintro e w8 ⟨u8, rfl, hn⟩
    have hb := hn.2
    replace HA0 := Lib.hid (HA0.out.read hb)
    replace HA1 := Lib.hid (HA1.out.read hb)
    replace HB3 := Lib.hid (HB3.out.read hb)
    replace HB6 := Lib.hid (HB6.out.read hb)
    replace HV3 := Lib.hid (HV3.out.read hb)
    replace HU4 := Lib.hid (HU4.out.read hb)
    replace HU5 := Lib.hid (HU5.out.read hb)
    replace HB9 := Lib.hid (HB9.out.read hb)
    replace HU6 := Lib.hid (HU6.out.read hb)
    replace HB10 := Lib.hid (HB10.out.read hb)
    replace HW := Lib.hid (belowOn HW.out (Nat.le_refl _) hb)
    have HS11 := Lib.hid (hb.size)
    have HU8 := Lib.hid hn.at
    obtain ⟨ad108, cap108, rfl⟩ := hn.1.slice
    clear HTO hn hb
    have HF := Lib.hid (eqBindingL_any l0 _ _ w8 HU4.out.listS HU8.out.listS (eachB_of hZl0))
    go_wp2_with fail
    refine HF.out.mono ?_
    rintro e w9 ⟨rfl, hb⟩
    replace HA0 := Lib.hid (HA0.out.read hb)
    replace HA1 := Lib.hid (HA1.out.read hb)
    replace HB3 := Lib.hid (HB3.out.read hb)
    replace HB6 := Lib.hid (HB6.out.read hb)
    replace HV3 := Lib.hid (HV3.out.read hb)
    replace HU4 := Lib.hid (HU4.out.read hb)
    replace HU5 := Lib.hid (HU5.out.read hb)
    replace HB9 := Lib.hid (HB9.out.read hb)
    replace HU6 := Lib.hid (HU6.out.read hb)
    replace HB10 := Lib.hid (HB10.out.read hb)
    replace HU8 := Lib.hid (HU8.out.read hb)
    replace HW := Lib.hid (belowOn HW.out (Nat.le_refl _) hb)
    have HS12 := Lib.hid (hb.size)
    clear HF hb
    go_upto_region 16 with (fail)
    go_cut [63] from 59 (fun b wx => b = .bool false ∧ Below w9.heap.size w9 wx)
    case first =>
      obtain ⟨c0a, c0b, c0c, c0d⟩ := HB9.out.cells
      have z0 := HB9.out.le
      obtain ⟨c1a, c1b, c1c, c1d⟩ := HB3.out.cells
      have z1 := HB3.out.le
      have hself : Below w9.heap.size w9 w9 := Below.refl _ _
      have hdrew : Below w9.heap.size w9 w9.drew := hself.drew
      have HCE : Hid (∀ W, Below w9.heap.size w9 W → W.cell? ⟨w5.heap.size, 0, none⟩ = some (.int .i64 t1.kind) ∧ W.cell? ⟨w5.heap.size, 1, none⟩ = some (.int .i64 t1.num) ∧ W.cell? ⟨w5.heap.size, 2, none⟩ = some (.string t1.name) ∧ W.cell? ⟨w5.heap.size, 3, none⟩ = some (.slice ad105 t1.args.length cap105) ∧ W.cell? ⟨w.heap.size, 0, none⟩ = some (.int .i64 t1.kind) ∧ W.cell? ⟨w.heap.size, 1, none⟩ = some (.int .i64 t1.num) ∧ W.cell? ⟨w.heap.size, 2, none⟩ = some (.string t1.name) ∧ W.cell? ⟨w.heap.size, 3, none⟩ = some (.slice ad1 t1.args.length cap1)) := Lib.hid fun W hW => by
        obtain ⟨y0a, y0b, y0c, y0d⟩ := (HB9.out.read hW).cells
        obtain ⟨y1a, y1b, y1c, y1d⟩ := (HB3.out.read hW).cells
        exact ⟨y0a, y0b, y0c, y0d, y1a, y1b, y1c, y1d⟩
      have HTR : Hid (∀ a b, Below w9.heap.size w9 a → Below a.heap.size a b → Below w9.heap.size w9 b) := Lib.hid fun a b h1 h2 => belowOn h1 (Nat.le_refl _) h2
      have HTO0 : Hid (∀ W, Below w9.heap.size w9 W → Calls Try.prog 23 #[.agg #[.int .i64 t1.kind, .int .i64 t1.num, .string t1.name, .slice ad1 t1.args.length cap1]] W fun e w' => ∃ u, e = .returned (.agg #[.int .i64 t1.kind, .int .i64 t1.num, .string t1.name, u]) ∧ (∀ W2, Below w'.heap.size w' W2 → ArgsAt W2 u t1.args) ∧ Below W.heap.size W w') := Lib.hid fun W hW =>
        (toTerm_any t1 _ W (HA1.out.read hW).argsAt hZt1).mono fun e w' ⟨u, he, hn⟩ => ⟨u, he, fun W2 h2 => hn.1.argsAt.kept h2, hn.2⟩
      have HEQ : Hid (∀ W u, Below w9.heap.size w9 W → ArgsAt W u t1.args → Calls Try.prog 17 #[.agg #[.int .i64 t1.kind, .int .i64 t1.num, .string t1.name, .slice ad105 t1.args.length cap105], .agg #[.int .i64 t1.kind, .int .i64 t1.num, .string t1.name, u]] W (Yes W)) := Lib.hid fun W u hW hu => eqTerm_any t1 _ _ W (HU5.out.read hW).argsAt hu hZt1
      clear HW HA0 HA1 HB3 HB6 HV3 HU4 HU5 HB9 HU6 HB10 HU8
      go_region_held3 (fun w' => Below w9.heap.size w9 w' ∧ w'.cell? ⟨w5.heap.size, 0, none⟩ = some (.int .i64 t1.kind) ∧ w'.cell? ⟨w5.heap.size, 1, none⟩ = some (.int .i64 t1.num) ∧ w'.cell? ⟨w5.heap.size, 2, none⟩ = some (.string t1.name) ∧ w'.cell? ⟨w5.heap.size, 3, none⟩ = some (.slice ad105 t1.args.length cap105) ∧ w'.cell? ⟨w.heap.size, 0, none⟩ = some (.int .i64 t1.kind) ∧ w'.cell? ⟨w.heap.size, 1, none⟩ = some (.int .i64 t1.num) ∧ w'.cell? ⟨w.heap.size, 2, none⟩ = some (.string t1.name) ∧ w'.cell? ⟨w.heap.size, 3, none⟩ = some (.slice ad1 t1.args.length cap1)) (go_keep)
        (first
          | (go_at_call 23; (with_reducible refine Calls.mono (HTO0.out _ ?_) ?_); (first | assumption | exact belowAlloc (by assumption) _ | exact (belowAlloc (by assumption) _).drew); rintro e wA0 ⟨u0, rfl, hu0, hb0⟩; have HUU0 := Lib.hid hu0; clear hu0; have hB0 := HTR.out _ _ (by first | assumption | exact belowAlloc (by assumption) _ | exact (belowAlloc (by assumption) _).drew) hb0; obtain ⟨k0, k1, k2, k3, k4, k5, k6, k7⟩ := HCE.out _ hB0)
          | (go_at_call 17; (with_reducible refine Calls.mono (HEQ.out _ _ ?_ ?_) ?_); (assumption); (first | exact HUU0.out _ (Below.refl _ _) | exact HUU0.out _ (by assumption)); rintro e w' ⟨rfl, hbz⟩; have hB' := HTR.out _ _ (by assumption) hbz; obtain ⟨k0, k1, k2, k3, k4, k5, k6, k7⟩ := HCE.out _ hB'))
      all_goals (go_wp2_with fail; go_meet; exact ⟨rfl, by assumption⟩)
    case rest =>
      obtain ⟨rfl, hb⟩ := hcut
      obtain ⟨w10, rfl⟩ : ∃ x : World, x = wc := ⟨_, rfl⟩
      replace HA0 := Lib.hid (HA0.out.read hb)
      replace HA1 := Lib.hid (HA1.out.read hb)
      replace HB3 := Lib.hid (HB3.out.read hb)
      replace HB6 := Lib.hid (HB6.out.read hb)
      replace HV3 := Lib.hid (HV3.out.read hb)
      replace HU4 := Lib.hid (HU4.out.read hb)
      replace HU5 := Lib.hid (HU5.out.read hb)
      replace HB9 := Lib.hid (HB9.out.read hb)
      replace HU6 := Lib.hid (HU6.out.read hb)
      replace HB10 := Lib.hid (HB10.out.read hb)
      replace HU8 := Lib.hid (HU8.out.read hb)
      replace HW := Lib.hid (belowOn HW.out (Nat.le_refl _) hb)
      have HS13 := Lib.hid (hb.size)
      clear hb
      have hnl := (nk_bd hZl0)
      have HF := Lib.hid (markBindingL_any l0 _ (1) _ _ w10 HU4.out (by omega) (by omega))
      go_wp2_with fail
      refine HF.out.mono ?_
      rintro e w11 ⟨rfl, hat, ho⟩
      have s0 := HS0.out
      have s1 := HS1.out
      have s2 := HS2.out
      have s3 := HS3.out
      have s4 := HS4.out
      have s5 := HS5.out
      have s6 := HS6.out
      have s7 := HS7.out
      have s8 := HS8.out
      have s9 := HS9.out
      have s10 := HS10.out
      have s11 := HS11.out
      have s12 := HS12.out
      have s13 := HS13.out
      replace HA0 := Lib.hid (HA0.out.only ho (by omega))
      replace HA1 := Lib.hid (HA1.out.only ho (by omega))
      replace HB3 := Lib.hid (HB3.out.only ho (by omega))
      replace HB6 := Lib.hid (HB6.out.only ho (by omega))
      replace HV3 := Lib.hid (HV3.out.only ho (by omega))
      replace HU5 := Lib.hid (HU5.out.only ho (by omega))
      replace HB9 := Lib.hid (HB9.out.only ho (by omega))
      replace HU6 := Lib.hid (HU6.out.only ho (by omega))
      replace HB10 := Lib.hid (HB10.out.only ho (by omega))
      replace HU8 := Lib.hid (HU8.out.only ho (by omega))
      replace HW := Lib.hid (HW.out.trans (ho.below (fun k hk => by have := hk.1; omega) (by omega)))
      clear s0 s1 s2 s3 s4 s5 s6 s7 s8 s9 s10 s11 s12 s13
      replace HU4 := Lib.hid hat
      have HS14 := Lib.hid (ho.size)
      clear HF hat ho
      obtain ⟨c0a, c0b, c0c, c0d⟩ := HB9.out.cells
      have z0 := HB9.out.le
      have hnl := nl_bd hZt1
      have HF := Lib.hid (markTerm_any t1.kind t1.num t1.name t1.args _ (1 + (nkB l0 : Int)) _ _ w11 HU5.out (by omega) (by omega))
      go_wp2_with fail
      refine HF.out.mono ?_
      rintro e w12 ⟨rfl, hat, ho⟩
      clear c0a c0b c0c c0d z0
      have s0 := HS0.out
      have s1 := HS1.out
      have s2 := HS2.out
      have s3 := HS3.out
      have s4 := HS4.out
      have s5 := HS5.out
      have s6 := HS6.out
      have s7 := HS7.out
      have s8 := HS8.out
      have s9 := HS9.out
      have s10 := HS10.out
      have s11 := HS11.out
      have s12 := HS12.out
      have s13 := HS13.out
      have s14 := HS14.out
      replace HA0 := Lib.hid (HA0.out.only ho (by omega))
      replace HA1 := Lib.hid (HA1.out.only ho (by omega))
      replace HB3 := Lib.hid (HB3.out.only ho (by omega))
      replace HB6 := Lib.hid (HB6.out.only ho (by omega))
      replace HV3 := Lib.hid (HV3.out.only ho (by omega))
      replace HU4 := Lib.hid (HU4.out.only ho (by omega))
      replace HB9 := Lib.hid (HB9.out.only ho (by omega))
      replace HU6 := Lib.hid (HU6.out.only ho (by omega))
      replace HB10 := Lib.hid (HB10.out.only ho (by omega))
      replace HU8 := Lib.hid (HU8.out.only ho (by omega))
      replace HW := Lib.hid (HW.out.trans (ho.below (fun k hk => by have := hk.1; omega) (by omega)))
      clear s0 s1 s2 s3 s4 s5 s6 s7 s8 s9 s10 s11 s12 s13 s14
      replace HU5 := Lib.hid hat
      have HS15 := Lib.hid (ho.size)
      clear HF hat ho
      obtain ⟨c0a, c0b, c0c, c0d⟩ := HB10.out.cells
      have z0 := HB10.out.le
      obtain ⟨c1a, c1b, c1c, c1d⟩ := HB6.out.cells
      have z1 := HB6.out.le
      have HF := Lib.hid (eqTerm_any (apT l0 t1) _ _ w12 HU6.out.argsAt HV3.out.argsAt (ap_sz l0 t1))
      go_wp2_with fail
      refine HF.out.mono ?_
      rintro e w13 ⟨rfl, hb⟩
      clear c0a c0b c0c c0d z0 c1a c1b c1c c1d z1
      replace HA0 := Lib.hid (HA0.out.read hb)
      replace HA1 := Lib.hid (HA1.out.read hb)
      replace HB3 := Lib.hid (HB3.out.read hb)
      replace HB6 := Lib.hid (HB6.out.read hb)
      replace HV3 := Lib.hid (HV3.out.read hb)
      replace HU4 := Lib.hid (HU4.out.read hb)
      replace HU5 := Lib.hid (HU5.out.read hb)
      replace HB9 := Lib.hid (HB9.out.read hb)
      replace HU6 := Lib.hid (HU6.out.read hb)
      replace HB10 := Lib.hid (HB10.out.read hb)
      replace HU8 := Lib.hid (HU8.out.read hb)
      replace HW := Lib.hid (belowOn HW.out (Nat.le_refl _) hb)
      have HS16 := Lib.hid (hb.size)
      clear HF hb
      obtain ⟨c0a, c0b, c0c, c0d⟩ := HB10.out.cells
      have z0 := HB10.out.le
      have hnl := nl_bd (ap_sz l0 t1)
      have HF := Lib.hid (markTerm_any (apT l0 t1).kind (apT l0 t1).num (apT l0 t1).name (apT l0 t1).args _ (1) _ _ w13 HU6.out (by omega) (by omega))
      go_wp2_with fail
      refine HF.out.mono ?_
      rintro e w14 ⟨rfl, hat, ho⟩
      clear c0a c0b c0c c0d z0
      have s0 := HS0.out
      have s1 := HS1.out
      have s2 := HS2.out
      have s3 := HS3.out
      have s4 := HS4.out
      have s5 := HS5.out
      have s6 := HS6.out
      have s7 := HS7.out
      have s8 := HS8.out
      have s9 := HS9.out
      have s10 := HS10.out
      have s11 := HS11.out
      have s12 := HS12.out
      have s13 := HS13.out
      have s14 := HS14.out
      have s15 := HS15.out
      have s16 := HS16.out
      replace HA0 := Lib.hid (HA0.out.only ho (by omega))
      replace HA1 := Lib.hid (HA1.out.only ho (by omega))
      replace HB3 := Lib.hid (HB3.out.only ho (by omega))
      replace HB6 := Lib.hid (HB6.out.only ho (by omega))
      replace HV3 := Lib.hid (HV3.out.only ho (by omega))
      replace HU4 := Lib.hid (HU4.out.only ho (by omega))
      replace HU5 := Lib.hid (HU5.out.only ho (by omega))
      replace HB9 := Lib.hid (HB9.out.only ho (by omega))
      replace HB10 := Lib.hid (HB10.out.only ho (by omega))
      replace HU8 := Lib.hid (HU8.out.only ho (by omega))
      replace HW := Lib.hid (HW.out.trans (ho.below (fun k hk => by have := hk.1; omega) (by omega)))
      clear s0 s1 s2 s3 s4 s5 s6 s7 s8 s9 s10 s11 s12 s13 s14 s15 s16
      replace HU6 := Lib.hid hat
      have HS17 := Lib.hid (ho.size)
      clear HF hat ho
      obtain ⟨c0a, c0b, c0c, c0d⟩ := HB10.out.cells
      have z0 := HB10.out.le
      have hnl := nl_bd (ap_sz l0 t1)
      have HF := Lib.hid (heldTerm_any (apT l0 t1).kind (apT l0 t1).num (apT l0 t1).name (apT l0 t1).args _ (1) w14 HU6.out.argsAt (by omega) (by omega))
      go_wp2_with fail
      refine HF.out.mono ?_
      rintro e w15 ⟨rfl, hb⟩
      clear c0a c0b c0c c0d z0
      replace HA0 := Lib.hid (HA0.out.read hb)
      replace HA1 := Lib.hid (HA1.out.read hb)
      replace HB3 := Lib.hid (HB3.out.read hb)
      replace HB6 := Lib.hid (HB6.out.read hb)
      replace HV3 := Lib.hid (HV3.out.read hb)
      replace HU4 := Lib.hid (HU4.out.read hb)
      replace HU5 := Lib.hid (HU5.out.read hb)
      replace HB9 := Lib.hid (HB9.out.read hb)
      replace HU6 := Lib.hid (HU6.out.read hb)
      replace HB10 := Lib.hid (HB10.out.read hb)
      replace HU8 := Lib.hid (HU8.out.read hb)
      replace HW := Lib.hid (belowOn HW.out (Nat.le_refl _) hb)
      have HS18 := Lib.hid (hb.size)
      clear HF hb
      go_upto_region 31 with (fail)
      go_cut [15, 16] from 94 (fun p b wx => Struct2 w15 (apT l0 t1) (apB l0 t1) p b wx)
      case first =>
        obtain ⟨c0a, c0b, c0c, c0d⟩ := HB3.out.cells
        have z0 := HB3.out.le
        have hself : Below w15.heap.size w15 w15 := Below.refl _ _
        have hdrew : Below w15.heap.size w15 w15.drew := hself.drew
        have HCE : Hid (∀ W, Below w15.heap.size w15 W → W.cell? ⟨w.heap.size, 0, none⟩ = some (.int .i64 t1.kind) ∧ W.cell? ⟨w.heap.size, 1, none⟩ = some (.int .i64 t1.num) ∧ W.cell? ⟨w.heap.size, 2, none⟩ = some (.string t1.name) ∧ W.cell? ⟨w.heap.size, 3, none⟩ = some (.slice ad1 t1.args.length cap1)) := Lib.hid fun W hW => by
          obtain ⟨y0a, y0b, y0c, y0d⟩ := (HB3.out.read hW).cells
          exact ⟨y0a, y0b, y0c, y0d⟩
        have HTR : Hid (∀ a b, Below w15.heap.size w15 a → Below a.heap.size a b → Below w15.heap.size w15 b) := Lib.hid fun a b h1 h2 => belowOn h1 (Nat.le_refl _) h2
        have HTO0 : Hid (∀ W, Below w15.heap.size w15 W → Calls Try.prog 12 #[(.slice ad0 l0.length cap0)] W fun e w' => ∃ u, e = .returned (u) ∧ (∀ W2, Below w'.heap.size w' W2 → ListS bdE W2 Any u l0) ∧ Below W.heap.size W w') := Lib.hid fun W hW =>
          (toBindingL_any l0 _ W (HA0.out.read hW).listS hZl0).mono fun e w' ⟨u, he, hn⟩ => ⟨u, he, fun W2 h2 => hn.1.inS.any.kept h2, hn.2⟩
        have HTO1 : Hid (∀ W, Below w15.heap.size w15 W → Calls Try.prog 23 #[.agg #[.int .i64 t1.kind, .int .i64 t1.num, .string t1.name, .slice ad1 t1.args.length cap1]] W fun e w' => ∃ u, e = .returned (.agg #[.int .i64 t1.kind, .int .i64 t1.num, .string t1.name, u]) ∧ (∀ W2, Below w'.heap.size w' W2 → ArgsAt W2 u t1.args) ∧ Below W.heap.size W w') := Lib.hid fun W hW =>
          (toTerm_any t1 _ W (HA1.out.read hW).argsAt hZt1).mono fun e w' ⟨u, he, hn⟩ => ⟨u, he, fun W2 h2 => hn.1.argsAt.kept h2, hn.2⟩
        have HF : Hid (∀ W u0 u1, Below w15.heap.size w15 W → ListS bdE W Any u0 l0 → ArgsAt W u1 t1.args → Calls Try.prog 24 #[u0, .agg #[.int .i64 t1.kind, .int .i64 t1.num, .string t1.name, u1]] W (OldTm2 (apT l0 t1) (apB l0 t1) W)) := Lib.hid fun W u0 u1 hW hu0 hu1 => (implApplySubst_any l0 u0 t1 u1 W hu0 hZl0 f0 hu1 hZt1).mono fun e w' h => h.old
        clear HW HA0 HA1 HB3 HB6 HV3 HU4 HU5 HB9 HU6 HB10 HU8
        have n0a : ¬ w.heap.size = w15.heap.size := by omega
        have n0b : ¬ w15.heap.size = w.heap.size := by omega
        go_region_held3 (fun w' => w'.cell? ⟨w.heap.size, 0, none⟩ = some (.int .i64 t1.kind) ∧ w'.cell? ⟨w.heap.size, 1, none⟩ = some (.int .i64 t1.num) ∧ w'.cell? ⟨w.heap.size, 2, none⟩ = some (.string t1.name) ∧ w'.cell? ⟨w.heap.size, 3, none⟩ = some (.slice ad1 t1.args.length cap1)) (go_keep)
          (first
            | (go_at_call 12; (with_reducible refine Calls.mono (HTO0.out _ ?_) ?_); (first | assumption | exact belowAlloc (by assumption) _ | exact (belowAlloc (by assumption) _).drew); rintro e wA0 ⟨u0, rfl, hu0, hb0⟩; (first | (with_reducible have HBX := Lib.hid (box_after (W0 := w15) (by assumption) hb0)) | (with_reducible have HBX := Lib.hid (box_after_drew (W0 := w15) (by assumption) hb0)) | (replace HBX := Lib.hid (box_keep HBX.out hb0)) | skip); have HUU0 := Lib.hid hu0; clear hu0; have hB0 := HTR.out _ _ (by first | assumption | exact belowAlloc (by assumption) _ | exact (belowAlloc (by assumption) _).drew) hb0; have n0awA0 : ¬ w.heap.size = wA0.heap.size := (by have := hB0.size; omega); have n0bwA0 : ¬ wA0.heap.size = w.heap.size := (by have := hB0.size; omega); obtain ⟨k0, k1, k2, k3⟩ := HCE.out _ hB0)
            | (go_at_call 23; (with_reducible refine Calls.mono (HTO1.out _ ?_) ?_); (first | assumption | exact belowAlloc (by assumption) _ | exact (belowAlloc (by assumption) _).drew); rintro e wA1 ⟨u1, rfl, hu1, hb1⟩; (first | (with_reducible have HBX := Lib.hid (box_after (W0 := w15) (by assumption) hb1)) | (with_reducible have HBX := Lib.hid (box_after_drew (W0 := w15) (by assumption) hb1)) | (replace HBX := Lib.hid (box_keep HBX.out hb1)) | skip); have HUU1 := Lib.hid hu1; clear hu1; have hB1 := HTR.out _ _ (by first | assumption | exact belowAlloc (by assumption) _ | exact (belowAlloc (by assumption) _).drew) hb1; have n0awA1 : ¬ w.heap.size = wA1.heap.size := (by have := hB1.size; omega); have n0bwA1 : ¬ wA1.heap.size = w.heap.size := (by have := hB1.size; omega); obtain ⟨k0, k1, k2, k3⟩ := HCE.out _ hB1)
            | (go_at_call 24; (with_reducible refine Calls.mono (HF.out _ _ _ ?_ ?_ ?_) ?_); (first | assumption | exact belowAlloc (by assumption) _ | exact (belowAlloc (by assumption) _).drew); (first | exact HUU0.out _ (Below.refl _ _) | exact HUU0.out _ (by assumption) | exact HUU0.out _ (belowAlloc (Below.refl _ _) _) | exact HUU0.out _ (belowAlloc (by assumption) _) | exact HUU0.out _ (belowOn (belowAlloc (Below.refl _ _) _) (Nat.le_refl _) (by assumption))); (first | exact HUU1.out _ (Below.refl _ _) | exact HUU1.out _ (by assumption) | exact HUU1.out _ (belowAlloc (Below.refl _ _) _) | exact HUU1.out _ (belowAlloc (by assumption) _) | exact HUU1.out _ (belowOn (belowAlloc (Below.refl _ _) _) (Nat.le_refl _) (by assumption))); rintro e wS ⟨uS, rfl, huS, hbS⟩; obtain ⟨aS, kS, rfl⟩ := huS.at.slice; (first | (with_reducible have HBL := Lib.hid (alloc_lt hbS)) | (have HBL := Lib.hid (block_lt HBX.out hbS)) | skip); (first | (with_reducible have HBX := Lib.hid (box_after (W0 := w15) (by assumption) hbS)) | (with_reducible have HBX := Lib.hid (box_after_drew (W0 := w15) (by assumption) hbS)) | (replace HBX := Lib.hid (box_keep HBX.out hbS)) | skip); have hS := HTR.out _ _ (by first | assumption | exact belowAlloc (by assumption) _ | exact (belowAlloc (by assumption) _).drew) hbS; have n0awS : ¬ w.heap.size = wS.heap.size := (by have := hS.size; omega); have n0bwS : ¬ wS.heap.size = w.heap.size := (by have := hS.size; omega); obtain ⟨k0, k1, k2, k3⟩ := HCE.out _ hS; have HUS := Lib.hid huS; (first | (have hq9 := box_cells (HBX.out).1; obtain ⟨q0, q1, q2, q3, qf⟩ := hq9) | skip)))
        all_goals (go_wp2_with fail; go_meet; first | (with_reducible exact struct2_late HUS.out hS) | (with_reducible exact struct2_early HBX.out HBL.out HUS.out hS) | exact struct2_late HUS.out hS | exact struct2_early HBX.out HBL.out HUS.out hS)
      case rest =>
        obtain ⟨B16, ad116, cap116, rfl, rfl, hbx, hlo, hu, hb⟩ := hcut
        obtain ⟨w16, rfl⟩ : ∃ x : World, x = wc := ⟨_, rfl⟩
        replace HA0 := Lib.hid (HA0.out.read hb)
        replace HA1 := Lib.hid (HA1.out.read hb)
        replace HB3 := Lib.hid (HB3.out.read hb)
        replace HB6 := Lib.hid (HB6.out.read hb)
        replace HV3 := Lib.hid (HV3.out.read hb)
        replace HU4 := Lib.hid (HU4.out.read hb)
        replace HU5 := Lib.hid (HU5.out.read hb)
        replace HB9 := Lib.hid (HB9.out.read hb)
        replace HU6 := Lib.hid (HU6.out.read hb)
        replace HB10 := Lib.hid (HB10.out.read hb)
        replace HU8 := Lib.hid (HU8.out.read hb)
        replace HW := Lib.hid (belowOn HW.out (Nat.le_refl _) hb)
        have HS19 := Lib.hid (hb.size)
        have HB15 := Lib.hid (at_box_in hbx)
        have HV16 := Lib.hid (at_args hu)
        have HS20 := Lib.hid (And.intro hlo (at_box_in hbx).le)
        clear hb hbx hlo hu
        obtain ⟨c0a, c0b, c0c, c0d⟩ := HB15.out.cells
        have z0 := HB15.out.le
        obtain ⟨c1a, c1b, c1c, c1d⟩ := HB6.out.cells
        have z1 := HB6.out.le
        have HF := Lib.hid (eqTerm_any (apT l0 t1) _ _ w16 HV16.out.argsAt HV3.out.argsAt (ap_sz l0 t1))
        go_wp2_with fail
        refine HF.out.mono ?_
        rintro e w17 ⟨rfl, hb⟩
        clear c0a c0b c0c c0d z0 c1a c1b c1c c1d z1
        replace HA0 := Lib.hid (HA0.out.read hb)
        replace HA1 := Lib.hid (HA1.out.read hb)
        replace HB3 := Lib.hid (HB3.out.read hb)
        replace HB6 := Lib.hid (HB6.out.read hb)
        replace HV3 := Lib.hid (HV3.out.read hb)
        replace HU4 := Lib.hid (HU4.out.read hb)
        replace HU5 := Lib.hid (HU5.out.read hb)
        replace HB9 := Lib.hid (HB9.out.read hb)
        replace HU6 := Lib.hid (HU6.out.read hb)
        replace HB10 := Lib.hid (HB10.out.read hb)
        replace HU8 := Lib.hid (HU8.out.read hb)
        replace HB15 := Lib.hid (HB15.out.read hb)
        replace HV16 := Lib.hid (HV16.out.read hb)
        replace HW := Lib.hid (belowOn HW.out (Nat.le_refl _) hb)
        have HS21 := Lib.hid (hb.size)
        clear HF hb
        obtain ⟨c0a, c0b, c0c, c0d⟩ := HB10.out.cells
        have z0 := HB10.out.le
        have hnl := nl_bd (ap_sz l0 t1)
        have HF := Lib.hid (heldTerm_any (apT l0 t1).kind (apT l0 t1).num (apT l0 t1).name (apT l0 t1).args _ (1) w17 HU6.out.argsAt (by omega) (by omega))
        go_wp2_with fail
        refine HF.out.mono ?_
        rintro e w18 ⟨rfl, hb⟩
        clear c0a c0b c0c c0d z0
        replace HA0 := Lib.hid (HA0.out.read hb)
        replace HA1 := Lib.hid (HA1.out.read hb)
        replace HB3 := Lib.hid (HB3.out.read hb)
        replace HB6 := Lib.hid (HB6.out.read hb)
        replace HV3 := Lib.hid (HV3.out.read hb)
        replace HU4 := Lib.hid (HU4.out.read hb)
        replace HU5 := Lib.hid (HU5.out.read hb)
        replace HB9 := Lib.hid (HB9.out.read hb)
        replace HU6 := Lib.hid (HU6.out.read hb)
        replace HB10 := Lib.hid (HB10.out.read hb)
        replace HU8 := Lib.hid (HU8.out.read hb)
        replace HB15 := Lib.hid (HB15.out.read hb)
        replace HV16 := Lib.hid (HV16.out.read hb)
        replace HW := Lib.hid (belowOn HW.out (Nat.le_refl _) hb)
        have HS22 := Lib.hid (hb.size)
        clear HF hb
        go_wp2
        go_ret
        exact ⟨rfl, HW.out⟩
end Go.Proofs.Ytnbnepeikdieaaa

