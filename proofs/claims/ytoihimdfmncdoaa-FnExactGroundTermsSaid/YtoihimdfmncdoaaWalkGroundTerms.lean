/-
  The law of GroundTerms, walked: it returns true, and nothing that was there is changed. (Written by wip/tools/mkexact.py over the law's operations.)
-/
import Derived.Test.YtoihimdfmncdoaaGroundX
import Derived.Test.YtoihimdfmncdoaaLaws
namespace Go.Proofs.Ytoihimdfmncdoaa
open Go.RowKit
set_option linter.unusedVariables false
set_option linter.unusedSimpArgs false

set_option maxRecDepth 100000 in
set_option maxHeartbeats 16000000 in
theorem walkGroundTerms (w : World) (V0 : Value) (l0 : List Tm) (A0 : ArgsAt w V0 l0) (f0 : fineL l0) (n0 : l0.length ≤ maxLen) (a1 : Int) (wa1 : (Lit.int .i64 a1).wf = true) :
    Calls Try.prog 8 #[V0, .int .i64 a1] w fun e w' => e = .returned (.bool true) ∧ Below w.heap.size w w' := by
  obtain ⟨ad0, cap0, rfl⟩ := A0.slice
  have HA0 := Lib.hid (at_args A0)
  clear A0
  have HW : Hid (Below w.heap.size w w) := Lib.hid (Below.refl _ _)
  go_enter Try.func8, Try.ntmps8
  have HSZ := Lib.hid (szTermL_any l0 _ 1048576 w HA0.out.argsAt f0 n0 (by omega) (by omega))
  go_wp2_with fail
  refine HSZ.out.mono ?_
  rintro e w1 ⟨r0, rfl, hr1, hr2, hr, hb⟩
  clear HSZ
  replace HA0 := Lib.hid (HA0.out.read hb)
  replace HW := Lib.hid (belowOn HW.out (Nat.le_refl _) hb)
  have HS0 := Lib.hid (hb.size)
  clear hb
  by_cases hneg : r0 < 0
  · clear hr
    go_wp2
    go_ret
    exact ⟨rfl, HW.out⟩
  have hZl0 : szL l0 ≤ 1048576 := by have := hr (by omega); omega
  replace hr1 : 0 ≤ r0 := by omega
  replace hr2 : r0 ≤ 1048576 := by omega
  clear hr hneg
  have h0r0 := hr1
  have h1r0 := hr2
  clear hr1 hr2
  have HTO := Lib.hid (toTermL_any l0 _ w1 HA0.out.argsAt hZl0)
  go_wp2_with fail
  refine HTO.out.mono ?_
  rintro e w2 ⟨u2, rfl, hn⟩
  have hb := hn.2
  replace HA0 := Lib.hid (HA0.out.read hb)
  replace HW := Lib.hid (belowOn HW.out (Nat.le_refl _) hb)
  have HS1 := Lib.hid (hb.size)
  have HU2 := Lib.hid hn.at
  obtain ⟨ad102, cap102, rfl⟩ := hn.1.argsAt.slice
  clear HTO hn hb
  have HF := Lib.hid (specGroundTerms_any l0 _ a1 w2 HU2.out.argsAt hZl0)
  go_wp2_with fail
  refine HF.out.mono ?_
  rintro e w3 ⟨u3, rfl, hv, hb⟩
  replace HA0 := Lib.hid (HA0.out.read hb)
  replace HU2 := Lib.hid (HU2.out.read hb)
  replace HW := Lib.hid (belowOn HW.out (Nat.le_refl _) hb)
  have HS2 := Lib.hid (hb.size)
  have HU3 := Lib.hid (at_args hv)
  obtain ⟨ad103, cap103, rfl⟩ := hv.slice
  clear HF hv hb
  have HTO := Lib.hid (toTermL_any l0 _ w3 HA0.out.argsAt hZl0)
  go_wp2_with fail
  refine HTO.out.mono ?_
  rintro e w4 ⟨u4, rfl, hn⟩
  have hb := hn.2
  replace HA0 := Lib.hid (HA0.out.read hb)
  replace HU2 := Lib.hid (HU2.out.read hb)
  replace HU3 := Lib.hid (HU3.out.read hb)
  replace HW := Lib.hid (belowOn HW.out (Nat.le_refl _) hb)
  have HS3 := Lib.hid (hb.size)
  have HU4 := Lib.hid hn.at
  obtain ⟨ad104, cap104, rfl⟩ := hn.1.argsAt.slice
  clear HTO hn hb
  have HF := Lib.hid (implGroundTerms_any l0 _ a1 w4 HU4.out.argsAt hZl0)
  go_wp2_with fail
  refine HF.out.mono ?_
  rintro e w5 ⟨u5, rfl, hv, hb⟩
  replace HA0 := Lib.hid (HA0.out.read hb)
  replace HU2 := Lib.hid (HU2.out.read hb)
  replace HU3 := Lib.hid (HU3.out.read hb)
  replace HU4 := Lib.hid (HU4.out.read hb)
  replace HW := Lib.hid (belowOn HW.out (Nat.le_refl _) hb)
  have HS4 := Lib.hid (hb.size)
  have HU5 := Lib.hid (at_own hv (Nat.le_refl _))
  obtain ⟨ad105, cap105, rfl⟩ := hv.argsAt.slice
  clear HF hv hb
  have HF := Lib.hid (eqTermE_any (gtL l0 a1) _ _ w5 HU5.out.argsAt HU3.out.argsAt (gt_each l0 a1))
  go_wp2_with fail
  refine HF.out.mono ?_
  rintro e w6 ⟨rfl, hb⟩
  replace HA0 := Lib.hid (HA0.out.read hb)
  replace HU2 := Lib.hid (HU2.out.read hb)
  replace HU3 := Lib.hid (HU3.out.read hb)
  replace HU4 := Lib.hid (HU4.out.read hb)
  replace HU5 := Lib.hid (HU5.out.read hb)
  replace HW := Lib.hid (belowOn HW.out (Nat.le_refl _) hb)
  have HS5 := Lib.hid (hb.size)
  clear HF hb
  have HTO := Lib.hid (toTermL_any l0 _ w6 HA0.out.argsAt hZl0)
  go_wp2_with fail
  refine HTO.out.mono ?_
  rintro e w7 ⟨u7, rfl, hn⟩
  have hb := hn.2
  replace HA0 := Lib.hid (HA0.out.read hb)
  replace HU2 := Lib.hid (HU2.out.read hb)
  replace HU3 := Lib.hid (HU3.out.read hb)
  replace HU4 := Lib.hid (HU4.out.read hb)
  replace HU5 := Lib.hid (HU5.out.read hb)
  replace HW := Lib.hid (belowOn HW.out (Nat.le_refl _) hb)
  have HS6 := Lib.hid (hb.size)
  have HU7 := Lib.hid hn.at
  obtain ⟨ad107, cap107, rfl⟩ := hn.1.argsAt.slice
  clear HTO hn hb
  have HF := Lib.hid (eqTermL_any l0 _ _ w7 HU4.out.argsAt HU7.out.argsAt hZl0)
  go_wp2_with fail
  refine HF.out.mono ?_
  rintro e w8 ⟨rfl, hb⟩
  replace HA0 := Lib.hid (HA0.out.read hb)
  replace HU2 := Lib.hid (HU2.out.read hb)
  replace HU3 := Lib.hid (HU3.out.read hb)
  replace HU4 := Lib.hid (HU4.out.read hb)
  replace HU5 := Lib.hid (HU5.out.read hb)
  replace HU7 := Lib.hid (HU7.out.read hb)
  replace HW := Lib.hid (belowOn HW.out (Nat.le_refl _) hb)
  have HS7 := Lib.hid (hb.size)
  clear HF hb
  have hnl := nlL_bd hZl0
  have HF := Lib.hid (markTermL_any l0 _ (1) _ _ w8 HU4.out (by omega) (by omega))
  go_wp2_with fail
  refine HF.out.mono ?_
  rintro e w9 ⟨rfl, hat, ho⟩
  have s0 := HS0.out
  have s1 := HS1.out
  have s2 := HS2.out
  have s3 := HS3.out
  have s4 := HS4.out
  have s5 := HS5.out
  have s6 := HS6.out
  have s7 := HS7.out
  replace HA0 := Lib.hid (HA0.out.only ho (by omega))
  replace HU2 := Lib.hid (HU2.out.only ho (by omega))
  replace HU3 := Lib.hid (HU3.out.only ho (by omega))
  replace HU5 := Lib.hid (HU5.out.only ho (by omega))
  replace HU7 := Lib.hid (HU7.out.only ho (by omega))
  replace HW := Lib.hid (HW.out.trans (ho.below (fun k hk => by have := hk.1; omega) (by omega)))
  clear s0 s1 s2 s3 s4 s5 s6 s7
  replace HU4 := Lib.hid hat
  have HS8 := Lib.hid (ho.size)
  clear HF hat ho
  have HF := Lib.hid (eqTermE_any (gtL l0 a1) _ _ w9 HU5.out.argsAt HU3.out.argsAt (gt_each l0 a1))
  go_wp2_with fail
  refine HF.out.mono ?_
  rintro e w10 ⟨rfl, hb⟩
  replace HA0 := Lib.hid (HA0.out.read hb)
  replace HU2 := Lib.hid (HU2.out.read hb)
  replace HU3 := Lib.hid (HU3.out.read hb)
  replace HU4 := Lib.hid (HU4.out.read hb)
  replace HU5 := Lib.hid (HU5.out.read hb)
  replace HU7 := Lib.hid (HU7.out.read hb)
  replace HW := Lib.hid (belowOn HW.out (Nat.le_refl _) hb)
  have HS9 := Lib.hid (hb.size)
  clear HF hb
  have hnl := (gt_nodes l0 a1)
  have HF := Lib.hid (markTermL_any (gtL l0 a1) _ (1) _ _ w10 HU5.out (by omega) (by omega))
  go_wp2_with fail
  refine HF.out.mono ?_
  rintro e w11 ⟨rfl, hat, ho⟩
  have s0 := HS0.out
  have s1 := HS1.out
  have s2 := HS2.out
  have s3 := HS3.out
  have s4 := HS4.out
  have s5 := HS5.out
  have s6 := HS6.out
  have s7 := HS7.out
  have s8 := HS8.out
  have s9 := HS9.out
  replace HA0 := Lib.hid (HA0.out.only ho (by omega))
  replace HU2 := Lib.hid (HU2.out.only ho (by omega))
  replace HU3 := Lib.hid (HU3.out.only ho (by omega))
  replace HU4 := Lib.hid (HU4.out.only ho (by omega))
  replace HU7 := Lib.hid (HU7.out.only ho (by omega))
  replace HW := Lib.hid (HW.out.trans (ho.below (fun k hk => by have := hk.1; omega) (by omega)))
  clear s0 s1 s2 s3 s4 s5 s6 s7 s8 s9
  replace HU5 := Lib.hid hat
  have HS10 := Lib.hid (ho.size)
  clear HF hat ho
  have hnl := (gt_nodes l0 a1)
  have HF := Lib.hid (heldTermL_any (gtL l0 a1) _ (1) w11 HU5.out.argsAt (by omega) (by omega))
  go_wp2_with fail
  refine HF.out.mono ?_
  rintro e w12 ⟨rfl, hb⟩
  replace HA0 := Lib.hid (HA0.out.read hb)
  replace HU2 := Lib.hid (HU2.out.read hb)
  replace HU3 := Lib.hid (HU3.out.read hb)
  replace HU4 := Lib.hid (HU4.out.read hb)
  replace HU5 := Lib.hid (HU5.out.read hb)
  replace HU7 := Lib.hid (HU7.out.read hb)
  replace HW := Lib.hid (belowOn HW.out (Nat.le_refl _) hb)
  have HS11 := Lib.hid (hb.size)
  clear HF hb
  have HTO := Lib.hid (toTermL_any l0 _ w12 HA0.out.argsAt hZl0)
  go_wp2_with fail
  refine HTO.out.mono ?_
  rintro e w13 ⟨u13, rfl, hn⟩
  have hb := hn.2
  replace HA0 := Lib.hid (HA0.out.read hb)
  replace HU2 := Lib.hid (HU2.out.read hb)
  replace HU3 := Lib.hid (HU3.out.read hb)
  replace HU4 := Lib.hid (HU4.out.read hb)
  replace HU5 := Lib.hid (HU5.out.read hb)
  replace HU7 := Lib.hid (HU7.out.read hb)
  replace HW := Lib.hid (belowOn HW.out (Nat.le_refl _) hb)
  have HS12 := Lib.hid (hb.size)
  have HU13 := Lib.hid hn.at
  obtain ⟨ad113, cap113, rfl⟩ := hn.1.argsAt.slice
  clear HTO hn hb
  have HF := Lib.hid (implGroundTerms_any l0 _ a1 w13 HU13.out.argsAt hZl0)
  go_wp2_with fail
  refine HF.out.mono ?_
  rintro e w14 ⟨u14, rfl, hv, hb⟩
  replace HA0 := Lib.hid (HA0.out.read hb)
  replace HU2 := Lib.hid (HU2.out.read hb)
  replace HU3 := Lib.hid (HU3.out.read hb)
  replace HU4 := Lib.hid (HU4.out.read hb)
  replace HU5 := Lib.hid (HU5.out.read hb)
  replace HU7 := Lib.hid (HU7.out.read hb)
  replace HU13 := Lib.hid (HU13.out.read hb)
  replace HW := Lib.hid (belowOn HW.out (Nat.le_refl _) hb)
  have HS13 := Lib.hid (hb.size)
  have HU14 := Lib.hid (at_own hv (Nat.le_refl _))
  obtain ⟨ad114, cap114, rfl⟩ := hv.argsAt.slice
  clear HF hv hb
  have HF := Lib.hid (eqTermE_any (gtL l0 a1) _ _ w14 HU14.out.argsAt HU3.out.argsAt (gt_each l0 a1))
  go_wp2_with fail
  refine HF.out.mono ?_
  rintro e w15 ⟨rfl, hb⟩
  replace HA0 := Lib.hid (HA0.out.read hb)
  replace HU2 := Lib.hid (HU2.out.read hb)
  replace HU3 := Lib.hid (HU3.out.read hb)
  replace HU4 := Lib.hid (HU4.out.read hb)
  replace HU5 := Lib.hid (HU5.out.read hb)
  replace HU7 := Lib.hid (HU7.out.read hb)
  replace HU13 := Lib.hid (HU13.out.read hb)
  replace HU14 := Lib.hid (HU14.out.read hb)
  replace HW := Lib.hid (belowOn HW.out (Nat.le_refl _) hb)
  have HS14 := Lib.hid (hb.size)
  clear HF hb
  have hnl := (gt_nodes l0 a1)
  have HF := Lib.hid (heldTermL_any (gtL l0 a1) _ (1) w15 HU5.out.argsAt (by omega) (by omega))
  go_wp2_with fail
  refine HF.out.mono ?_
  rintro e w16 ⟨rfl, hb⟩
  replace HA0 := Lib.hid (HA0.out.read hb)
  replace HU2 := Lib.hid (HU2.out.read hb)
  replace HU3 := Lib.hid (HU3.out.read hb)
  replace HU4 := Lib.hid (HU4.out.read hb)
  replace HU5 := Lib.hid (HU5.out.read hb)
  replace HU7 := Lib.hid (HU7.out.read hb)
  replace HU13 := Lib.hid (HU13.out.read hb)
  replace HU14 := Lib.hid (HU14.out.read hb)
  replace HW := Lib.hid (belowOn HW.out (Nat.le_refl _) hb)
  have HS15 := Lib.hid (hb.size)
  clear HF hb
  go_wp2
  go_ret
  exact ⟨rfl, HW.out⟩
end Go.Proofs.Ytoihimdfmncdoaa

