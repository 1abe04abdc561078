/-
  The law of UnifyAll, walked: it returns true, and nothing that was there is changed. (Written by wip/tools/mkexact.py over the law's operations.)
-/
import Derived.Test.YtnbnepeikdieaaaGreatSpecUnify
import Derived.Test.YtnbnepeikdieaaaGreatSubsQ
import Derived.Test.YtnbnepeikdieaaaGreatLaws
namespace Go.Proofs.YtnbnepeikdieaaaGreat
open Go.RowKit
set_option linter.unusedVariables false
set_option linter.unusedSimpArgs false

set_option maxRecDepth 100000 in
set_option maxHeartbeats 16000000 in
theorem walkUnifyAll (w : World) (V0 : Value) (l0 : List Bd) (A0 : ListS bdE w Any V0 l0) (f0 : fineB l0) (n0 : l0.length ≤ maxLen) (V1 : Value) (l1 : List Tm) (A1 : ArgsAt w V1 l1) (f1 : fineL l1) (n1 : l1.length ≤ maxLen) (V2 : Value) (l2 : List Tm) (A2 : ArgsAt w V2 l2) (f2 : fineL l2) (n2 : l2.length ≤ maxLen) :
    Calls Tryz.prog 4 #[V0, V1, V2] w fun e w' => e = .returned (.bool true) ∧ Below w.heap.size w w' := by
  obtain ⟨ad0, cap0, rfl⟩ := A0.slice
  have HA0 := Lib.hid (at_list A0)
  clear A0
  obtain ⟨ad1, cap1, rfl⟩ := A1.slice
  have HA1 := Lib.hid (at_args A1)
  clear A1
  obtain ⟨ad2, cap2, rfl⟩ := A2.slice
  have HA2 := Lib.hid (at_args A2)
  clear A2
  have HW : Hid (Below w.heap.size w w) := Lib.hid (Below.refl _ _)
  go_enter Tryz.func4, Tryz.ntmps4
  have HSZ := Lib.hid (szBindingL_any l0 _ 1048576 w HA0.out.listS f0 n0 (by omega) (by omega))
  go_wp2_with fail
  refine HSZ.out.mono ?_
  rintro e w1 ⟨r0, rfl, hr1, hr2, hr, hb⟩
  clear HSZ
  replace HA0 := Lib.hid (HA0.out.read hb)
  replace HA1 := Lib.hid (HA1.out.read hb)
  replace HA2 := Lib.hid (HA2.out.read hb)
  replace HW := Lib.hid (belowOn HW.out (Nat.le_refl _) hb)
  have HS0 := Lib.hid (hb.size)
  clear hb
  by_cases hneg : r0 < 0
  · clear hr
    go_wp2
    go_ret
    exact ⟨rfl, HW.out⟩
  have hZl0 : szB l0 ≤ 1048576 := by have := hr (by omega); omega
  replace hr1 : 0 ≤ r0 := by omega
  replace hr2 : r0 ≤ 1048576 := by omega
  clear hr hneg
  have h0r0 := hr1
  have h1r0 := hr2
  clear hr1 hr2
  have HSZ := Lib.hid (szTermL_any l1 _ r0 w1 HA1.out.argsAt f1 n1 (by omega) (by omega))
  go_wp2_with fail
  refine HSZ.out.mono ?_
  rintro e w2 ⟨r1, rfl, hr1, hr2, hr, hb⟩
  clear HSZ
  replace HA0 := Lib.hid (HA0.out.read hb)
  replace HA1 := Lib.hid (HA1.out.read hb)
  replace HA2 := Lib.hid (HA2.out.read hb)
  replace HW := Lib.hid (belowOn HW.out (Nat.le_refl _) hb)
  have HS1 := Lib.hid (hb.size)
  clear hb
  by_cases hneg : r1 < 0
  · clear hr
    go_wp2
    go_ret
    exact ⟨rfl, HW.out⟩
  have hZl1 : szL l1 ≤ 1048576 := by have := hr (by omega); omega
  replace hr1 : 0 ≤ r1 := by omega
  replace hr2 : r1 ≤ 1048576 := by omega
  clear hr hneg
  have h0r1 := hr1
  have h1r1 := hr2
  clear hr1 hr2
  have HSZ := Lib.hid (szTermL_any l2 _ r1 w2 HA2.out.argsAt f2 n2 (by omega) (by omega))
  go_wp2_with fail
  refine HSZ.out.mono ?_
  rintro e w3 ⟨r2, rfl, hr1, hr2, hr, hb⟩
  clear HSZ
  replace HA0 := Lib.hid (HA0.out.read hb)
  replace HA1 := Lib.hid (HA1.out.read hb)
  replace HA2 := Lib.hid (HA2.out.read hb)
  replace HW := Lib.hid (belowOn HW.out (Nat.le_refl _) hb)
  have HS2 := Lib.hid (hb.size)
  clear hb
  by_cases hneg : r2 < 0
  · clear hr
    go_wp2
    go_ret
    exact ⟨rfl, HW.out⟩
  have hZl2 : szL l2 ≤ 1048576 := by have := hr (by omega); omega
  replace hr1 : 0 ≤ r2 := by omega
  replace hr2 : r2 ≤ 1048576 := by omega
  clear hr hneg
  have h0r2 := hr1
  have h1r2 := hr2
  clear hr1 hr2
  have HTO := Lib.hid (toBindingL_any l0 _ w3 HA0.out.listS hZl0)
  go_wp2_with fail
  refine HTO.out.mono ?_
  rintro e w4 ⟨u4, rfl, hn⟩
  have hb := hn.2
  replace HA0 := Lib.hid (HA0.out.read hb)
  replace HA1 := Lib.hid (HA1.out.read hb)
  replace HA2 := Lib.hid (HA2.out.read hb)
  replace HW := Lib.hid (belowOn HW.out (Nat.le_refl _) hb)
  have HS3 := Lib.hid (hb.size)
  have HU4 := Lib.hid hn.at
  obtain ⟨ad104, cap104, rfl⟩ := hn.1.slice
  clear HTO hn hb
  have HTO := Lib.hid (toTermL_any l1 _ w4 HA1.out.argsAt hZl1)
  go_wp2_with fail
  refine HTO.out.mono ?_
  rintro e w5 ⟨u5, rfl, hn⟩
  have hb := hn.2
  replace HA0 := Lib.hid (HA0.out.read hb)
  replace HA1 := Lib.hid (HA1.out.read hb)
  replace HA2 := Lib.hid (HA2.out.read hb)
  replace HU4 := Lib.hid (HU4.out.read hb)
  replace HW := Lib.hid (belowOn HW.out (Nat.le_refl _) hb)
  have HS4 := Lib.hid (hb.size)
  have HU5 := Lib.hid hn.at
  obtain ⟨ad105, cap105, rfl⟩ := hn.1.argsAt.slice
  clear HTO hn hb
  have HTO := Lib.hid (toTermL_any l2 _ w5 HA2.out.argsAt hZl2)
  go_wp2_with fail
  refine HTO.out.mono ?_
  rintro e w6 ⟨u6, rfl, hn⟩
  have hb := hn.2
  replace HA0 := Lib.hid (HA0.out.read hb)
  replace HA1 := Lib.hid (HA1.out.read hb)
  replace HA2 := Lib.hid (HA2.out.read hb)
  replace HU4 := Lib.hid (HU4.out.read hb)
  replace HU5 := Lib.hid (HU5.out.read hb)
  replace HW := Lib.hid (belowOn HW.out (Nat.le_refl _) hb)
  have HS5 := Lib.hid (hb.size)
  have HU6 := Lib.hid hn.at
  obtain ⟨ad106, cap106, rfl⟩ := hn.1.argsAt.slice
  clear HTO hn hb
  have HF := Lib.hid (specUnifyAll_any l0 _ l1 _ l2 _ w6 HU4.out.listS hZl0 HU5.out.argsAt hZl1 HU6.out.argsAt hZl2)
  go_wp2_with fail
  refine HF.out.mono ?_
  rintro e w7 ⟨u7, rfl, hv, hb⟩
  replace HA0 := Lib.hid (HA0.out.read hb)
  replace HA1 := Lib.hid (HA1.out.read hb)
  replace HA2 := Lib.hid (HA2.out.read hb)
  replace HU4 := Lib.hid (HU4.out.read hb)
  replace HU5 := Lib.hid (HU5.out.read hb)
  replace HU6 := Lib.hid (HU6.out.read hb)
  replace HW := Lib.hid (belowOn HW.out (Nat.le_refl _) hb)
  have HS6 := Lib.hid (hb.size)
  have HU7 := Lib.hid (at_list hv)
  obtain ⟨ad107, cap107, rfl⟩ := hv.slice
  clear HF hv hb
  have HTO := Lib.hid (toBindingL_any l0 _ w7 HA0.out.listS hZl0)
  go_wp2_with fail
  refine HTO.out.mono ?_
  rintro e w8 ⟨u8, rfl, hn⟩
  have hb := hn.2
  replace HA0 := Lib.hid (HA0.out.read hb)
  replace HA1 := Lib.hid (HA1.out.read hb)
  replace HA2 := Lib.hid (HA2.out.read hb)
  replace HU4 := Lib.hid (HU4.out.read hb)
  replace HU5 := Lib.hid (HU5.out.read hb)
  replace HU6 := Lib.hid (HU6.out.read hb)
  replace HU7 := Lib.hid (HU7.out.read hb)
  replace HW := Lib.hid (belowOn HW.out (Nat.le_refl _) hb)
  have HS7 := Lib.hid (hb.size)
  have HU8 := Lib.hid hn.at
  obtain ⟨ad108, cap108, rfl⟩ := hn.1.slice
  clear HTO hn hb
  have HTO := Lib.hid (toTermL_any l1 _ w8 HA1.out.argsAt hZl1)
  go_wp2_with fail
  refine HTO.out.mono ?_
  rintro e w9 ⟨u9, rfl, hn⟩
  have hb := hn.2
  replace HA0 := Lib.hid (HA0.out.read hb)
  replace HA1 := Lib.hid (HA1.out.read hb)
  replace HA2 := Lib.hid (HA2.out.read hb)
  replace HU4 := Lib.hid (HU4.out.read hb)
  replace HU5 := Lib.hid (HU5.out.read hb)
  replace HU6 := Lib.hid (HU6.out.read hb)
  replace HU7 := Lib.hid (HU7.out.read hb)
  replace HU8 := Lib.hid (HU8.out.read hb)
  replace HW := Lib.hid (belowOn HW.out (Nat.le_refl _) hb)
  have HS8 := Lib.hid (hb.size)
  have HU9 := Lib.hid hn.at
  obtain ⟨ad109, cap109, rfl⟩ := hn.1.argsAt.slice
  clear HTO hn hb
  have HTO := Lib.hid (toTermL_any l2 _ w9 HA2.out.argsAt hZl2)
  go_wp2_with fail
  refine HTO.out.mono ?_
  rintro e w10 ⟨u10, rfl, hn⟩
  have hb := hn.2
  replace HA0 := Lib.hid (HA0.out.read hb)
  replace HA1 := Lib.hid (HA1.out.read hb)
  replace HA2 := Lib.hid (HA2.out.read hb)
  replace HU4 := Lib.hid (HU4.out.read hb)
  replace HU5 := Lib.hid (HU5.out.read hb)
  replace HU6 := Lib.hid (HU6.out.read hb)
  replace HU7 := Lib.hid (HU7.out.read hb)
  replace HU8 := Lib.hid (HU8.out.read hb)
  replace HU9 := Lib.hid (HU9.out.read hb)
  replace HW := Lib.hid (belowOn HW.out (Nat.le_refl _) hb)
  have HS9 := Lib.hid (hb.size)
  have HU10 := Lib.hid hn.at
  obtain ⟨ad110, cap110, rfl⟩ := hn.1.argsAt.slice
  clear HTO hn hb
  have HF := Lib.hid (implUnifyAll_any l0 _ l1 _ l2 _ w10 HU8.out.listS hZl0 f0 HU9.out.argsAt hZl1 HU10.out.argsAt hZl2)
  go_wp2_with fail
  refine HF.out.mono ?_
  rintro e w11 ⟨u11, rfl, hv, hb⟩
  replace HA0 := Lib.hid (HA0.out.read hb)
  replace HA1 := Lib.hid (HA1.out.read hb)
  replace HA2 := Lib.hid (HA2.out.read hb)
  replace HU4 := Lib.hid (HU4.out.read hb)
  replace HU5 := Lib.hid (HU5.out.read hb)
  replace HU6 := Lib.hid (HU6.out.read hb)
  replace HU7 := Lib.hid (HU7.out.read hb)
  replace HU8 := Lib.hid (HU8.out.read hb)
  replace HU9 := Lib.hid (HU9.out.read hb)
  replace HU10 := Lib.hid (HU10.out.read hb)
  replace HW := Lib.hid (belowOn HW.out (Nat.le_refl _) hb)
  have HS10 := Lib.hid (hb.size)
  have HU11 := Lib.hid (at_listO hv (Nat.le_refl _))
  obtain ⟨ad111, cap111, rfl⟩ := hv.slice
  clear HF hv hb
  have HF := Lib.hid (eqBindingL_any (uaL l0 l1 l2) _ _ w11 HU11.out.listS HU7.out.listS (ua_each l0 l1 l2))
  go_wp2_with fail
  refine HF.out.mono ?_
  rintro e w12 ⟨rfl, hb⟩
  replace HA0 := Lib.hid (HA0.out.read hb)
  replace HA1 := Lib.hid (HA1.out.read hb)
  replace HA2 := Lib.hid (HA2.out.read hb)
  replace HU4 := Lib.hid (HU4.out.read hb)
  replace HU5 := Lib.hid (HU5.out.read hb)
  replace HU6 := Lib.hid (HU6.out.read hb)
  replace HU7 := Lib.hid (HU7.out.read hb)
  replace HU8 := Lib.hid (HU8.out.read hb)
  replace HU9 := Lib.hid (HU9.out.read hb)
  replace HU10 := Lib.hid (HU10.out.read hb)
  replace HU11 := Lib.hid (HU11.out.read hb)
  replace HW := Lib.hid (belowOn HW.out (Nat.le_refl _) hb)
  have HS11 := Lib.hid (hb.size)
  clear HF hb
  have HTO := Lib.hid (toBindingL_any l0 _ w12 HA0.out.listS hZl0)
  go_wp2_with fail
  refine HTO.out.mono ?_
  rintro e w13 ⟨u13, rfl, hn⟩
  have hb := hn.2
  replace HA0 := Lib.hid (HA0.out.read hb)
  replace HA1 := Lib.hid (HA1.out.read hb)
  replace HA2 := Lib.hid (HA2.out.read hb)
  replace HU4 := Lib.hid (HU4.out.read hb)
  replace HU5 := Lib.hid (HU5.out.read hb)
  replace HU6 := Lib.hid (HU6.out.read hb)
  replace HU7 := Lib.hid (HU7.out.read hb)
  replace HU8 := Lib.hid (HU8.out.read hb)
  replace HU9 := Lib.hid (HU9.out.read hb)
  replace HU10 := Lib.hid (HU10.out.read hb)
  replace HU11 := Lib.hid (HU11.out.read hb)
  replace HW := Lib.hid (belowOn HW.out (Nat.le_refl _) hb)
  have HS12 := Lib.hid (hb.size)
  have HU13 := Lib.hid hn.at
  obtain ⟨ad113, cap113, rfl⟩ := hn.1.slice
  clear HTO hn hb
  have HF := Lib.hid (eqBindingL_any l0 _ _ w13 HU8.out.listS HU13.out.listS (eachB_of hZl0))
  go_wp2_with fail
  refine HF.out.mono ?_
  rintro e w14 ⟨rfl, hb⟩
  replace HA0 := Lib.hid (HA0.out.read hb)
  replace HA1 := Lib.hid (HA1.out.read hb)
  replace HA2 := Lib.hid (HA2.out.read hb)
  replace HU4 := Lib.hid (HU4.out.read hb)
  replace HU5 := Lib.hid (HU5.out.read hb)
  replace HU6 := Lib.hid (HU6.out.read hb)
  replace HU7 := Lib.hid (HU7.out.read hb)
  replace HU8 := Lib.hid (HU8.out.read hb)
  replace HU9 := Lib.hid (HU9.out.read hb)
  replace HU10 := Lib.hid (HU10.out.read hb)
  replace HU11 := Lib.hid (HU11.out.read hb)
  replace HU13 := Lib.hid (HU13.out.read hb)
  replace HW := Lib.hid (belowOn HW.out (Nat.le_refl _) hb)
  have HS13 := Lib.hid (hb.size)
  clear HF hb
  have HTO := Lib.hid (toTermL_any l1 _ w14 HA1.out.argsAt hZl1)
  go_wp2_with fail
  refine HTO.out.mono ?_
  rintro e w15 ⟨u15, rfl, hn⟩
  have hb := hn.2
  replace HA0 := Lib.hid (HA0.out.read hb)
  replace HA1 := Lib.hid (HA1.out.read hb)
  replace HA2 := Lib.hid (HA2.out.read hb)
  replace HU4 := Lib.hid (HU4.out.read hb)
  replace HU5 := Lib.hid (HU5.out.read hb)
  replace HU6 := Lib.hid (HU6.out.read hb)
  replace HU7 := Lib.hid (HU7.out.read hb)
  replace HU8 := Lib.hid (HU8.out.read hb)
  replace HU9 := Lib.hid (HU9.out.read hb)
  replace HU10 := Lib.hid (HU10.out.read hb)
  replace HU11 := Lib.hid (HU11.out.read hb)
  replace HU13 := Lib.hid (HU13.out.read hb)
  replace HW := Lib.hid (belowOn HW.out (Nat.le_refl _) hb)
  have HS14 := Lib.hid (hb.size)
  have HU15 := Lib.hid hn.at
  obtain ⟨ad115, cap115, rfl⟩ := hn.1.argsAt.slice
  clear HTO hn hb
  have HF := Lib.hid (eqTermL_any l1 _ _ w15 HU9.out.argsAt HU15.out.argsAt hZl1)
  go_wp2_with fail
  refine HF.out.mono ?_
  rintro e w16 ⟨rfl, hb⟩
  replace HA0 := Lib.hid (HA0.out.read hb)
  replace HA1 := Lib.hid (HA1.out.read hb)
  replace HA2 := Lib.hid (HA2.out.read hb)
  replace HU4 := Lib.hid (HU4.out.read hb)
  replace HU5 := Lib.hid (HU5.out.read hb)
  replace HU6 := Lib.hid (HU6.out.read hb)
  replace HU7 := Lib.hid (HU7.out.read hb)
  replace HU8 := Lib.hid (HU8.out.read hb)
  replace HU9 := Lib.hid (HU9.out.read hb)
  replace HU10 := Lib.hid (HU10.out.read hb)
  replace HU11 := Lib.hid (HU11.out.read hb)
  replace HU13 := Lib.hid (HU13.out.read hb)
  replace HU15 := Lib.hid (HU15.out.read hb)
  replace HW := Lib.hid (belowOn HW.out (Nat.le_refl _) hb)
  have HS15 := Lib.hid (hb.size)
  clear HF hb
  have HTO := Lib.hid (toTermL_any l2 _ w16 HA2.out.argsAt hZl2)
  go_wp2_with fail
  refine HTO.out.mono ?_
  rintro e w17 ⟨u17, rfl, hn⟩
  have hb := hn.2
  replace HA0 := Lib.hid (HA0.out.read hb)
  replace HA1 := Lib.hid (HA1.out.read hb)
  replace HA2 := Lib.hid (HA2.out.read hb)
  replace HU4 := Lib.hid (HU4.out.read hb)
  replace HU5 := Lib.hid (HU5.out.read hb)
  replace HU6 := Lib.hid (HU6.out.read hb)
  replace HU7 := Lib.hid (HU7.out.read hb)
  replace HU8 := Lib.hid (HU8.out.read hb)
  replace HU9 := Lib.hid (HU9.out.read hb)
  replace HU10 := Lib.hid (HU10.out.read hb)
  replace HU11 := Lib.hid (HU11.out.read hb)
  replace HU13 := Lib.hid (HU13.out.read hb)
  replace HU15 := Lib.hid (HU15.out.read hb)
  replace HW := Lib.hid (belowOn HW.out (Nat.le_refl _) hb)
  have HS16 := Lib.hid (hb.size)
  have HU17 := Lib.hid hn.at
  obtain ⟨ad117, cap117, rfl⟩ := hn.1.argsAt.slice
  clear HTO hn hb
  have HF := Lib.hid (eqTermL_any l2 _ _ w17 HU10.out.argsAt HU17.out.argsAt hZl2)
  go_wp2_with fail
  refine HF.out.mono ?_
  rintro e w18 ⟨rfl, hb⟩
  replace HA0 := Lib.hid (HA0.out.read hb)
  replace HA1 := Lib.hid (HA1.out.read hb)
  replace HA2 := Lib.hid (HA2.out.read hb)
  replace HU4 := Lib.hid (HU4.out.read hb)
  replace HU5 := Lib.hid (HU5.out.read hb)
  replace HU6 := Lib.hid (HU6.out.read hb)
  replace HU7 := Lib.hid (HU7.out.read hb)
  replace HU8 := Lib.hid (HU8.out.read hb)
  replace HU9 := Lib.hid (HU9.out.read hb)
  replace HU10 := Lib.hid (HU10.out.read hb)
  replace HU11 := Lib.hid (HU11.out.read hb)
  replace HU13 := Lib.hid (HU13.out.read hb)
  replace HU15 := Lib.hid (HU15.out.read hb)
  replace HU17 := Lib.hid (HU17.out.read hb)
  replace HW := Lib.hid (belowOn HW.out (Nat.le_refl _) hb)
  have HS17 := Lib.hid (hb.size)
  clear HF hb
  have hnl := (nk_bd hZl0)
  have HF := Lib.hid (markBindingL_any l0 _ (1) _ _ w18 HU8.out (by omega) (by omega))
  go_wp2_with fail
  refine HF.out.mono ?_
  rintro e w19 ⟨rfl, hat, ho⟩
  have s0 := HS0.out
  have s1 := HS1.out
  have s2 := HS2.out
  have s3 := HS3.out
  have s4 := HS4.out
  have s5 := HS5.out
  have s6 := HS6.out
  have s7 := HS7.out
  have s8 := HS8.out
  have s9 := HS9.out
  have s10 := HS10.out
  have s11 := HS11.out
  have s12 := HS12.out
  have s13 := HS13.out
  have s14 := HS14.out
  have s15 := HS15.out
  have s16 := HS16.out
  have s17 := HS17.out
  replace HA0 := Lib.hid (HA0.out.only ho (by omega))
  replace HA1 := Lib.hid (HA1.out.only ho (by omega))
  replace HA2 := Lib.hid (HA2.out.only ho (by omega))
  replace HU4 := Lib.hid (HU4.out.only ho (by omega))
  replace HU5 := Lib.hid (HU5.out.only ho (by omega))
  replace HU6 := Lib.hid (HU6.out.only ho (by omega))
  replace HU7 := Lib.hid (HU7.out.only ho (by omega))
  replace HU9 := Lib.hid (HU9.out.only ho (by omega))
  replace HU10 := Lib.hid (HU10.out.only ho (by omega))
  replace HU11 := Lib.hid (HU11.out.only ho (by omega))
  replace HU13 := Lib.hid (HU13.out.only ho (by omega))
  replace HU15 := Lib.hid (HU15.out.only ho (by omega))
  replace HU17 := Lib.hid (HU17.out.only ho (by omega))
  replace HW := Lib.hid (HW.out.trans (ho.below (fun k hk => by have := hk.1; omega) (by omega)))
  clear s0 s1 s2 s3 s4 s5 s6 s7 s8 s9 s10 s11 s12 s13 s14 s15 s16 s17
  replace HU8 := Lib.hid hat
  have HS18 := Lib.hid (ho.size)
  clear HF hat ho
  have hnl := nlL_bd hZl1
  have HF := Lib.hid (markTermL_any l1 _ (1 + (nkB l0 : Int)) _ _ w19 HU9.out (by omega) (by omega))
  go_wp2_with fail
  refine HF.out.mono ?_
  rintro e w20 ⟨rfl, hat, ho⟩
  have s0 := HS0.out
  have s1 := HS1.out
  have s2 := HS2.out
  have s3 := HS3.out
  have s4 := HS4.out
  have s5 := HS5.out
  have s6 := HS6.out
  have s7 := HS7.out
  have s8 := HS8.out
  have s9 := HS9.out
  have s10 := HS10.out
  have s11 := HS11.out
  have s12 := HS12.out
  have s13 := HS13.out
  have s14 := HS14.out
  have s15 := HS15.out
  have s16 := HS16.out
  have s17 := HS17.out
  have s18 := HS18.out
  replace HA0 := Lib.hid (HA0.out.only ho (by omega))
  replace HA1 := Lib.hid (HA1.out.only ho (by omega))
  replace HA2 := Lib.hid (HA2.out.only ho (by omega))
  replace HU4 := Lib.hid (HU4.out.only ho (by omega))
  replace HU5 := Lib.hid (HU5.out.only ho (by omega))
  replace HU6 := Lib.hid (HU6.out.only ho (by omega))
  replace HU7 := Lib.hid (HU7.out.only ho (by omega))
  replace HU8 := Lib.hid (HU8.out.only ho (by omega))
  replace HU10 := Lib.hid (HU10.out.only ho (by omega))
  replace HU11 := Lib.hid (HU11.out.only ho (by omega))
  replace HU13 := Lib.hid (HU13.out.only ho (by omega))
  replace HU15 := Lib.hid (HU15.out.only ho (by omega))
  replace HU17 := Lib.hid (HU17.out.only ho (by omega))
  replace HW := Lib.hid (HW.out.trans (ho.below (fun k hk => by have := hk.1; omega) (by omega)))
  clear s0 s1 s2 s3 s4 s5 s6 s7 s8 s9 s10 s11 s12 s13 s14 s15 s16 s17 s18
  replace HU9 := Lib.hid hat
  have HS19 := Lib.hid (ho.size)
  clear HF hat ho
  have hnl := nlL_bd hZl2
  have HF := Lib.hid (markTermL_any l2 _ (1 + (nkB l0 : Int) + 3 * (nodesL l1 : Int)) _ _ w20 HU10.out (by omega) (by omega))
  go_wp2_with fail
  refine HF.out.mono ?_
  rintro e w21 ⟨rfl, hat, ho⟩
  have s0 := HS0.out
  have s1 := HS1.out
  have s2 := HS2.out
  have s3 := HS3.out
  have s4 := HS4.out
  have s5 := HS5.out
  have s6 := HS6.out
  have s7 := HS7.out
  have s8 := HS8.out
  have s9 := HS9.out
  have s10 := HS10.out
  have s11 := HS11.out
  have s12 := HS12.out
  have s13 := HS13.out
  have s14 := HS14.out
  have s15 := HS15.out
  have s16 := HS16.out
  have s17 := HS17.out
  have s18 := HS18.out
  have s19 := HS19.out
  replace HA0 := Lib.hid (HA0.out.only ho (by omega))
  replace HA1 := Lib.hid (HA1.out.only ho (by omega))
  replace HA2 := Lib.hid (HA2.out.only ho (by omega))
  replace HU4 := Lib.hid (HU4.out.only ho (by omega))
  replace HU5 := Lib.hid (HU5.out.only ho (by omega))
  replace HU6 := Lib.hid (HU6.out.only ho (by omega))
  replace HU7 := Lib.hid (HU7.out.only ho (by omega))
  replace HU8 := Lib.hid (HU8.out.only ho (by omega))
  replace HU9 := Lib.hid (HU9.out.only ho (by omega))
  replace HU11 := Lib.hid (HU11.out.only ho (by omega))
  replace HU13 := Lib.hid (HU13.out.only ho (by omega))
  replace HU15 := Lib.hid (HU15.out.only ho (by omega))
  replace HU17 := Lib.hid (HU17.out.only ho (by omega))
  replace HW := Lib.hid (HW.out.trans (ho.below (fun k hk => by have := hk.1; omega) (by omega)))
  clear s0 s1 s2 s3 s4 s5 s6 s7 s8 s9 s10 s11 s12 s13 s14 s15 s16 s17 s18 s19
  replace HU10 := Lib.hid hat
  have HS20 := Lib.hid (ho.size)
  clear HF hat ho
  have HF := Lib.hid (eqBindingL_any (uaL l0 l1 l2) _ _ w21 HU11.out.listS HU7.out.listS (ua_each l0 l1 l2))
  go_wp2_with fail
  refine HF.out.mono ?_
  rintro e w22 ⟨rfl, hb⟩
  replace HA0 := Lib.hid (HA0.out.read hb)
  replace HA1 := Lib.hid (HA1.out.read hb)
  replace HA2 := Lib.hid (HA2.out.read hb)
  replace HU4 := Lib.hid (HU4.out.read hb)
  replace HU5 := Lib.hid (HU5.out.read hb)
  replace HU6 := Lib.hid (HU6.out.read hb)
  replace HU7 := Lib.hid (HU7.out.read hb)
  replace HU8 := Lib.hid (HU8.out.read hb)
  replace HU9 := Lib.hid (HU9.out.read hb)
  replace HU10 := Lib.hid (HU10.out.read hb)
  replace HU11 := Lib.hid (HU11.out.read hb)
  replace HU13 := Lib.hid (HU13.out.read hb)
  replace HU15 := Lib.hid (HU15.out.read hb)
  replace HU17 := Lib.hid (HU17.out.read hb)
  replace HW := Lib.hid (belowOn HW.out (Nat.le_refl _) hb)
  have HS21 := Lib.hid (hb.size)
  clear HF hb
  have hnl := (ua_nk l0 l1 l2)
  have HF := Lib.hid (markBindingL_any (uaL l0 l1 l2) _ (1) _ _ w22 HU11.out (by omega) (by omega))
  go_wp2_with fail
  refine HF.out.mono ?_
  rintro e w23 ⟨rfl, hat, ho⟩
  have s0 := HS0.out
  have s1 := HS1.out
  have s2 := HS2.out
  have s3 := HS3.out
  have s4 := HS4.out
  have s5 := HS5.out
  have s6 := HS6.out
  have s7 := HS7.out
  have s8 := HS8.out
  have s9 := HS9.out
  have s10 := HS10.out
  have s11 := HS11.out
  have s12 := HS12.out
  have s13 := HS13.out
  have s14 := HS14.out
  have s15 := HS15.out
  have s16 := HS16.out
  have s17 := HS17.out
  have s18 := HS18.out
  have s19 := HS19.out
  have s20 := HS20.out
  have s21 := HS21.out
  replace HA0 := Lib.hid (HA0.out.only ho (by omega))
  replace HA1 := Lib.hid (HA1.out.only ho (by omega))
  replace HA2 := Lib.hid (HA2.out.only ho (by omega))
  replace HU4 := Lib.hid (HU4.out.only ho (by omega))
  replace HU5 := Lib.hid (HU5.out.only ho (by omega))
  replace HU6 := Lib.hid (HU6.out.only ho (by omega))
  replace HU7 := Lib.hid (HU7.out.only ho (by omega))
  replace HU8 := Lib.hid (HU8.out.only ho (by omega))
  replace HU9 := Lib.hid (HU9.out.only ho (by omega))
  replace HU10 := Lib.hid (HU10.out.only ho (by omega))
  replace HU13 := Lib.hid (HU13.out.only ho (by omega))
  replace HU15 := Lib.hid (HU15.out.only ho (by omega))
  replace HU17 := Lib.hid (HU17.out.only ho (by omega))
  replace HW := Lib.hid (HW.out.trans (ho.below (fun k hk => by have := hk.1; omega) (by omega)))
  clear s0 s1 s2 s3 s4 s5 s6 s7 s8 s9 s10 s11 s12 s13 s14 s15 s16 s17 s18 s19 s20 s21
  replace HU11 := Lib.hid hat
  have HS22 := Lib.hid (ho.size)
  clear HF hat ho
  have hnl := (ua_nk l0 l1 l2)
  have HF := Lib.hid (heldBindings_any (uaL l0 l1 l2) _ (1) w23 HU11.out.listS (by omega) (by omega))
  go_wp2_with fail
  refine HF.out.mono ?_
  rintro e w24 ⟨rfl, hb⟩
  replace HA0 := Lib.hid (HA0.out.read hb)
  replace HA1 := Lib.hid (HA1.out.read hb)
  replace HA2 := Lib.hid (HA2.out.read hb)
  replace HU4 := Lib.hid (HU4.out.read hb)
  replace HU5 := Lib.hid (HU5.out.read hb)
  replace HU6 := Lib.hid (HU6.out.read hb)
  replace HU7 := Lib.hid (HU7.out.read hb)
  replace HU8 := Lib.hid (HU8.out.read hb)
  replace HU9 := Lib.hid (HU9.out.read hb)
  replace HU10 := Lib.hid (HU10.out.read hb)
  replace HU11 := Lib.hid (HU11.out.read hb)
  replace HU13 := Lib.hid (HU13.out.read hb)
  replace HU15 := Lib.hid (HU15.out.read hb)
  replace HU17 := Lib.hid (HU17.out.read hb)
  replace HW := Lib.hid (belowOn HW.out (Nat.le_refl _) hb)
  have HS23 := Lib.hid (hb.size)
  clear HF hb
  have HTO := Lib.hid (toBindingL_any l0 _ w24 HA0.out.listS hZl0)
  go_wp2_with fail
  refine HTO.out.mono ?_
  rintro e w25 ⟨u25, rfl, hn⟩
  have hb := hn.2
  replace HA0 := Lib.hid (HA0.out.read hb)
  replace HA1 := Lib.hid (HA1.out.read hb)
  replace HA2 := Lib.hid (HA2.out.read hb)
  replace HU4 := Lib.hid (HU4.out.read hb)
  replace HU5 := Lib.hid (HU5.out.read hb)
  replace HU6 := Lib.hid (HU6.out.read hb)
  replace HU7 := Lib.hid (HU7.out.read hb)
  replace HU8 := Lib.hid (HU8.out.read hb)
  replace HU9 := Lib.hid (HU9.out.read hb)
  replace HU10 := Lib.hid (HU10.out.read hb)
  replace HU11 := Lib.hid (HU11.out.read hb)
  replace HU13 := Lib.hid (HU13.out.read hb)
  replace HU15 := Lib.hid (HU15.out.read hb)
  replace HU17 := Lib.hid (HU17.out.read hb)
  replace HW := Lib.hid (belowOn HW.out (Nat.le_refl _) hb)
  have HS24 := Lib.hid (hb.size)
  have HU25 := Lib.hid hn.at
  obtain ⟨ad125, cap125, rfl⟩ := hn.1.slice
  clear HTO hn hb
  have HTO := Lib.hid (toTermL_any l1 _ w25 HA1.out.argsAt hZl1)
  go_wp2_with fail
  refine HTO.out.mono ?_
  rintro e w26 ⟨u26, rfl, hn⟩
  have hb := hn.2
  replace HA0 := Lib.hid (HA0.out.read hb)
  replace HA1 := Lib.hid (HA1.out.read hb)
  replace HA2 := Lib.hid (HA2.out.read hb)
  replace HU4 := Lib.hid (HU4.out.read hb)
  replace HU5 := Lib.hid (HU5.out.read hb)
  replace HU6 := Lib.hid (HU6.out.read hb)
  replace HU7 := Lib.hid (HU7.out.read hb)
  replace HU8 := Lib.hid (HU8.out.read hb)
  replace HU9 := Lib.hid (HU9.out.read hb)
  replace HU10 := Lib.hid (HU10.out.read hb)
  replace HU11 := Lib.hid (HU11.out.read hb)
  replace HU13 := Lib.hid (HU13.out.read hb)
  replace HU15 := Lib.hid (HU15.out.read hb)
  replace HU17 := Lib.hid (HU17.out.read hb)
  replace HU25 := Lib.hid (HU25.out.read hb)
  replace HW := Lib.hid (belowOn HW.out (Nat.le_refl _) hb)
  have HS25 := Lib.hid (hb.size)
  have HU26 := Lib.hid hn.at
  obtain ⟨ad126, cap126, rfl⟩ := hn.1.argsAt.slice
  clear HTO hn hb
  have HTO := Lib.hid (toTermL_any l2 _ w26 HA2.out.argsAt hZl2)
  go_wp2_with fail
  refine HTO.out.mono ?_
  rintro e w27 ⟨u27, rfl, hn⟩
  have hb := hn.2
  replace HA0 := Lib.hid (HA0.out.read hb)
  replace HA1 := Lib.hid (HA1.out.read hb)
  replace HA2 := Lib.hid (HA2.out.read hb)
  replace HU4 := Lib.hid (HU4.out.read hb)
  replace HU5 := Lib.hid (HU5.out.read hb)
  replace HU6 := Lib.hid (HU6.out.read hb)
  replace HU7 := Lib.hid (HU7.out.read hb)
  replace HU8 := Lib.hid (HU8.out.read hb)
  replace HU9 := Lib.hid (HU9.out.read hb)
  replace HU10 := Lib.hid (HU10.out.read hb)
  replace HU11 := Lib.hid (HU11.out.read hb)
  replace HU13 := Lib.hid (HU13.out.read hb)
  replace HU15 := Lib.hid (HU15.out.read hb)
  replace HU17 := Lib.hid (HU17.out.read hb)
  replace HU25 := Lib.hid (HU25.out.read hb)
  replace HU26 := Lib.hid (HU26.out.read hb)
  replace HW := Lib.hid (belowOn HW.out (Nat.le_refl _) hb)
  have HS26 := Lib.hid (hb.size)
  have HU27 := Lib.hid hn.at
  obtain ⟨ad127, cap127, rfl⟩ := hn.1.argsAt.slice
  clear HTO hn hb
  have HF := Lib.hid (implUnifyAll_any l0 _ l1 _ l2 _ w27 HU25.out.listS hZl0 f0 HU26.out.argsAt hZl1 HU27.out.argsAt hZl2)
  go_wp2_with fail
  refine HF.out.mono ?_
  rintro e w28 ⟨u28, rfl, hv, hb⟩
  replace HA0 := Lib.hid (HA0.out.read hb)
  replace HA1 := Lib.hid (HA1.out.read hb)
  replace HA2 := Lib.hid (HA2.out.read hb)
  replace HU4 := Lib.hid (HU4.out.read hb)
  replace HU5 := Lib.hid (HU5.out.read hb)
  replace HU6 := Lib.hid (HU6.out.read hb)
  replace HU7 := Lib.hid (HU7.out.read hb)
  replace HU8 := Lib.hid (HU8.out.read hb)
  replace HU9 := Lib.hid (HU9.out.read hb)
  replace HU10 := Lib.hid (HU10.out.read hb)
  replace HU11 := Lib.hid (HU11.out.read hb)
  replace HU13 := Lib.hid (HU13.out.read hb)
  replace HU15 := Lib.hid (HU15.out.read hb)
  replace HU17 := Lib.hid (HU17.out.read hb)
  replace HU25 := Lib.hid (HU25.out.read hb)
  replace HU26 := Lib.hid (HU26.out.read hb)
  replace HU27 := Lib.hid (HU27.out.read hb)
  replace HW := Lib.hid (belowOn HW.out (Nat.le_refl _) hb)
  have HS27 := Lib.hid (hb.size)
  have HU28 := Lib.hid (at_listO hv (Nat.le_refl _))
  obtain ⟨ad128, cap128, rfl⟩ := hv.slice
  clear HF hv hb
  have HF := Lib.hid (eqBindingL_any (uaL l0 l1 l2) _ _ w28 HU28.out.listS HU7.out.listS (ua_each l0 l1 l2))
  go_wp2_with fail
  refine HF.out.mono ?_
  rintro e w29 ⟨rfl, hb⟩
  replace HA0 := Lib.hid (HA0.out.read hb)
  replace HA1 := Lib.hid (HA1.out.read hb)
  replace HA2 := Lib.hid (HA2.out.read hb)
  replace HU4 := Lib.hid (HU4.out.read hb)
  replace HU5 := Lib.hid (HU5.out.read hb)
  replace HU6 := Lib.hid (HU6.out.read hb)
  replace HU7 := Lib.hid (HU7.out.read hb)
  replace HU8 := Lib.hid (HU8.out.read hb)
  replace HU9 := Lib.hid (HU9.out.read hb)
  replace HU10 := Lib.hid (HU10.out.read hb)
  replace HU11 := Lib.hid (HU11.out.read hb)
  replace HU13 := Lib.hid (HU13.out.read hb)
  replace HU15 := Lib.hid (HU15.out.read hb)
  replace HU17 := Lib.hid (HU17.out.read hb)
  replace HU25 := Lib.hid (HU25.out.read hb)
  replace HU26 := Lib.hid (HU26.out.read hb)
  replace HU27 := Lib.hid (HU27.out.read hb)
  replace HU28 := Lib.hid (HU28.out.read hb)
  replace HW := Lib.hid (belowOn HW.out (Nat.le_refl _) hb)
  have HS28 := Lib.hid (hb.size)
  clear HF hb
  have hnl := (ua_nk l0 l1 l2)
  have HF := Lib.hid (heldBindings_any (uaL l0 l1 l2) _ (1) w29 HU11.out.listS (by omega) (by omega))
  go_wp2_with fail
  refine HF.out.mono ?_
  rintro e w30 ⟨rfl, hb⟩
  replace HA0 := Lib.hid (HA0.out.read hb)
  replace HA1 := Lib.hid (HA1.out.read hb)
  replace HA2 := Lib.hid (HA2.out.read hb)
  replace HU4 := Lib.hid (HU4.out.read hb)
  replace HU5 := Lib.hid (HU5.out.read hb)
  replace HU6 := Lib.hid (HU6.out.read hb)
  replace HU7 := Lib.hid (HU7.out.read hb)
  replace HU8 := Lib.hid (HU8.out.read hb)
  replace HU9 := Lib.hid (HU9.out.read hb)
  replace HU10 := Lib.hid (HU10.out.read hb)
  replace HU11 := Lib.hid (HU11.out.read hb)
  replace HU13 := Lib.hid (HU13.out.read hb)
  replace HU15 := Lib.hid (HU15.out.read hb)
  replace HU17 := Lib.hid (HU17.out.read hb)
  replace HU25 := Lib.hid (HU25.out.read hb)
  replace HU26 := Lib.hid (HU26.out.read hb)
  replace HU27 := Lib.hid (HU27.out.read hb)
  replace HU28 := Lib.hid (HU28.out.read hb)
  replace HW := Lib.hid (belowOn HW.out (Nat.le_refl _) hb)
  have HS29 := Lib.hid (hb.size)
  clear HF hb
  go_wp2
  go_ret
  exact ⟨rfl, HW.out⟩
end Go.Proofs.YtnbnepeikdieaaaGreat

