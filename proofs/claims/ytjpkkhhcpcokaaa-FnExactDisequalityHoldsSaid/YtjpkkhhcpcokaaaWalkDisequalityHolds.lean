/-
  The law of DisequalityHolds, walked: it returns true, and nothing that was there is changed. (Written by wip/tools/mkexact.py over the law's operations.)
-/
import Derived.Test.YtjpkkhhcpcokaaaSpecDisH
import Derived.Test.YtjpkkhhcpcokaaaImplDisH
import Derived.Test.YtjpkkhhcpcokaaaSubsQ
import Derived.Test.YtjpkkhhcpcokaaaLaws
namespace Go.Proofs.Ytjpkkhhcpcokaaa
open Go.RowKit
set_option linter.unusedVariables false
set_option linter.unusedSimpArgs false

set_option maxRecDepth 100000 in
set_option maxHeartbeats 16000000 in
theorem walkDisequalityHolds (w : World) (V0 : Value) (l0 : List Bd) (A0 : ListS bdE w Any V0 l0) (f0 : fineB l0) (n0 : l0.length ≤ maxLen) (V1 : Value) (l1 : List Bd) (A1 : ListS bdE w Any V1 l1) (f1 : fineB l1) (n1 : l1.length ≤ maxLen) :
    Calls Try.prog 7 #[V0, V1] w fun e w' => e = .returned (.bool true) ∧ Below w.heap.size w w' := by
  obtain ⟨ad0, cap0, rfl⟩ := A0.slice
  have HA0 := Lib.hid (at_list A0)
  clear A0
  obtain ⟨ad1, cap1, rfl⟩ := A1.slice
  have HA1 := Lib.hid (at_list A1)
  clear A1
  have HW : Hid (Below w.heap.size w w) := Lib.hid (Below.refl _ _)
  go_enter Try.func7, Try.ntmps7
  have HSZ := Lib.hid (szBindingL_any l0 _ 1048576 w HA0.out.listS f0 n0 (by omega) (by omega))
  go_wp2_with fail
  refine HSZ.out.mono ?_
  rintro e w1 ⟨r0, rfl, hr1, hr2, hr, hb⟩
  clear HSZ
  replace HA0 := Lib.hid (HA0.out.read hb)
  replace HA1 := Lib.hid (HA1.out.read hb)
  replace HW := Lib.hid (belowOn HW.out (Nat.le_refl _) hb)
  have HS0 := Lib.hid (hb.size)
  clear hb
  by_cases hneg : r0 < 0
  · clear hr
    go_wp2
    go_ret
    exact ⟨rfl, HW.out⟩
  have hZl0 : szB l0 ≤ 1048576 := by have := hr (by omega); omega
  replace hr1 : 0 ≤ r0 := by omega
  replace hr2 : r0 ≤ 1048576 := by omega
  clear hr hneg
  have h0r0 := hr1
  have h1r0 := hr2
  clear hr1 hr2
  have HSZ := Lib.hid (szBindingL_any l1 _ r0 w1 HA1.out.listS f1 n1 (by omega) (by omega))
  go_wp2_with fail
  refine HSZ.out.mono ?_
  rintro e w2 ⟨r1, rfl, hr1, hr2, hr, hb⟩
  clear HSZ
  replace HA0 := Lib.hid (HA0.out.read hb)
  replace HA1 := Lib.hid (HA1.out.read hb)
  replace HW := Lib.hid (belowOn HW.out (Nat.le_refl _) hb)
  have HS1 := Lib.hid (hb.size)
  clear hb
  by_cases hneg : r1 < 0
  · clear hr
    go_wp2
    go_ret
    exact ⟨rfl, HW.out⟩
  have hZl1 : szB l1 ≤ 1048576 := by have := hr (by omega); omega
  replace hr1 : 0 ≤ r1 := by omega
  replace hr2 : r1 ≤ 1048576 := by omega
  clear hr hneg
  have h0r1 := hr1
  have h1r1 := hr2
  clear hr1 hr2
  have HTO := Lib.hid (toBindingL_any l0 _ w2 HA0.out.listS hZl0)
  go_wp2_with fail
  refine HTO.out.mono ?_
  rintro e w3 ⟨u3, rfl, hn⟩
  have hb := hn.2
  replace HA0 := Lib.hid (HA0.out.read hb)
  replace HA1 := Lib.hid (HA1.out.read hb)
  replace HW := Lib.hid (belowOn HW.out (Nat.le_refl _) hb)
  have HS2 := Lib.hid (hb.size)
  have HU3 := Lib.hid hn.at
  obtain ⟨ad103, cap103, rfl⟩ := hn.1.slice
  clear HTO hn hb
  have HTO := Lib.hid (toBindingL_any l1 _ w3 HA1.out.listS hZl1)
  go_wp2_with fail
  refine HTO.out.mono ?_
  rintro e w4 ⟨u4, rfl, hn⟩
  have hb := hn.2
  replace HA0 := Lib.hid (HA0.out.read hb)
  replace HA1 := Lib.hid (HA1.out.read hb)
  replace HU3 := Lib.hid (HU3.out.read hb)
  replace HW := Lib.hid (belowOn HW.out (Nat.le_refl _) hb)
  have HS3 := Lib.hid (hb.size)
  have HU4 := Lib.hid hn.at
  obtain ⟨ad104, cap104, rfl⟩ := hn.1.slice
  clear HTO hn hb
  have HF := Lib.hid (specDisequalityHolds_any l0 _ l1 _ w4 HU3.out.listS hZl0 HU4.out.listS hZl1)
  go_wp2_with fail
  refine HF.out.mono ?_
  rintro e w5 ⟨rfl, hb⟩
  replace HA0 := Lib.hid (HA0.out.read hb)
  replace HA1 := Lib.hid (HA1.out.read hb)
  replace HU3 := Lib.hid (HU3.out.read hb)
  replace HU4 := Lib.hid (HU4.out.read hb)
  replace HW := Lib.hid (belowOn HW.out (Nat.le_refl _) hb)
  have HS4 := Lib.hid (hb.size)
  clear HF hb
  have HTO := Lib.hid (toBindingL_any l0 _ w5 HA0.out.listS hZl0)
  go_wp2_with fail
  refine HTO.out.mono ?_
  rintro e w6 ⟨u6, rfl, hn⟩
  have hb := hn.2
  replace HA0 := Lib.hid (HA0.out.read hb)
  replace HA1 := Lib.hid (HA1.out.read hb)
  replace HU3 := Lib.hid (HU3.out.read hb)
  replace HU4 := Lib.hid (HU4.out.read hb)
  replace HW := Lib.hid (belowOn HW.out (Nat.le_refl _) hb)
  have HS5 := Lib.hid (hb.size)
  have HU6 := Lib.hid hn.at
  obtain ⟨ad106, cap106, rfl⟩ := hn.1.slice
  clear HTO hn hb
  have HTO := Lib.hid (toBindingL_any l1 _ w6 HA1.out.listS hZl1)
  go_wp2_with fail
  refine HTO.out.mono ?_
  rintro e w7 ⟨u7, rfl, hn⟩
  have hb := hn.2
  replace HA0 := Lib.hid (HA0.out.read hb)
  replace HA1 := Lib.hid (HA1.out.read hb)
  replace HU3 := Lib.hid (HU3.out.read hb)
  replace HU4 := Lib.hid (HU4.out.read hb)
  replace HU6 := Lib.hid (HU6.out.read hb)
  replace HW := Lib.hid (belowOn HW.out (Nat.le_refl _) hb)
  have HS6 := Lib.hid (hb.size)
  have HU7 := Lib.hid hn.at
  obtain ⟨ad107, cap107, rfl⟩ := hn.1.slice
  clear HTO hn hb
  have HF := Lib.hid (implDisequalityHolds_any l0 _ l1 _ w7 HU6.out.listS hZl0 f0 HU7.out.listS hZl1 f1)
  go_wp2_with fail
  refine HF.out.mono ?_
  rintro e w8 ⟨rfl, hb⟩
  replace HA0 := Lib.hid (HA0.out.read hb)
  replace HA1 := Lib.hid (HA1.out.read hb)
  replace HU3 := Lib.hid (HU3.out.read hb)
  replace HU4 := Lib.hid (HU4.out.read hb)
  replace HU6 := Lib.hid (HU6.out.read hb)
  replace HU7 := Lib.hid (HU7.out.read hb)
  replace HW := Lib.hid (belowOn HW.out (Nat.le_refl _) hb)
  have HS7 := Lib.hid (hb.size)
  clear HF hb
  have HTO := Lib.hid (toBindingL_any l0 _ w8 HA0.out.listS hZl0)
  go_wp2_with fail
  refine HTO.out.mono ?_
  rintro e w9 ⟨u9, rfl, hn⟩
  have hb := hn.2
  replace HA0 := Lib.hid (HA0.out.read hb)
  replace HA1 := Lib.hid (HA1.out.read hb)
  replace HU3 := Lib.hid (HU3.out.read hb)
  replace HU4 := Lib.hid (HU4.out.read hb)
  replace HU6 := Lib.hid (HU6.out.read hb)
  replace HU7 := Lib.hid (HU7.out.read hb)
  replace HW := Lib.hid (belowOn HW.out (Nat.le_refl _) hb)
  have HS8 := Lib.hid (hb.size)
  have HU9 := Lib.hid hn.at
  obtain ⟨ad109, cap109, rfl⟩ := hn.1.slice
  clear HTO hn hb
  have HF := Lib.hid (eqBindingL_any l0 _ _ w9 HU6.out.listS HU9.out.listS (eachB_of hZl0))
  go_wp2_with fail
  refine HF.out.mono ?_
  rintro e w10 ⟨rfl, hb⟩
  replace HA0 := Lib.hid (HA0.out.read hb)
  replace HA1 := Lib.hid (HA1.out.read hb)
  replace HU3 := Lib.hid (HU3.out.read hb)
  replace HU4 := Lib.hid (HU4.out.read hb)
  replace HU6 := Lib.hid (HU6.out.read hb)
  replace HU7 := Lib.hid (HU7.out.read hb)
  replace HU9 := Lib.hid (HU9.out.read hb)
  replace HW := Lib.hid (belowOn HW.out (Nat.le_refl _) hb)
  have HS9 := Lib.hid (hb.size)
  clear HF hb
  have HTO := Lib.hid (toBindingL_any l1 _ w10 HA1.out.listS hZl1)
  go_wp2_with fail
  refine HTO.out.mono ?_
  rintro e w11 ⟨u11, rfl, hn⟩
  have hb := hn.2
  replace HA0 := Lib.hid (HA0.out.read hb)
  replace HA1 := Lib.hid (HA1.out.read hb)
  replace HU3 := Lib.hid (HU3.out.read hb)
  replace HU4 := Lib.hid (HU4.out.read hb)
  replace HU6 := Lib.hid (HU6.out.read hb)
  replace HU7 := Lib.hid (HU7.out.read hb)
  replace HU9 := Lib.hid (HU9.out.read hb)
  replace HW := Lib.hid (belowOn HW.out (Nat.le_refl _) hb)
  have HS10 := Lib.hid (hb.size)
  have HU11 := Lib.hid hn.at
  obtain ⟨ad111, cap111, rfl⟩ := hn.1.slice
  clear HTO hn hb
  have HF := Lib.hid (eqBindingL_any l1 _ _ w11 HU7.out.listS HU11.out.listS (eachB_of hZl1))
  go_wp2_with fail
  refine HF.out.mono ?_
  rintro e w12 ⟨rfl, hb⟩
  replace HA0 := Lib.hid (HA0.out.read hb)
  replace HA1 := Lib.hid (HA1.out.read hb)
  replace HU3 := Lib.hid (HU3.out.read hb)
  replace HU4 := Lib.hid (HU4.out.read hb)
  replace HU6 := Lib.hid (HU6.out.read hb)
  replace HU7 := Lib.hid (HU7.out.read hb)
  replace HU9 := Lib.hid (HU9.out.read hb)
  replace HU11 := Lib.hid (HU11.out.read hb)
  replace HW := Lib.hid (belowOn HW.out (Nat.le_refl _) hb)
  have HS11 := Lib.hid (hb.size)
  clear HF hb
  go_wp2
  go_ret
  exact ⟨rfl, HW.out⟩
end Go.Proofs.Ytjpkkhhcpcokaaa

