/-
  The law of KindsOk, walked: it returns true, and nothing that was there is changed. (Written by wip/tools/mkexact.py over the law's operations.)
-/
import Derived.Test.YtnmdnajbafpfiaaSpecKinds
import Derived.Test.YtnmdnajbafpfiaaDemOkK
namespace Go.Proofs.Ytnmdnajbafpfiaa
open Go.RowKit
set_option linter.unusedVariables false
set_option linter.unusedSimpArgs false

set_option maxRecDepth 100000 in
set_option maxHeartbeats 16000000 in
theorem walkKindsOk (w : World) (V0 : Value) (l0 : List Kd) (A0 : ListS kdE w Any V0 l0) (n0 : l0.length ≤ maxLen) :
    Calls Try.prog 5 #[V0] w fun e w' => e = .returned (.bool true) ∧ Below w.heap.size w w' := by
  obtain ⟨ad0, cap0, rfl⟩ := A0.slice
  have HA0 := Lib.hid (at_list A0)
  clear A0
  have HW : Hid (Below w.heap.size w w) := Lib.hid (Below.refl _ _)
  go_enter Try.func5, Try.ntmps5
  have HSZ := Lib.hid (szVarKinds_any l0 _ 1048576 w HA0.out.listS n0 (by omega) (by omega))
  go_wp2_with fail
  refine HSZ.out.mono ?_
  rintro e w1 ⟨r0, rfl, hr1, hr2, hr, hb⟩
  clear HSZ
  replace HA0 := Lib.hid (HA0.out.read hb)
  replace HW := Lib.hid (belowOn HW.out (Nat.le_refl _) hb)
  have HS0 := Lib.hid (hb.size)
  clear hb
  by_cases hneg : r0 < 0
  · clear hr
    go_wp2
    go_ret
    exact ⟨rfl, HW.out⟩
  have hZl0 : l0.length ≤ 1048576 := by have := hr (by omega); omega
  replace hr1 : 0 ≤ r0 := by omega
  replace hr2 : r0 ≤ 1048576 := by omega
  clear hr hneg
  have h0r0 := hr1
  have h1r0 := hr2
  clear hr1 hr2
  have HTO := Lib.hid (toVarKinds_any l0 _ w1 HA0.out.listS hZl0)
  go_wp2_with fail
  refine HTO.out.mono ?_
  rintro e w2 ⟨u2, rfl, hn, hu⟩
  have hb := hn.2
  replace HA0 := Lib.hid (HA0.out.read hb)
  replace HW := Lib.hid (belowOn HW.out (Nat.le_refl _) hb)
  have HS1 := Lib.hid (hb.size)
  have HU2 := Lib.hid hn.at
  clear hu
  obtain ⟨ad102, cap102, rfl⟩ := hn.1.slice
  clear HTO hn hb
  have HF := Lib.hid (specKindsOk_any l0 _ w2 HU2.out.listS (Nat.le_succ_of_le hZl0))
  go_wp2_with fail
  refine HF.out.mono ?_
  rintro e w3 ⟨rfl, hb⟩
  replace HA0 := Lib.hid (HA0.out.read hb)
  replace HU2 := Lib.hid (HU2.out.read hb)
  replace HW := Lib.hid (belowOn HW.out (Nat.le_refl _) hb)
  have HS2 := Lib.hid (hb.size)
  clear HF hb
  have HTO := Lib.hid (toVarKinds_any l0 _ w3 HA0.out.listS hZl0)
  go_wp2_with fail
  refine HTO.out.mono ?_
  rintro e w4 ⟨u4, rfl, hn, hu⟩
  have hb := hn.2
  replace HA0 := Lib.hid (HA0.out.read hb)
  replace HU2 := Lib.hid (HU2.out.read hb)
  replace HW := Lib.hid (belowOn HW.out (Nat.le_refl _) hb)
  have HS3 := Lib.hid (hb.size)
  have HU4 := Lib.hid hn.at
  clear hu
  obtain ⟨ad104, cap104, rfl⟩ := hn.1.slice
  clear HTO hn hb
  have HF := Lib.hid (implKindsOk_any l0 _ w4 HU4.out.listS (Nat.le_succ_of_le hZl0))
  go_wp2_with fail
  refine HF.out.mono ?_
  rintro e w5 ⟨rfl, hb⟩
  replace HA0 := Lib.hid (HA0.out.read hb)
  replace HU2 := Lib.hid (HU2.out.read hb)
  replace HU4 := Lib.hid (HU4.out.read hb)
  replace HW := Lib.hid (belowOn HW.out (Nat.le_refl _) hb)
  have HS4 := Lib.hid (hb.size)
  clear HF hb
  have HTO := Lib.hid (toVarKinds_any l0 _ w5 HA0.out.listS hZl0)
  go_wp2_with fail
  refine HTO.out.mono ?_
  rintro e w6 ⟨u6, rfl, hn, hu⟩
  have hb := hn.2
  replace HA0 := Lib.hid (HA0.out.read hb)
  replace HU2 := Lib.hid (HU2.out.read hb)
  replace HU4 := Lib.hid (HU4.out.read hb)
  replace HW := Lib.hid (belowOn HW.out (Nat.le_refl _) hb)
  have HS5 := Lib.hid (hb.size)
  have HU6 := Lib.hid hn.at
  clear hu
  obtain ⟨ad106, cap106, rfl⟩ := hn.1.slice
  clear HTO hn hb
  have HF := Lib.hid (eqVarKinds_any l0 _ _ w6 HU4.out.listS HU6.out.listS (Nat.le_succ_of_le hZl0))
  go_wp2_with fail
  refine HF.out.mono ?_
  rintro e w7 ⟨rfl, hb⟩
  replace HA0 := Lib.hid (HA0.out.read hb)
  replace HU2 := Lib.hid (HU2.out.read hb)
  replace HU4 := Lib.hid (HU4.out.read hb)
  replace HU6 := Lib.hid (HU6.out.read hb)
  replace HW := Lib.hid (belowOn HW.out (Nat.le_refl _) hb)
  have HS6 := Lib.hid (hb.size)
  clear HF hb
  go_wp2
  go_ret
  exact ⟨rfl, HW.out⟩
end Go.Proofs.Ytnmdnajbafpfiaa

