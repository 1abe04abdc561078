/-
  The law of RestrictSubst, walked: it returns true, and nothing that was there is changed. (Written by wip/tools/mkexact.py over the law's operations.)
-/
import Derived.Test.YtnbnepeikdieaaaSpecSubs
import Derived.Test.YtnbnepeikdieaaaImplRestrict
import Derived.Test.YtnbnepeikdieaaaSubsQ
import Derived.Test.YtnbnepeikdieaaaLaws
import Derived.Test.YtnbnepeikdieaaaRowP
import Derived.Test.YtnbnepeikdieaaaToInts
namespace Go.Proofs.Ytnbnepeikdieaaa
open Go.RowKit
set_option linter.unusedVariables false
set_option linter.unusedSimpArgs false

set_option maxRecDepth 100000 in
set_option maxHeartbeats 16000000 in
theorem walkRestrictSubst (w : World) (V0 : Value) (l0 : List Bd) (A0 : ListS bdE w Any V0 l0) (f0 : fineB l0) (n0 : l0.length ≤ maxLen) (ia1 : Option Addr) (n1 ic1 : Nat) (zs1 : List Int) (row1 : IntRow w ia1 n1 ic1 zs1) :
    Calls Try.prog 6 #[V0, .slice ia1 n1 ic1] w fun e w' => e = .returned (.bool true) ∧ Below w.heap.size w w' := by
  obtain ⟨ad0, cap0, rfl⟩ := A0.slice
  have HA0 := Lib.hid (at_list A0)
  clear A0
  obtain ⟨hv, _, hlen, hmx1⟩ := row1.vals
  generalize zs1.take n1 = L1 at hv hlen
  unfold maxLen at hmx1
  have HV1 := Lib.hid hv
  have HLN1 := Lib.hid hlen
  clear hv hlen row1
  have HW : Hid (Below w.heap.size w w) := Lib.hid (Below.refl _ _)
  go_enter Try.func6, Try.ntmps6
  by_cases hbig : 1048576 < (n1 : Int)
  · go_wp2
    go_ret
    exact ⟨rfl, HW.out⟩
  have hlL1 : L1.length ≤ 1048576 := by rw [HLN1.out]; omega
  have HSZ := Lib.hid (szBindingL_any l0 _ 1048576 w HA0.out.listS f0 n0 (by omega) (by omega))
  go_wp2_with fail
  refine HSZ.out.mono ?_
  rintro e w1 ⟨r0, rfl, hr1, hr2, hr, hb⟩
  clear HSZ
  replace HA0 := Lib.hid (HA0.out.read hb)
  replace HW := Lib.hid (belowOn HW.out (Nat.le_refl _) hb)
  have HS0 := Lib.hid (hb.size)
  clear hb
  by_cases hneg : r0 < 0
  · clear hr
    go_wp2
    go_ret
    exact ⟨rfl, HW.out⟩
  have hZl0 : szB l0 ≤ 1048576 := by have := hr (by omega); omega
  replace hr1 : 0 ≤ r0 := by omega
  replace hr2 : r0 ≤ 1048576 := by omega
  clear hr hneg
  have h0r0 := hr1
  have h1r0 := hr2
  clear hr1 hr2
  have HTO := Lib.hid (toBindingL_any l0 _ w1 HA0.out.listS hZl0)
  go_wp2_with fail
  refine HTO.out.mono ?_
  rintro e w2 ⟨u2, rfl, hn⟩
  have hb := hn.2
  replace HA0 := Lib.hid (HA0.out.read hb)
  replace HW := Lib.hid (belowOn HW.out (Nat.le_refl _) hb)
  have HS1 := Lib.hid (hb.size)
  have HU2 := Lib.hid hn.at
  obtain ⟨ad102, cap102, rfl⟩ := hn.1.slice
  clear HTO hn hb
  have HTO := Lib.hid (toInts_any _ L1 w2 (HV1.out.kept HW.out) hlL1)
  go_wp2_with fail
  refine HTO.out.mono ?_
  rintro e w3 ⟨u3, rfl, hrow, hb⟩
  replace HA0 := Lib.hid (HA0.out.read hb)
  replace HU2 := Lib.hid (HU2.out.read hb)
  replace HW := Lib.hid (belowOn HW.out (Nat.le_refl _) hb)
  have HS2 := Lib.hid (hb.size)
  have HU3 := Lib.hid (at_row hrow)
  clear HTO hrow hb
  have HF := Lib.hid (specRestrict_z l0 _ L1 _ w3 HU2.out.listS hZl0 HU3.out.now.1.vals hlL1)
  go_wp2_with fail
  refine HF.out.mono ?_
  rintro e w4 ⟨u4, rfl, hv, hb⟩
  replace HA0 := Lib.hid (HA0.out.read hb)
  replace HU2 := Lib.hid (HU2.out.read hb)
  replace HU3 := Lib.hid (HU3.out.read hb)
  replace HW := Lib.hid (belowOn HW.out (Nat.le_refl _) hb)
  have HS3 := Lib.hid (hb.size)
  have HU4 := Lib.hid (at_list hv)
  obtain ⟨ad104, cap104, rfl⟩ := hv.slice
  clear HF hv hb
  have HTO := Lib.hid (toBindingL_any l0 _ w4 HA0.out.listS hZl0)
  go_wp2_with fail
  refine HTO.out.mono ?_
  rintro e w5 ⟨u5, rfl, hn⟩
  have hb := hn.2
  replace HA0 := Lib.hid (HA0.out.read hb)
  replace HU2 := Lib.hid (HU2.out.read hb)
  replace HU3 := Lib.hid (HU3.out.read hb)
  replace HU4 := Lib.hid (HU4.out.read hb)
  replace HW := Lib.hid (belowOn HW.out (Nat.le_refl _) hb)
  have HS4 := Lib.hid (hb.size)
  have HU5 := Lib.hid hn.at
  obtain ⟨ad105, cap105, rfl⟩ := hn.1.slice
  clear HTO hn hb
  have HTO := Lib.hid (toInts_any _ L1 w5 (HV1.out.kept HW.out) hlL1)
  go_wp2_with fail
  refine HTO.out.mono ?_
  rintro e w6 ⟨u6, rfl, hrow, hb⟩
  replace HA0 := Lib.hid (HA0.out.read hb)
  replace HU2 := Lib.hid (HU2.out.read hb)
  replace HU3 := Lib.hid (HU3.out.read hb)
  replace HU4 := Lib.hid (HU4.out.read hb)
  replace HU5 := Lib.hid (HU5.out.read hb)
  replace HW := Lib.hid (belowOn HW.out (Nat.le_refl _) hb)
  have HS5 := Lib.hid (hb.size)
  have HU6 := Lib.hid (at_row hrow)
  clear HTO hrow hb
  have HF := Lib.hid (implRestrict_any l0 _ L1 _ w6 HU5.out.listS hZl0 f0 HU6.out.now.1.vals hlL1)
  go_wp2_with fail
  refine HF.out.mono ?_
  rintro e w7 ⟨u7, rfl, hv, hb⟩
  replace HA0 := Lib.hid (HA0.out.read hb)
  replace HU2 := Lib.hid (HU2.out.read hb)
  replace HU3 := Lib.hid (HU3.out.read hb)
  replace HU4 := Lib.hid (HU4.out.read hb)
  replace HU5 := Lib.hid (HU5.out.read hb)
  replace HU6 := Lib.hid (HU6.out.read hb)
  replace HW := Lib.hid (belowOn HW.out (Nat.le_refl _) hb)
  have HS6 := Lib.hid (hb.size)
  have HU7 := Lib.hid (at_listO hv (Nat.le_refl _))
  obtain ⟨ad107, cap107, rfl⟩ := hv.slice
  clear HF hv hb
  have HF := Lib.hid (eqBindingL_any (rsB l0 L1) _ _ w7 HU7.out.listS HU4.out.listS (rs_each l0 L1))
  go_wp2_with fail
  refine HF.out.mono ?_
  rintro e w8 ⟨rfl, hb⟩
  replace HA0 := Lib.hid (HA0.out.read hb)
  replace HU2 := Lib.hid (HU2.out.read hb)
  replace HU3 := Lib.hid (HU3.out.read hb)
  replace HU4 := Lib.hid (HU4.out.read hb)
  replace HU5 := Lib.hid (HU5.out.read hb)
  replace HU6 := Lib.hid (HU6.out.read hb)
  replace HU7 := Lib.hid (HU7.out.read hb)
  replace HW := Lib.hid (belowOn HW.out (Nat.le_refl _) hb)
  have HS7 := Lib.hid (hb.size)
  clear HF hb
  have HTO := Lib.hid (toBindingL_any l0 _ w8 HA0.out.listS hZl0)
  go_wp2_with fail
  refine HTO.out.mono ?_
  rintro e w9 ⟨u9, rfl, hn⟩
  have hb := hn.2
  replace HA0 := Lib.hid (HA0.out.read hb)
  replace HU2 := Lib.hid (HU2.out.read hb)
  replace HU3 := Lib.hid (HU3.out.read hb)
  replace HU4 := Lib.hid (HU4.out.read hb)
  replace HU5 := Lib.hid (HU5.out.read hb)
  replace HU6 := Lib.hid (HU6.out.read hb)
  replace HU7 := Lib.hid (HU7.out.read hb)
  replace HW := Lib.hid (belowOn HW.out (Nat.le_refl _) hb)
  have HS8 := Lib.hid (hb.size)
  have HU9 := Lib.hid hn.at
  obtain ⟨ad109, cap109, rfl⟩ := hn.1.slice
  clear HTO hn hb
  have HF := Lib.hid (eqBindingL_any l0 _ _ w9 HU5.out.listS HU9.out.listS (eachB_of hZl0))
  go_wp2_with fail
  refine HF.out.mono ?_
  rintro e w10 ⟨rfl, hb⟩
  replace HA0 := Lib.hid (HA0.out.read hb)
  replace HU2 := Lib.hid (HU2.out.read hb)
  replace HU3 := Lib.hid (HU3.out.read hb)
  replace HU4 := Lib.hid (HU4.out.read hb)
  replace HU5 := Lib.hid (HU5.out.read hb)
  replace HU6 := Lib.hid (HU6.out.read hb)
  replace HU7 := Lib.hid (HU7.out.read hb)
  replace HU9 := Lib.hid (HU9.out.read hb)
  replace HW := Lib.hid (belowOn HW.out (Nat.le_refl _) hb)
  have HS9 := Lib.hid (hb.size)
  clear HF hb
  have HTO := Lib.hid (toInts_any _ L1 w10 (HV1.out.kept HW.out) hlL1)
  go_wp2_with fail
  refine HTO.out.mono ?_
  rintro e w11 ⟨u11, rfl, hrow, hb⟩
  replace HA0 := Lib.hid (HA0.out.read hb)
  replace HU2 := Lib.hid (HU2.out.read hb)
  replace HU3 := Lib.hid (HU3.out.read hb)
  replace HU4 := Lib.hid (HU4.out.read hb)
  replace HU5 := Lib.hid (HU5.out.read hb)
  replace HU6 := Lib.hid (HU6.out.read hb)
  replace HU7 := Lib.hid (HU7.out.read hb)
  replace HU9 := Lib.hid (HU9.out.read hb)
  replace HW := Lib.hid (belowOn HW.out (Nat.le_refl _) hb)
  have HS10 := Lib.hid (hb.size)
  have HU11 := Lib.hid (at_row hrow)
  clear HTO hrow hb
  have HF := Lib.hid (eqInts_eq _ _ _ _ L1 w11 HU6.out.now.1 HU11.out.now.1 (by unfold maxLen; omega))
  go_wp2_with fail
  refine HF.out.mono ?_
  rintro e w12 ⟨rfl, hb⟩
  replace HA0 := Lib.hid (HA0.out.read hb)
  replace HU2 := Lib.hid (HU2.out.read hb)
  replace HU3 := Lib.hid (HU3.out.read hb)
  replace HU4 := Lib.hid (HU4.out.read hb)
  replace HU5 := Lib.hid (HU5.out.read hb)
  replace HU6 := Lib.hid (HU6.out.read hb)
  replace HU7 := Lib.hid (HU7.out.read hb)
  replace HU9 := Lib.hid (HU9.out.read hb)
  replace HU11 := Lib.hid (HU11.out.read hb)
  replace HW := Lib.hid (belowOn HW.out (Nat.le_refl _) hb)
  have HS11 := Lib.hid (hb.size)
  clear HF hb
  have hnl := (nk_bd hZl0)
  have HF := Lib.hid (markBindingL_any l0 _ (1) _ _ w12 HU5.out (by omega) (by omega))
  go_wp2_with fail
  refine HF.out.mono ?_
  rintro e w13 ⟨rfl, hat, ho⟩
  have s0 := HS0.out
  have s1 := HS1.out
  have s2 := HS2.out
  have s3 := HS3.out
  have s4 := HS4.out
  have s5 := HS5.out
  have s6 := HS6.out
  have s7 := HS7.out
  have s8 := HS8.out
  have s9 := HS9.out
  have s10 := HS10.out
  have s11 := HS11.out
  replace HA0 := Lib.hid (HA0.out.only ho (by omega))
  replace HU2 := Lib.hid (HU2.out.only ho (by omega))
  replace HU3 := Lib.hid (HU3.out.only ho (by omega))
  replace HU4 := Lib.hid (HU4.out.only ho (by omega))
  replace HU6 := Lib.hid (HU6.out.only ho (by omega))
  replace HU7 := Lib.hid (HU7.out.only ho (by omega))
  replace HU9 := Lib.hid (HU9.out.only ho (by omega))
  replace HU11 := Lib.hid (HU11.out.only ho (by omega))
  replace HW := Lib.hid (HW.out.trans (ho.below (fun k hk => by have := hk.1; omega) (by omega)))
  clear s0 s1 s2 s3 s4 s5 s6 s7 s8 s9 s10 s11
  replace HU5 := Lib.hid hat
  have HS12 := Lib.hid (ho.size)
  clear HF hat ho
  have HF := Lib.hid (markInts_from _ _ (1 + (nkB l0 : Int)) _ _ L1.length w13 HU6.out (map_len _) (by omega) (by omega))
  go_wp2_with fail
  refine HF.out.mono ?_
  rintro e w14 ⟨rfl, hat, ho⟩
  have s0 := HS0.out
  have s1 := HS1.out
  have s2 := HS2.out
  have s3 := HS3.out
  have s4 := HS4.out
  have s5 := HS5.out
  have s6 := HS6.out
  have s7 := HS7.out
  have s8 := HS8.out
  have s9 := HS9.out
  have s10 := HS10.out
  have s11 := HS11.out
  have s12 := HS12.out
  replace HA0 := Lib.hid (HA0.out.only ho (by omega))
  replace HU2 := Lib.hid (HU2.out.only ho (by omega))
  replace HU3 := Lib.hid (HU3.out.only ho (by omega))
  replace HU4 := Lib.hid (HU4.out.only ho (by omega))
  replace HU5 := Lib.hid (HU5.out.only ho (by omega))
  replace HU7 := Lib.hid (HU7.out.only ho (by omega))
  replace HU9 := Lib.hid (HU9.out.only ho (by omega))
  replace HU11 := Lib.hid (HU11.out.only ho (by omega))
  replace HW := Lib.hid (HW.out.trans (ho.below (fun k hk => by have := hk.1; omega) (by omega)))
  clear s0 s1 s2 s3 s4 s5 s6 s7 s8 s9 s10 s11 s12
  replace HU6 := Lib.hid hat
  have HS13 := Lib.hid (ho.size)
  clear HF hat ho
  have HF := Lib.hid (eqBindingL_any (rsB l0 L1) _ _ w14 HU7.out.listS HU4.out.listS (rs_each l0 L1))
  go_wp2_with fail
  refine HF.out.mono ?_
  rintro e w15 ⟨rfl, hb⟩
  replace HA0 := Lib.hid (HA0.out.read hb)
  replace HU2 := Lib.hid (HU2.out.read hb)
  replace HU3 := Lib.hid (HU3.out.read hb)
  replace HU4 := Lib.hid (HU4.out.read hb)
  replace HU5 := Lib.hid (HU5.out.read hb)
  replace HU6 := Lib.hid (HU6.out.read hb)
  replace HU7 := Lib.hid (HU7.out.read hb)
  replace HU9 := Lib.hid (HU9.out.read hb)
  replace HU11 := Lib.hid (HU11.out.read hb)
  replace HW := Lib.hid (belowOn HW.out (Nat.le_refl _) hb)
  have HS14 := Lib.hid (hb.size)
  clear HF hb
  have hnl := (rs_nk l0 L1)
  have HF := Lib.hid (markBindingL_any (rsB l0 L1) _ (1) _ _ w15 HU7.out (by omega) (by omega))
  go_wp2_with fail
  refine HF.out.mono ?_
  rintro e w16 ⟨rfl, hat, ho⟩
  have s0 := HS0.out
  have s1 := HS1.out
  have s2 := HS2.out
  have s3 := HS3.out
  have s4 := HS4.out
  have s5 := HS5.out
  have s6 := HS6.out
  have s7 := HS7.out
  have s8 := HS8.out
  have s9 := HS9.out
  have s10 := HS10.out
  have s11 := HS11.out
  have s12 := HS12.out
  have s13 := HS13.out
  have s14 := HS14.out
  replace HA0 := Lib.hid (HA0.out.only ho (by omega))
  replace HU2 := Lib.hid (HU2.out.only ho (by omega))
  replace HU3 := Lib.hid (HU3.out.only ho (by omega))
  replace HU4 := Lib.hid (HU4.out.only ho (by omega))
  replace HU5 := Lib.hid (HU5.out.only ho (by omega))
  replace HU6 := Lib.hid (HU6.out.only ho (by omega))
  replace HU9 := Lib.hid (HU9.out.only ho (by omega))
  replace HU11 := Lib.hid (HU11.out.only ho (by omega))
  replace HW := Lib.hid (HW.out.trans (ho.below (fun k hk => by have := hk.1; omega) (by omega)))
  clear s0 s1 s2 s3 s4 s5 s6 s7 s8 s9 s10 s11 s12 s13 s14
  replace HU7 := Lib.hid hat
  have HS15 := Lib.hid (ho.size)
  clear HF hat ho
  have hnl := (rs_nk l0 L1)
  have HF := Lib.hid (heldBindings_any (rsB l0 L1) _ (1) w16 HU7.out.listS (by omega) (by omega))
  go_wp2_with fail
  refine HF.out.mono ?_
  rintro e w17 ⟨rfl, hb⟩
  replace HA0 := Lib.hid (HA0.out.read hb)
  replace HU2 := Lib.hid (HU2.out.read hb)
  replace HU3 := Lib.hid (HU3.out.read hb)
  replace HU4 := Lib.hid (HU4.out.read hb)
  replace HU5 := Lib.hid (HU5.out.read hb)
  replace HU6 := Lib.hid (HU6.out.read hb)
  replace HU7 := Lib.hid (HU7.out.read hb)
  replace HU9 := Lib.hid (HU9.out.read hb)
  replace HU11 := Lib.hid (HU11.out.read hb)
  replace HW := Lib.hid (belowOn HW.out (Nat.le_refl _) hb)
  have HS16 := Lib.hid (hb.size)
  clear HF hb
  have HTO := Lib.hid (toBindingL_any l0 _ w17 HA0.out.listS hZl0)
  go_wp2_with fail
  refine HTO.out.mono ?_
  rintro e w18 ⟨u18, rfl, hn⟩
  have hb := hn.2
  replace HA0 := Lib.hid (HA0.out.read hb)
  replace HU2 := Lib.hid (HU2.out.read hb)
  replace HU3 := Lib.hid (HU3.out.read hb)
  replace HU4 := Lib.hid (HU4.out.read hb)
  replace HU5 := Lib.hid (HU5.out.read hb)
  replace HU6 := Lib.hid (HU6.out.read hb)
  replace HU7 := Lib.hid (HU7.out.read hb)
  replace HU9 := Lib.hid (HU9.out.read hb)
  replace HU11 := Lib.hid (HU11.out.read hb)
  replace HW := Lib.hid (belowOn HW.out (Nat.le_refl _) hb)
  have HS17 := Lib.hid (hb.size)
  have HU18 := Lib.hid hn.at
  obtain ⟨ad118, cap118, rfl⟩ := hn.1.slice
  clear HTO hn hb
  have HTO := Lib.hid (toInts_any _ L1 w18 (HV1.out.kept HW.out) hlL1)
  go_wp2_with fail
  refine HTO.out.mono ?_
  rintro e w19 ⟨u19, rfl, hrow, hb⟩
  replace HA0 := Lib.hid (HA0.out.read hb)
  replace HU2 := Lib.hid (HU2.out.read hb)
  replace HU3 := Lib.hid (HU3.out.read hb)
  replace HU4 := Lib.hid (HU4.out.read hb)
  replace HU5 := Lib.hid (HU5.out.read hb)
  replace HU6 := Lib.hid (HU6.out.read hb)
  replace HU7 := Lib.hid (HU7.out.read hb)
  replace HU9 := Lib.hid (HU9.out.read hb)
  replace HU11 := Lib.hid (HU11.out.read hb)
  replace HU18 := Lib.hid (HU18.out.read hb)
  replace HW := Lib.hid (belowOn HW.out (Nat.le_refl _) hb)
  have HS18 := Lib.hid (hb.size)
  have HU19 := Lib.hid (at_row hrow)
  clear HTO hrow hb
  have HF := Lib.hid (implRestrict_any l0 _ L1 _ w19 HU18.out.listS hZl0 f0 HU19.out.now.1.vals hlL1)
  go_wp2_with fail
  refine HF.out.mono ?_
  rintro e w20 ⟨u20, rfl, hv, hb⟩
  replace HA0 := Lib.hid (HA0.out.read hb)
  replace HU2 := Lib.hid (HU2.out.read hb)
  replace HU3 := Lib.hid (HU3.out.read hb)
  replace HU4 := Lib.hid (HU4.out.read hb)
  replace HU5 := Lib.hid (HU5.out.read hb)
  replace HU6 := Lib.hid (HU6.out.read hb)
  replace HU7 := Lib.hid (HU7.out.read hb)
  replace HU9 := Lib.hid (HU9.out.read hb)
  replace HU11 := Lib.hid (HU11.out.read hb)
  replace HU18 := Lib.hid (HU18.out.read hb)
  replace HU19 := Lib.hid (HU19.out.read hb)
  replace HW := Lib.hid (belowOn HW.out (Nat.le_refl _) hb)
  have HS19 := Lib.hid (hb.size)
  have HU20 := Lib.hid (at_listO hv (Nat.le_refl _))
  obtain ⟨ad120, cap120, rfl⟩ := hv.slice
  clear HF hv hb
  have HF := Lib.hid (eqBindingL_any (rsB l0 L1) _ _ w20 HU20.out.listS HU4.out.listS (rs_each l0 L1))
  go_wp2_with fail
  refine HF.out.mono ?_
  rintro e w21 ⟨rfl, hb⟩
  replace HA0 := Lib.hid (HA0.out.read hb)
  replace HU2 := Lib.hid (HU2.out.read hb)
  replace HU3 := Lib.hid (HU3.out.read hb)
  replace HU4 := Lib.hid (HU4.out.read hb)
  replace HU5 := Lib.hid (HU5.out.read hb)
  replace HU6 := Lib.hid (HU6.out.read hb)
  replace HU7 := Lib.hid (HU7.out.read hb)
  replace HU9 := Lib.hid (HU9.out.read hb)
  replace HU11 := Lib.hid (HU11.out.read hb)
  replace HU18 := Lib.hid (HU18.out.read hb)
  replace HU19 := Lib.hid (HU19.out.read hb)
  replace HU20 := Lib.hid (HU20.out.read hb)
  replace HW := Lib.hid (belowOn HW.out (Nat.le_refl _) hb)
  have HS20 := Lib.hid (hb.size)
  clear HF hb
  have hnl := (rs_nk l0 L1)
  have HF := Lib.hid (heldBindings_any (rsB l0 L1) _ (1) w21 HU7.out.listS (by omega) (by omega))
  go_wp2_with fail
  refine HF.out.mono ?_
  rintro e w22 ⟨rfl, hb⟩
  replace HA0 := Lib.hid (HA0.out.read hb)
  replace HU2 := Lib.hid (HU2.out.read hb)
  replace HU3 := Lib.hid (HU3.out.read hb)
  replace HU4 := Lib.hid (HU4.out.read hb)
  replace HU5 := Lib.hid (HU5.out.read hb)
  replace HU6 := Lib.hid (HU6.out.read hb)
  replace HU7 := Lib.hid (HU7.out.read hb)
  replace HU9 := Lib.hid (HU9.out.read hb)
  replace HU11 := Lib.hid (HU11.out.read hb)
  replace HU18 := Lib.hid (HU18.out.read hb)
  replace HU19 := Lib.hid (HU19.out.read hb)
  replace HU20 := Lib.hid (HU20.out.read hb)
  replace HW := Lib.hid (belowOn HW.out (Nat.le_refl _) hb)
  have HS21 := Lib.hid (hb.size)
  clear HF hb
  go_wp2
  go_ret
  exact ⟨rfl, HW.out⟩
end Go.Proofs.Ytnbnepeikdieaaa

