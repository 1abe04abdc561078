/-
  The law of RefreshMarks, walked: it returns true, and nothing that was there is changed. (Written by wip/tools/mkexact.py over the law's operations.)
-/
import Derived.Test.YtnmdnajbafpfiaaGreatSpecMark3
import Derived.Test.YtnmdnajbafpfiaaGreatDemRfM
import Derived.Test.YtnmdnajbafpfiaaGreatSubsQ
import Derived.Test.YtnmdnajbafpfiaaGreatLaws
namespace Go.Proofs.YtnmdnajbafpfiaaGreat
open Go.RowKit
set_option linter.unusedVariables false
set_option linter.unusedSimpArgs false

set_option maxRecDepth 100000 in
set_option maxHeartbeats 16000000 in
theorem walkRefreshMarks (w : World) (V0 : Value) (l0 : List Bd) (A0 : ListS bdE w Any V0 l0) (f0 : fineB l0) (n0 : l0.length ≤ maxLen) (V1 : Value) (l1 : List Mk) (A1 : ListS mkE w Any V1 l1) (f1 : fineM l1) (n1 : l1.length ≤ maxLen) :
    Calls Tryz.prog 6 #[V0, V1] w fun e w' => e = .returned (.bool true) ∧ Below w.heap.size w w' := by
  obtain ⟨ad0, cap0, rfl⟩ := A0.slice
  have HA0 := Lib.hid (at_list A0)
  clear A0
  obtain ⟨ad1, cap1, rfl⟩ := A1.slice
  have HA1 := Lib.hid (at_list A1)
  clear A1
  have HW : Hid (Below w.heap.size w w) := Lib.hid (Below.refl _ _)
  go_enter Tryz.func6, Tryz.ntmps6
  have HSZ := Lib.hid (szBindingL_any l0 _ 1048576 w HA0.out.listS f0 n0 (by omega) (by omega))
  go_wp2_with fail
  refine HSZ.out.mono ?_
  rintro e w1 ⟨r0, rfl, hr1, hr2, hr, hb⟩
  clear HSZ
  replace HA0 := Lib.hid (HA0.out.read hb)
  replace HA1 := Lib.hid (HA1.out.read hb)
  replace HW := Lib.hid (belowOn HW.out (Nat.le_refl _) hb)
  have HS0 := Lib.hid (hb.size)
  clear hb
  by_cases hneg : r0 < 0
  · clear hr
    go_wp2
    go_ret
    exact ⟨rfl, HW.out⟩
  have hZl0 : szB l0 ≤ 1048576 := by have := hr (by omega); omega
  replace hr1 : 0 ≤ r0 := by omega
  replace hr2 : r0 ≤ 1048576 := by omega
  clear hr hneg
  have h0r0 := hr1
  have h1r0 := hr2
  clear hr1 hr2
  have HSZ := Lib.hid (szMarks_any l1 _ r0 w1 HA1.out.listS f1 n1 (by omega) (by omega))
  go_wp2_with fail
  refine HSZ.out.mono ?_
  rintro e w2 ⟨r1, rfl, hr1, hr2, hr, hb⟩
  clear HSZ
  replace HA0 := Lib.hid (HA0.out.read hb)
  replace HA1 := Lib.hid (HA1.out.read hb)
  replace HW := Lib.hid (belowOn HW.out (Nat.le_refl _) hb)
  have HS1 := Lib.hid (hb.size)
  clear hb
  by_cases hneg : r1 < 0
  · clear hr
    go_wp2
    go_ret
    exact ⟨rfl, HW.out⟩
  have hZl1 : szM l1 ≤ 1048576 := by have := hr (by omega); omega
  replace hr1 : 0 ≤ r1 := by omega
  replace hr2 : r1 ≤ 1048576 := by omega
  clear hr hneg
  have h0r1 := hr1
  have h1r1 := hr2
  clear hr1 hr2
  have HTO := Lib.hid (toBindingL_any l0 _ w2 HA0.out.listS hZl0)
  go_wp2_with fail
  refine HTO.out.mono ?_
  rintro e w3 ⟨u3, rfl, hn⟩
  have hb := hn.2
  replace HA0 := Lib.hid (HA0.out.read hb)
  replace HA1 := Lib.hid (HA1.out.read hb)
  replace HW := Lib.hid (belowOn HW.out (Nat.le_refl _) hb)
  have HS2 := Lib.hid (hb.size)
  have HU3 := Lib.hid hn.at
  obtain ⟨ad103, cap103, rfl⟩ := hn.1.slice
  clear HTO hn hb
  have HTO := Lib.hid (toMarks_any l1 _ w3 HA1.out.listS (Nat.le_trans (szM_len _) hZl1))
  go_wp2_with fail
  refine HTO.out.mono ?_
  rintro e w4 ⟨u4, rfl, hn, hu⟩
  have hb := hn.2
  replace HA0 := Lib.hid (HA0.out.read hb)
  replace HA1 := Lib.hid (HA1.out.read hb)
  replace HU3 := Lib.hid (HU3.out.read hb)
  replace HW := Lib.hid (belowOn HW.out (Nat.le_refl _) hb)
  have HS3 := Lib.hid (hb.size)
  have HCP4 : Hid (CapOk u4 l1.length) := Lib.hid ⟨_, _, _, hu, Nat.le_refl _, by have := (Nat.le_trans (szM_len _) hZl1); omega⟩
  have HU4 := Lib.hid hn.at
  clear hu
  obtain ⟨ad104, cap104, rfl⟩ := hn.1.slice
  clear HTO hn hb
  have HF := Lib.hid (specRefreshMarks_any l0 _ l1 _ w4 HU3.out.listS hZl0 HU4.out.listS f1 (Nat.le_succ_of_le (Nat.le_trans (szM_len _) hZl1)))
  go_wp2_with fail
  refine HF.out.mono ?_
  rintro e w5 ⟨u5, rfl, hv, hb⟩
  replace HA0 := Lib.hid (HA0.out.read hb)
  replace HA1 := Lib.hid (HA1.out.read hb)
  replace HU3 := Lib.hid (HU3.out.read hb)
  replace HU4 := Lib.hid (HU4.out.read hb)
  replace HW := Lib.hid (belowOn HW.out (Nat.le_refl _) hb)
  have HS4 := Lib.hid (hb.size)
  have HU5 := Lib.hid (at_list hv)
  obtain ⟨ad105, cap105, rfl⟩ := hv.slice
  clear HF hv hb
  have HTO := Lib.hid (toBindingL_any l0 _ w5 HA0.out.listS hZl0)
  go_wp2_with fail
  refine HTO.out.mono ?_
  rintro e w6 ⟨u6, rfl, hn⟩
  have hb := hn.2
  replace HA0 := Lib.hid (HA0.out.read hb)
  replace HA1 := Lib.hid (HA1.out.read hb)
  replace HU3 := Lib.hid (HU3.out.read hb)
  replace HU4 := Lib.hid (HU4.out.read hb)
  replace HU5 := Lib.hid (HU5.out.read hb)
  replace HW := Lib.hid (belowOn HW.out (Nat.le_refl _) hb)
  have HS5 := Lib.hid (hb.size)
  have HU6 := Lib.hid hn.at
  obtain ⟨ad106, cap106, rfl⟩ := hn.1.slice
  clear HTO hn hb
  have HTO := Lib.hid (toMarks_any l1 _ w6 HA1.out.listS (Nat.le_trans (szM_len _) hZl1))
  go_wp2_with fail
  refine HTO.out.mono ?_
  rintro e w7 ⟨u7, rfl, hn, hu⟩
  have hb := hn.2
  replace HA0 := Lib.hid (HA0.out.read hb)
  replace HA1 := Lib.hid (HA1.out.read hb)
  replace HU3 := Lib.hid (HU3.out.read hb)
  replace HU4 := Lib.hid (HU4.out.read hb)
  replace HU5 := Lib.hid (HU5.out.read hb)
  replace HU6 := Lib.hid (HU6.out.read hb)
  replace HW := Lib.hid (belowOn HW.out (Nat.le_refl _) hb)
  have HS6 := Lib.hid (hb.size)
  have HCP7 : Hid (CapOk u7 l1.length) := Lib.hid ⟨_, _, _, hu, Nat.le_refl _, by have := (Nat.le_trans (szM_len _) hZl1); omega⟩
  have HU7 := Lib.hid hn.at
  clear hu
  obtain ⟨ad107, cap107, rfl⟩ := hn.1.slice
  clear HTO hn hb
  have HF := Lib.hid (implRefreshMarks_any l0 _ l1 _ w7 HU6.out.listS hZl0 f0 HU7.out.listS HCP7.out f1 (Nat.le_succ_of_le (Nat.le_trans (szM_len _) hZl1)))
  go_wp2_with fail
  refine HF.out.mono ?_
  rintro e w8 ⟨u8, rfl, hv, hb⟩
  replace HA0 := Lib.hid (HA0.out.read hb)
  replace HA1 := Lib.hid (HA1.out.read hb)
  replace HU3 := Lib.hid (HU3.out.read hb)
  replace HU4 := Lib.hid (HU4.out.read hb)
  replace HU5 := Lib.hid (HU5.out.read hb)
  replace HU6 := Lib.hid (HU6.out.read hb)
  replace HU7 := Lib.hid (HU7.out.read hb)
  replace HW := Lib.hid (belowOn HW.out (Nat.le_refl _) hb)
  have HS7 := Lib.hid (hb.size)
  have HU8 := Lib.hid (at_listO hv (Nat.le_refl _))
  obtain ⟨ad108, cap108, rfl⟩ := hv.slice
  clear HF hv hb
  have HF := Lib.hid (eqMarks_any (rmL l0 l1) _ _ w8 HU8.out.listS HU5.out.listS (Nat.le_trans (rm_len l0 l1) (Nat.le_trans (Nat.mul_le_mul_left 5000 (Nat.le_trans (szM_len _) hZl1)) (by decide))))
  go_wp2_with fail
  refine HF.out.mono ?_
  rintro e w9 ⟨rfl, hb⟩
  replace HA0 := Lib.hid (HA0.out.read hb)
  replace HA1 := Lib.hid (HA1.out.read hb)
  replace HU3 := Lib.hid (HU3.out.read hb)
  replace HU4 := Lib.hid (HU4.out.read hb)
  replace HU5 := Lib.hid (HU5.out.read hb)
  replace HU6 := Lib.hid (HU6.out.read hb)
  replace HU7 := Lib.hid (HU7.out.read hb)
  replace HU8 := Lib.hid (HU8.out.read hb)
  replace HW := Lib.hid (belowOn HW.out (Nat.le_refl _) hb)
  have HS8 := Lib.hid (hb.size)
  clear HF hb
  have HTO := Lib.hid (toBindingL_any l0 _ w9 HA0.out.listS hZl0)
  go_wp2_with fail
  refine HTO.out.mono ?_
  rintro e w10 ⟨u10, rfl, hn⟩
  have hb := hn.2
  replace HA0 := Lib.hid (HA0.out.read hb)
  replace HA1 := Lib.hid (HA1.out.read hb)
  replace HU3 := Lib.hid (HU3.out.read hb)
  replace HU4 := Lib.hid (HU4.out.read hb)
  replace HU5 := Lib.hid (HU5.out.read hb)
  replace HU6 := Lib.hid (HU6.out.read hb)
  replace HU7 := Lib.hid (HU7.out.read hb)
  replace HU8 := Lib.hid (HU8.out.read hb)
  replace HW := Lib.hid (belowOn HW.out (Nat.le_refl _) hb)
  have HS9 := Lib.hid (hb.size)
  have HU10 := Lib.hid hn.at
  obtain ⟨ad110, cap110, rfl⟩ := hn.1.slice
  clear HTO hn hb
  have HF := Lib.hid (eqBindingL_any l0 _ _ w10 HU6.out.listS HU10.out.listS (eachB_of hZl0))
  go_wp2_with fail
  refine HF.out.mono ?_
  rintro e w11 ⟨rfl, hb⟩
  replace HA0 := Lib.hid (HA0.out.read hb)
  replace HA1 := Lib.hid (HA1.out.read hb)
  replace HU3 := Lib.hid (HU3.out.read hb)
  replace HU4 := Lib.hid (HU4.out.read hb)
  replace HU5 := Lib.hid (HU5.out.read hb)
  replace HU6 := Lib.hid (HU6.out.read hb)
  replace HU7 := Lib.hid (HU7.out.read hb)
  replace HU8 := Lib.hid (HU8.out.read hb)
  replace HU10 := Lib.hid (HU10.out.read hb)
  replace HW := Lib.hid (belowOn HW.out (Nat.le_refl _) hb)
  have HS10 := Lib.hid (hb.size)
  clear HF hb
  have HTO := Lib.hid (toMarks_any l1 _ w11 HA1.out.listS (Nat.le_trans (szM_len _) hZl1))
  go_wp2_with fail
  refine HTO.out.mono ?_
  rintro e w12 ⟨u12, rfl, hn, hu⟩
  have hb := hn.2
  replace HA0 := Lib.hid (HA0.out.read hb)
  replace HA1 := Lib.hid (HA1.out.read hb)
  replace HU3 := Lib.hid (HU3.out.read hb)
  replace HU4 := Lib.hid (HU4.out.read hb)
  replace HU5 := Lib.hid (HU5.out.read hb)
  replace HU6 := Lib.hid (HU6.out.read hb)
  replace HU7 := Lib.hid (HU7.out.read hb)
  replace HU8 := Lib.hid (HU8.out.read hb)
  replace HU10 := Lib.hid (HU10.out.read hb)
  replace HW := Lib.hid (belowOn HW.out (Nat.le_refl _) hb)
  have HS11 := Lib.hid (hb.size)
  have HCP12 : Hid (CapOk u12 l1.length) := Lib.hid ⟨_, _, _, hu, Nat.le_refl _, by have := (Nat.le_trans (szM_len _) hZl1); omega⟩
  have HU12 := Lib.hid hn.at
  clear hu
  obtain ⟨ad112, cap112, rfl⟩ := hn.1.slice
  clear HTO hn hb
  have HF := Lib.hid (eqMarks_any l1 _ _ w12 HU7.out.listS HU12.out.listS (Nat.le_trans ((Nat.le_trans (szM_len _) hZl1)) (by decide)))
  go_wp2_with fail
  refine HF.out.mono ?_
  rintro e w13 ⟨rfl, hb⟩
  replace HA0 := Lib.hid (HA0.out.read hb)
  replace HA1 := Lib.hid (HA1.out.read hb)
  replace HU3 := Lib.hid (HU3.out.read hb)
  replace HU4 := Lib.hid (HU4.out.read hb)
  replace HU5 := Lib.hid (HU5.out.read hb)
  replace HU6 := Lib.hid (HU6.out.read hb)
  replace HU7 := Lib.hid (HU7.out.read hb)
  replace HU8 := Lib.hid (HU8.out.read hb)
  replace HU10 := Lib.hid (HU10.out.read hb)
  replace HU12 := Lib.hid (HU12.out.read hb)
  replace HW := Lib.hid (belowOn HW.out (Nat.le_refl _) hb)
  have HS12 := Lib.hid (hb.size)
  clear HF hb
  have hnl := (nk_bd hZl0)
  have HF := Lib.hid (markBindingL_any l0 _ (1) _ _ w13 HU6.out (by omega) (by omega))
  go_wp2_with fail
  refine HF.out.mono ?_
  rintro e w14 ⟨rfl, hat, ho⟩
  have s0 := HS0.out
  have s1 := HS1.out
  have s2 := HS2.out
  have s3 := HS3.out
  have s4 := HS4.out
  have s5 := HS5.out
  have s6 := HS6.out
  have s7 := HS7.out
  have s8 := HS8.out
  have s9 := HS9.out
  have s10 := HS10.out
  have s11 := HS11.out
  have s12 := HS12.out
  replace HA0 := Lib.hid (HA0.out.only ho (by omega))
  replace HA1 := Lib.hid (HA1.out.only ho (by omega))
  replace HU3 := Lib.hid (HU3.out.only ho (by omega))
  replace HU4 := Lib.hid (HU4.out.only ho (by omega))
  replace HU5 := Lib.hid (HU5.out.only ho (by omega))
  replace HU7 := Lib.hid (HU7.out.only ho (by omega))
  replace HU8 := Lib.hid (HU8.out.only ho (by omega))
  replace HU10 := Lib.hid (HU10.out.only ho (by omega))
  replace HU12 := Lib.hid (HU12.out.only ho (by omega))
  replace HW := Lib.hid (HW.out.trans (ho.below (fun k hk => by have := hk.1; omega) (by omega)))
  clear s0 s1 s2 s3 s4 s5 s6 s7 s8 s9 s10 s11 s12
  replace HU6 := Lib.hid hat
  have HS13 := Lib.hid (ho.size)
  clear HF hat ho
  have hnl := nkM_bd (Nat.le_trans ((Nat.le_trans (szM_len _) hZl1)) (by decide))
  have HF := Lib.hid (markMarkL_any l1 _ (1 + (nkB l0 : Int)) _ _ w14 HU7.out (by omega) (by omega))
  go_wp2_with fail
  refine HF.out.mono ?_
  rintro e w15 ⟨rfl, hat, ho⟩
  have s0 := HS0.out
  have s1 := HS1.out
  have s2 := HS2.out
  have s3 := HS3.out
  have s4 := HS4.out
  have s5 := HS5.out
  have s6 := HS6.out
  have s7 := HS7.out
  have s8 := HS8.out
  have s9 := HS9.out
  have s10 := HS10.out
  have s11 := HS11.out
  have s12 := HS12.out
  have s13 := HS13.out
  replace HA0 := Lib.hid (HA0.out.only ho (by omega))
  replace HA1 := Lib.hid (HA1.out.only ho (by omega))
  replace HU3 := Lib.hid (HU3.out.only ho (by omega))
  replace HU4 := Lib.hid (HU4.out.only ho (by omega))
  replace HU5 := Lib.hid (HU5.out.only ho (by omega))
  replace HU6 := Lib.hid (HU6.out.only ho (by omega))
  replace HU8 := Lib.hid (HU8.out.only ho (by omega))
  replace HU10 := Lib.hid (HU10.out.only ho (by omega))
  replace HU12 := Lib.hid (HU12.out.only ho (by omega))
  replace HW := Lib.hid (HW.out.trans (ho.below (fun k hk => by have := hk.1; omega) (by omega)))
  clear s0 s1 s2 s3 s4 s5 s6 s7 s8 s9 s10 s11 s12 s13
  replace HU7 := Lib.hid hat
  have HS14 := Lib.hid (ho.size)
  clear HF hat ho
  have HF := Lib.hid (eqMarks_any (rmL l0 l1) _ _ w15 HU8.out.listS HU5.out.listS (Nat.le_trans (rm_len l0 l1) (Nat.le_trans (Nat.mul_le_mul_left 5000 (Nat.le_trans (szM_len _) hZl1)) (by decide))))
  go_wp2_with fail
  refine HF.out.mono ?_
  rintro e w16 ⟨rfl, hb⟩
  replace HA0 := Lib.hid (HA0.out.read hb)
  replace HA1 := Lib.hid (HA1.out.read hb)
  replace HU3 := Lib.hid (HU3.out.read hb)
  replace HU4 := Lib.hid (HU4.out.read hb)
  replace HU5 := Lib.hid (HU5.out.read hb)
  replace HU6 := Lib.hid (HU6.out.read hb)
  replace HU7 := Lib.hid (HU7.out.read hb)
  replace HU8 := Lib.hid (HU8.out.read hb)
  replace HU10 := Lib.hid (HU10.out.read hb)
  replace HU12 := Lib.hid (HU12.out.read hb)
  replace HW := Lib.hid (belowOn HW.out (Nat.le_refl _) hb)
  have HS15 := Lib.hid (hb.size)
  clear HF hb
  have hnl := nkM_bd (Nat.le_trans (rm_len l0 l1) (Nat.le_trans (Nat.mul_le_mul_left 5000 (Nat.le_trans (szM_len _) hZl1)) (by decide)))
  have HF := Lib.hid (markMarkL_any (rmL l0 l1) _ (1) _ _ w16 HU8.out (by omega) (by omega))
  go_wp2_with fail
  refine HF.out.mono ?_
  rintro e w17 ⟨rfl, hat, ho⟩
  have s0 := HS0.out
  have s1 := HS1.out
  have s2 := HS2.out
  have s3 := HS3.out
  have s4 := HS4.out
  have s5 := HS5.out
  have s6 := HS6.out
  have s7 := HS7.out
  have s8 := HS8.out
  have s9 := HS9.out
  have s10 := HS10.out
  have s11 := HS11.out
  have s12 := HS12.out
  have s13 := HS13.out
  have s14 := HS14.out
  have s15 := HS15.out
  replace HA0 := Lib.hid (HA0.out.only ho (by omega))
  replace HA1 := Lib.hid (HA1.out.only ho (by omega))
  replace HU3 := Lib.hid (HU3.out.only ho (by omega))
  replace HU4 := Lib.hid (HU4.out.only ho (by omega))
  replace HU5 := Lib.hid (HU5.out.only ho (by omega))
  replace HU6 := Lib.hid (HU6.out.only ho (by omega))
  replace HU7 := Lib.hid (HU7.out.only ho (by omega))
  replace HU10 := Lib.hid (HU10.out.only ho (by omega))
  replace HU12 := Lib.hid (HU12.out.only ho (by omega))
  replace HW := Lib.hid (HW.out.trans (ho.below (fun k hk => by have := hk.1; omega) (by omega)))
  clear s0 s1 s2 s3 s4 s5 s6 s7 s8 s9 s10 s11 s12 s13 s14 s15
  replace HU8 := Lib.hid hat
  have HS16 := Lib.hid (ho.size)
  clear HF hat ho
  have hnl := nkM_bd (Nat.le_trans (rm_len l0 l1) (Nat.le_trans (Nat.mul_le_mul_left 5000 (Nat.le_trans (szM_len _) hZl1)) (by decide)))
  have HF := Lib.hid (heldMarks_any (rmL l0 l1) _ (1) w17 HU8.out.listS (by omega) (by omega))
  go_wp2_with fail
  refine HF.out.mono ?_
  rintro e w18 ⟨rfl, hb⟩
  replace HA0 := Lib.hid (HA0.out.read hb)
  replace HA1 := Lib.hid (HA1.out.read hb)
  replace HU3 := Lib.hid (HU3.out.read hb)
  replace HU4 := Lib.hid (HU4.out.read hb)
  replace HU5 := Lib.hid (HU5.out.read hb)
  replace HU6 := Lib.hid (HU6.out.read hb)
  replace HU7 := Lib.hid (HU7.out.read hb)
  replace HU8 := Lib.hid (HU8.out.read hb)
  replace HU10 := Lib.hid (HU10.out.read hb)
  replace HU12 := Lib.hid (HU12.out.read hb)
  replace HW := Lib.hid (belowOn HW.out (Nat.le_refl _) hb)
  have HS17 := Lib.hid (hb.size)
  clear HF hb
  have HTO := Lib.hid (toBindingL_any l0 _ w18 HA0.out.listS hZl0)
  go_wp2_with fail
  refine HTO.out.mono ?_
  rintro e w19 ⟨u19, rfl, hn⟩
  have hb := hn.2
  replace HA0 := Lib.hid (HA0.out.read hb)
  replace HA1 := Lib.hid (HA1.out.read hb)
  replace HU3 := Lib.hid (HU3.out.read hb)
  replace HU4 := Lib.hid (HU4.out.read hb)
  replace HU5 := Lib.hid (HU5.out.read hb)
  replace HU6 := Lib.hid (HU6.out.read hb)
  replace HU7 := Lib.hid (HU7.out.read hb)
  replace HU8 := Lib.hid (HU8.out.read hb)
  replace HU10 := Lib.hid (HU10.out.read hb)
  replace HU12 := Lib.hid (HU12.out.read hb)
  replace HW := Lib.hid (belowOn HW.out (Nat.le_refl _) hb)
  have HS18 := Lib.hid (hb.size)
  have HU19 := Lib.hid hn.at
  obtain ⟨ad119, cap119, rfl⟩ := hn.1.slice
  clear HTO hn hb
  have HTO := Lib.hid (toMarks_any l1 _ w19 HA1.out.listS (Nat.le_trans (szM_len _) hZl1))
  go_wp2_with fail
  refine HTO.out.mono ?_
  rintro e w20 ⟨u20, rfl, hn, hu⟩
  have hb := hn.2
  replace HA0 := Lib.hid (HA0.out.read hb)
  replace HA1 := Lib.hid (HA1.out.read hb)
  replace HU3 := Lib.hid (HU3.out.read hb)
  replace HU4 := Lib.hid (HU4.out.read hb)
  replace HU5 := Lib.hid (HU5.out.read hb)
  replace HU6 := Lib.hid (HU6.out.read hb)
  replace HU7 := Lib.hid (HU7.out.read hb)
  replace HU8 := Lib.hid (HU8.out.read hb)
  replace HU10 := Lib.hid (HU10.out.read hb)
  replace HU12 := Lib.hid (HU12.out.read hb)
  replace HU19 := Lib.hid (HU19.out.read hb)
  replace HW := Lib.hid (belowOn HW.out (Nat.le_refl _) hb)
  have HS19 := Lib.hid (hb.size)
  have HCP20 : Hid (CapOk u20 l1.length) := Lib.hid ⟨_, _, _, hu, Nat.le_refl _, by have := (Nat.le_trans (szM_len _) hZl1); omega⟩
  have HU20 := Lib.hid hn.at
  clear hu
  obtain ⟨ad120, cap120, rfl⟩ := hn.1.slice
  clear HTO hn hb
  have HF := Lib.hid (implRefreshMarks_any l0 _ l1 _ w20 HU19.out.listS hZl0 f0 HU20.out.listS HCP20.out f1 (Nat.le_succ_of_le (Nat.le_trans (szM_len _) hZl1)))
  go_wp2_with fail
  refine HF.out.mono ?_
  rintro e w21 ⟨u21, rfl, hv, hb⟩
  replace HA0 := Lib.hid (HA0.out.read hb)
  replace HA1 := Lib.hid (HA1.out.read hb)
  replace HU3 := Lib.hid (HU3.out.read hb)
  replace HU4 := Lib.hid (HU4.out.read hb)
  replace HU5 := Lib.hid (HU5.out.read hb)
  replace HU6 := Lib.hid (HU6.out.read hb)
  replace HU7 := Lib.hid (HU7.out.read hb)
  replace HU8 := Lib.hid (HU8.out.read hb)
  replace HU10 := Lib.hid (HU10.out.read hb)
  replace HU12 := Lib.hid (HU12.out.read hb)
  replace HU19 := Lib.hid (HU19.out.read hb)
  replace HU20 := Lib.hid (HU20.out.read hb)
  replace HW := Lib.hid (belowOn HW.out (Nat.le_refl _) hb)
  have HS20 := Lib.hid (hb.size)
  have HU21 := Lib.hid (at_listO hv (Nat.le_refl _))
  obtain ⟨ad121, cap121, rfl⟩ := hv.slice
  clear HF hv hb
  have HF := Lib.hid (eqMarks_any (rmL l0 l1) _ _ w21 HU21.out.listS HU5.out.listS (Nat.le_trans (rm_len l0 l1) (Nat.le_trans (Nat.mul_le_mul_left 5000 (Nat.le_trans (szM_len _) hZl1)) (by decide))))
  go_wp2_with fail
  refine HF.out.mono ?_
  rintro e w22 ⟨rfl, hb⟩
  replace HA0 := Lib.hid (HA0.out.read hb)
  replace HA1 := Lib.hid (HA1.out.read hb)
  replace HU3 := Lib.hid (HU3.out.read hb)
  replace HU4 := Lib.hid (HU4.out.read hb)
  replace HU5 := Lib.hid (HU5.out.read hb)
  replace HU6 := Lib.hid (HU6.out.read hb)
  replace HU7 := Lib.hid (HU7.out.read hb)
  replace HU8 := Lib.hid (HU8.out.read hb)
  replace HU10 := Lib.hid (HU10.out.read hb)
  replace HU12 := Lib.hid (HU12.out.read hb)
  replace HU19 := Lib.hid (HU19.out.read hb)
  replace HU20 := Lib.hid (HU20.out.read hb)
  replace HU21 := Lib.hid (HU21.out.read hb)
  replace HW := Lib.hid (belowOn HW.out (Nat.le_refl _) hb)
  have HS21 := Lib.hid (hb.size)
  clear HF hb
  have hnl := nkM_bd (Nat.le_trans (rm_len l0 l1) (Nat.le_trans (Nat.mul_le_mul_left 5000 (Nat.le_trans (szM_len _) hZl1)) (by decide)))
  have HF := Lib.hid (heldMarks_any (rmL l0 l1) _ (1) w22 HU8.out.listS (by omega) (by omega))
  go_wp2_with fail
  refine HF.out.mono ?_
  rintro e w23 ⟨rfl, hb⟩
  replace HA0 := Lib.hid (HA0.out.read hb)
  replace HA1 := Lib.hid (HA1.out.read hb)
  replace HU3 := Lib.hid (HU3.out.read hb)
  replace HU4 := Lib.hid (HU4.out.read hb)
  replace HU5 := Lib.hid (HU5.out.read hb)
  replace HU6 := Lib.hid (HU6.out.read hb)
  replace HU7 := Lib.hid (HU7.out.read hb)
  replace HU8 := Lib.hid (HU8.out.read hb)
  replace HU10 := Lib.hid (HU10.out.read hb)
  replace HU12 := Lib.hid (HU12.out.read hb)
  replace HU19 := Lib.hid (HU19.out.read hb)
  replace HU20 := Lib.hid (HU20.out.read hb)
  replace HU21 := Lib.hid (HU21.out.read hb)
  replace HW := Lib.hid (belowOn HW.out (Nat.le_refl _) hb)
  have HS22 := Lib.hid (hb.size)
  clear HF hb
  go_wp2
  go_ret
  exact ⟨rfl, HW.out⟩
end Go.Proofs.YtnmdnajbafpfiaaGreat

