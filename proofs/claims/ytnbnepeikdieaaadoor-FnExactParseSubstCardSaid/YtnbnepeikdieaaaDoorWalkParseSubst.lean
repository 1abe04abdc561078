/-
  The law of ParseSubst, walked: it returns true, and nothing that was there is changed. (Written by wip/tools/mkexact.py over the law's operations.)
-/
import Derived.Test.YtnbnepeikdieaaaDoorParseB
import Derived.Test.YtnbnepeikdieaaaDoorSubsQ
import Derived.Test.YtnbnepeikdieaaaDoorLaws
namespace Go.Proofs.YtnbnepeikdieaaaDoor
open Go.RowKit
set_option linter.unusedVariables false
set_option linter.unusedSimpArgs false

set_option maxRecDepth 100000 in
set_option maxHeartbeats 16000000 in
theorem walkParseSubst (w : World) (ht : TabErrs w) (s0 : ByteArray) (ws0 : s0.size ≤ maxLen) :
    Calls Tryd.prog 4 #[.string s0] w fun e w' => e = .returned (.bool true) ∧ Below w.heap.size w w' := by
  have HW : Hid (Below w.heap.size w w) := Lib.hid (Below.refl _ _)
  have HT := Lib.hid ht
  clear ht
  go_enter Tryd.func4, Tryd.ntmps4
  by_cases hbig : 1048576 < (s0.size : Int)
  · go_wp2
    go_ret
    exact ⟨rfl, HW.out⟩
  have hZs0 : s0.size ≤ 1048576 := by omega
  have HF := Lib.hid (specParseSubst_any s0 w hZs0)
  go_wp2_with fail
  refine HF.out.mono ?_
  rintro e w1 ⟨u1, rfl, hv, hb⟩
  replace HW := Lib.hid (belowOn HW.out (Nat.le_refl _) hb)
  have HS0 := Lib.hid (hb.size)
  have HU1 := Lib.hid (at_list hv)
  obtain ⟨ad101, cap101, rfl⟩ := hv.slice
  clear HF hv hb
  have HF := Lib.hid (implParseSubst_any s0 w1 (tabErrs_after HT.out HW.out) hZs0)
  go_wp2_with fail
  refine HF.out.mono ?_
  rintro e w2 ⟨u2, rfl, hv, hb⟩
  replace HU1 := Lib.hid (HU1.out.read hb)
  replace HW := Lib.hid (belowOn HW.out (Nat.le_refl _) hb)
  have HS1 := Lib.hid (hb.size)
  have HU2 := Lib.hid (at_listO hv (Nat.le_refl _))
  obtain ⟨ad102, cap102, rfl⟩ := hv.slice
  clear HF hv hb
  have HF := Lib.hid (eqBindingL_any (psL s0) _ _ w2 HU2.out.listS HU1.out.listS (ps_each s0))
  go_wp2_with fail
  refine HF.out.mono ?_
  rintro e w3 ⟨rfl, hb⟩
  replace HU1 := Lib.hid (HU1.out.read hb)
  replace HU2 := Lib.hid (HU2.out.read hb)
  replace HW := Lib.hid (belowOn HW.out (Nat.le_refl _) hb)
  have HS2 := Lib.hid (hb.size)
  clear HF hb
  have hnl := (ps_nk s0)
  have HF := Lib.hid (markBindingL_any (psL s0) _ (1) _ _ w3 HU2.out (by omega) (by omega))
  go_wp2_with fail
  refine HF.out.mono ?_
  rintro e w4 ⟨rfl, hat, ho⟩
  have s0 := HS0.out
  have s1 := HS1.out
  have s2 := HS2.out
  replace HU1 := Lib.hid (HU1.out.only ho (by omega))
  replace HW := Lib.hid (HW.out.trans (ho.below (fun k hk => by have := hk.1; omega) (by omega)))
  clear s0 s1 s2
  replace HU2 := Lib.hid hat
  have HS3 := Lib.hid (ho.size)
  clear HF hat ho
  have hnl := (ps_nk s0)
  have HF := Lib.hid (heldBindings_any (psL s0) _ (1) w4 HU2.out.listS (by omega) (by omega))
  go_wp2_with fail
  refine HF.out.mono ?_
  rintro e w5 ⟨rfl, hb⟩
  replace HU1 := Lib.hid (HU1.out.read hb)
  replace HU2 := Lib.hid (HU2.out.read hb)
  replace HW := Lib.hid (belowOn HW.out (Nat.le_refl _) hb)
  have HS4 := Lib.hid (hb.size)
  clear HF hb
  have HF := Lib.hid (implParseSubst_any s0 w5 (tabErrs_after HT.out HW.out) hZs0)
  go_wp2_with fail
  refine HF.out.mono ?_
  rintro e w6 ⟨u6, rfl, hv, hb⟩
  replace HU1 := Lib.hid (HU1.out.read hb)
  replace HU2 := Lib.hid (HU2.out.read hb)
  replace HW := Lib.hid (belowOn HW.out (Nat.le_refl _) hb)
  have HS5 := Lib.hid (hb.size)
  have HU6 := Lib.hid (at_listO hv (Nat.le_refl _))
  obtain ⟨ad106, cap106, rfl⟩ := hv.slice
  clear HF hv hb
  have HF := Lib.hid (eqBindingL_any (psL s0) _ _ w6 HU6.out.listS HU1.out.listS (ps_each s0))
  go_wp2_with fail
  refine HF.out.mono ?_
  rintro e w7 ⟨rfl, hb⟩
  replace HU1 := Lib.hid (HU1.out.read hb)
  replace HU2 := Lib.hid (HU2.out.read hb)
  replace HU6 := Lib.hid (HU6.out.read hb)
  replace HW := Lib.hid (belowOn HW.out (Nat.le_refl _) hb)
  have HS6 := Lib.hid (hb.size)
  clear HF hb
  have hnl := (ps_nk s0)
  have HF := Lib.hid (heldBindings_any (psL s0) _ (1) w7 HU2.out.listS (by omega) (by omega))
  go_wp2_with fail
  refine HF.out.mono ?_
  rintro e w8 ⟨rfl, hb⟩
  replace HU1 := Lib.hid (HU1.out.read hb)
  replace HU2 := Lib.hid (HU2.out.read hb)
  replace HU6 := Lib.hid (HU6.out.read hb)
  replace HW := Lib.hid (belowOn HW.out (Nat.le_refl _) hb)
  have HS7 := Lib.hid (hb.size)
  clear HF hb
  go_wp2
  go_ret
  exact ⟨rfl, HW.out⟩
end Go.Proofs.YtnbnepeikdieaaaDoor

