/-
  The law of ParseTerm, walked: it returns true, and nothing that was there is changed. (Written by wip/tools/mkexact.py over the law's operations.)
-/
import Derived.Test.YtokndpmoamjbfaaDoorParseTerm
import Derived.Test.YtokndpmoamjbfaaDoorLaws
namespace Go.Proofs.YtokndpmoamjbfaaDoor
open Go.RowKit
set_option linter.unusedVariables false
set_option linter.unusedSimpArgs false

set_option maxRecDepth 100000 in
set_option maxHeartbeats 16000000 in
theorem walkParseTerm (w : World) (ht : TabErrs w) (s0 : ByteArray) (ws0 : s0.size ≤ maxLen) :
    Calls Tryd.prog 5 #[.string s0] w fun e w' => e = .returned (.bool true) ∧ Below w.heap.size w w' := by
  have HW : Hid (Below w.heap.size w w) := Lib.hid (Below.refl _ _)
  have HT := Lib.hid ht
  clear ht
  go_enter Tryd.func5, Tryd.ntmps5
  by_cases hbig : 1048576 < (s0.size : Int)
  · go_wp2
    go_ret
    exact ⟨rfl, HW.out⟩
  have hZs0 : s0.size ≤ 1048576 := by omega
  have HF := Lib.hid (specParseTerm_any s0 w hZs0)
  go_wp2_with fail
  refine HF.out.mono ?_
  rintro e w1 ⟨u1, rfl, hv, hb⟩
  replace HW := Lib.hid (belowOn HW.out (Nat.le_refl _) hb)
  have HS0 := Lib.hid (hb.size)
  have HU1 := Lib.hid (at_args hv)
  obtain ⟨ad101, cap101, rfl⟩ := hv.slice
  clear HF hv hb
  have hal : Below w1.heap.size w1 (w1.alloc (.cells #[.int .i64 (p1T s0).kind, .int .i64 (p1T s0).num, .string (p1T s0).name, .slice ad101 (p1T s0).args.length cap101] 26)) := (Below.refl _ _).alloc (Nat.le_refl _) _
  replace HU1 := Lib.hid (HU1.out.read hal)
  replace HW := Lib.hid (belowOn HW.out (Nat.le_refl _) hal)
  have HB3 := Lib.hid (at_box_of w1 #[.int .i64 (p1T s0).kind, .int .i64 (p1T s0).num, .string (p1T s0).name, .slice ad101 (p1T s0).args.length cap101] 26 (w1.heap.size) (by simp))
  have HS1 := Lib.hid (show (w1.alloc (.cells #[.int .i64 (p1T s0).kind, .int .i64 (p1T s0).num, .string (p1T s0).name, .slice ad101 (p1T s0).args.length cap101] 26)).heap.size = w1.heap.size + 1 by simp)
  clear hal
  have HF := Lib.hid (implParseTerm_any s0 (w1.alloc (.cells #[.int .i64 (p1T s0).kind, .int .i64 (p1T s0).num, .string (p1T s0).name, .slice ad101 (p1T s0).args.length cap101] 26)) (tabErrs_after HT.out HW.out) hZs0)
  go_wp2_with fail
  refine HF.out.mono ?_
  rintro e w2 ⟨u2, rfl, hn⟩
  have hb := hn.2
  have hv := hn.1
  replace HU1 := Lib.hid (HU1.out.read hb)
  replace HB3 := Lib.hid (HB3.out.read hb)
  replace HW := Lib.hid (belowOn HW.out (Nat.le_refl _) hb)
  have HS2 := Lib.hid (hb.size)
  have HU2 := Lib.hid (at_own hv (Nat.le_refl _))
  obtain ⟨ad102, cap102, rfl⟩ := hv.argsAt.slice
  clear HF hv hb hn
  have hal : Below w2.heap.size w2 (w2.alloc (.cells #[.int .i64 (p1T s0).kind, .int .i64 (p1T s0).num, .string (p1T s0).name, .slice ad102 (p1T s0).args.length cap102] 26)) := (Below.refl _ _).alloc (Nat.le_refl _) _
  replace HU1 := Lib.hid (HU1.out.read hal)
  replace HB3 := Lib.hid (HB3.out.read hal)
  replace HU2 := Lib.hid (HU2.out.read hal)
  replace HW := Lib.hid (belowOn HW.out (Nat.le_refl _) hal)
  have HB5 := Lib.hid (at_box_of w2 #[.int .i64 (p1T s0).kind, .int .i64 (p1T s0).num, .string (p1T s0).name, .slice ad102 (p1T s0).args.length cap102] 26 (w2.heap.size) (by simp))
  have HS3 := Lib.hid (show (w2.alloc (.cells #[.int .i64 (p1T s0).kind, .int .i64 (p1T s0).num, .string (p1T s0).name, .slice ad102 (p1T s0).args.length cap102] 26)).heap.size = w2.heap.size + 1 by simp)
  clear hal
  obtain ⟨c0a, c0b, c0c, c0d⟩ := HB5.out.cells
  have z0 := HB5.out.le
  obtain ⟨c1a, c1b, c1c, c1d⟩ := HB3.out.cells
  have z1 := HB3.out.le
  have HF := Lib.hid (eqTerm_any (p1T s0) _ _ (w2.alloc (.cells #[.int .i64 (p1T s0).kind, .int .i64 (p1T s0).num, .string (p1T s0).name, .slice ad102 (p1T s0).args.length cap102] 26)) HU2.out.argsAt HU1.out.argsAt (p1_sz s0))
  go_wp2_with fail
  refine HF.out.mono ?_
  rintro e w3 ⟨rfl, hb⟩
  clear c0a c0b c0c c0d z0 c1a c1b c1c c1d z1
  replace HU1 := Lib.hid (HU1.out.read hb)
  replace HB3 := Lib.hid (HB3.out.read hb)
  replace HU2 := Lib.hid (HU2.out.read hb)
  replace HB5 := Lib.hid (HB5.out.read hb)
  replace HW := Lib.hid (belowOn HW.out (Nat.le_refl _) hb)
  have HS4 := Lib.hid (hb.size)
  clear HF hb
  obtain ⟨c0a, c0b, c0c, c0d⟩ := HB5.out.cells
  have z0 := HB5.out.le
  have hnl := nl_bd (p1_sz s0)
  have HF := Lib.hid (markTerm_any (p1T s0).kind (p1T s0).num (p1T s0).name (p1T s0).args _ (1) _ _ w3 HU2.out (by omega) (by omega))
  go_wp2_with fail
  refine HF.out.mono ?_
  rintro e w4 ⟨rfl, hat, ho⟩
  clear c0a c0b c0c c0d z0
  have s0 := HS0.out
  have s1 := HS1.out
  have s2 := HS2.out
  have s3 := HS3.out
  have s4 := HS4.out
  replace HU1 := Lib.hid (HU1.out.only ho (by omega))
  replace HB3 := Lib.hid (HB3.out.only ho (by omega))
  replace HB5 := Lib.hid (HB5.out.only ho (by omega))
  replace HW := Lib.hid (HW.out.trans (ho.below (fun k hk => by have := hk.1; omega) (by omega)))
  clear s0 s1 s2 s3 s4
  replace HU2 := Lib.hid hat
  have HS5 := Lib.hid (ho.size)
  clear HF hat ho
  obtain ⟨c0a, c0b, c0c, c0d⟩ := HB5.out.cells
  have z0 := HB5.out.le
  have hnl := nl_bd (p1_sz s0)
  have HF := Lib.hid (heldTerm_any (p1T s0).kind (p1T s0).num (p1T s0).name (p1T s0).args _ (1) w4 HU2.out.argsAt (by omega) (by omega))
  go_wp2_with fail
  refine HF.out.mono ?_
  rintro e w5 ⟨rfl, hb⟩
  clear c0a c0b c0c c0d z0
  replace HU1 := Lib.hid (HU1.out.read hb)
  replace HB3 := Lib.hid (HB3.out.read hb)
  replace HU2 := Lib.hid (HU2.out.read hb)
  replace HB5 := Lib.hid (HB5.out.read hb)
  replace HW := Lib.hid (belowOn HW.out (Nat.le_refl _) hb)
  have HS6 := Lib.hid (hb.size)
  clear HF hb
  have HF := Lib.hid (implParseTerm_any s0 w5 (tabErrs_after HT.out HW.out) hZs0)
  go_wp2_with fail
  refine HF.out.mono ?_
  rintro e w6 ⟨u6, rfl, hn⟩
  have hb := hn.2
  have hv := hn.1
  replace HU1 := Lib.hid (HU1.out.read hb)
  replace HB3 := Lib.hid (HB3.out.read hb)
  replace HU2 := Lib.hid (HU2.out.read hb)
  replace HB5 := Lib.hid (HB5.out.read hb)
  replace HW := Lib.hid (belowOn HW.out (Nat.le_refl _) hb)
  have HS7 := Lib.hid (hb.size)
  have HU6 := Lib.hid (at_own hv (Nat.le_refl _))
  obtain ⟨ad106, cap106, rfl⟩ := hv.argsAt.slice
  clear HF hv hb hn
  have hal : Below w6.heap.size w6 (w6.alloc (.cells #[.int .i64 (p1T s0).kind, .int .i64 (p1T s0).num, .string (p1T s0).name, .slice ad106 (p1T s0).args.length cap106] 26)) := (Below.refl _ _).alloc (Nat.le_refl _) _
  replace HU1 := Lib.hid (HU1.out.read hal)
  replace HB3 := Lib.hid (HB3.out.read hal)
  replace HU2 := Lib.hid (HU2.out.read hal)
  replace HB5 := Lib.hid (HB5.out.read hal)
  replace HU6 := Lib.hid (HU6.out.read hal)
  replace HW := Lib.hid (belowOn HW.out (Nat.le_refl _) hal)
  have HB9 := Lib.hid (at_box_of w6 #[.int .i64 (p1T s0).kind, .int .i64 (p1T s0).num, .string (p1T s0).name, .slice ad106 (p1T s0).args.length cap106] 26 (w6.heap.size) (by simp))
  have HS8 := Lib.hid (show (w6.alloc (.cells #[.int .i64 (p1T s0).kind, .int .i64 (p1T s0).num, .string (p1T s0).name, .slice ad106 (p1T s0).args.length cap106] 26)).heap.size = w6.heap.size + 1 by simp)
  clear hal
  obtain ⟨c0a, c0b, c0c, c0d⟩ := HB9.out.cells
  have z0 := HB9.out.le
  obtain ⟨c1a, c1b, c1c, c1d⟩ := HB3.out.cells
  have z1 := HB3.out.le
  have HF := Lib.hid (eqTerm_any (p1T s0) _ _ (w6.alloc (.cells #[.int .i64 (p1T s0).kind, .int .i64 (p1T s0).num, .string (p1T s0).name, .slice ad106 (p1T s0).args.length cap106] 26)) HU6.out.argsAt HU1.out.argsAt (p1_sz s0))
  go_wp2_with fail
  refine HF.out.mono ?_
  rintro e w7 ⟨rfl, hb⟩
  clear c0a c0b c0c c0d z0 c1a c1b c1c c1d z1
  replace HU1 := Lib.hid (HU1.out.read hb)
  replace HB3 := Lib.hid (HB3.out.read hb)
  replace HU2 := Lib.hid (HU2.out.read hb)
  replace HB5 := Lib.hid (HB5.out.read hb)
  replace HU6 := Lib.hid (HU6.out.read hb)
  replace HB9 := Lib.hid (HB9.out.read hb)
  replace HW := Lib.hid (belowOn HW.out (Nat.le_refl _) hb)
  have HS9 := Lib.hid (hb.size)
  clear HF hb
  obtain ⟨c0a, c0b, c0c, c0d⟩ := HB5.out.cells
  have z0 := HB5.out.le
  have hnl := nl_bd (p1_sz s0)
  have HF := Lib.hid (heldTerm_any (p1T s0).kind (p1T s0).num (p1T s0).name (p1T s0).args _ (1) w7 HU2.out.argsAt (by omega) (by omega))
  go_wp2_with fail
  refine HF.out.mono ?_
  rintro e w8 ⟨rfl, hb⟩
  clear c0a c0b c0c c0d z0
  replace HU1 := Lib.hid (HU1.out.read hb)
  replace HB3 := Lib.hid (HB3.out.read hb)
  replace HU2 := Lib.hid (HU2.out.read hb)
  replace HB5 := Lib.hid (HB5.out.read hb)
  replace HU6 := Lib.hid (HU6.out.read hb)
  replace HB9 := Lib.hid (HB9.out.read hb)
  replace HW := Lib.hid (belowOn HW.out (Nat.le_refl _) hb)
  have HS10 := Lib.hid (hb.size)
  clear HF hb
  go_wp2
  go_ret
  exact ⟨rfl, HW.out⟩
end Go.Proofs.YtokndpmoamjbfaaDoor

