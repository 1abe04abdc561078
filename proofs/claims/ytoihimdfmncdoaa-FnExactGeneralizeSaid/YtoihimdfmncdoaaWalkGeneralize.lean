/-
  The law of Generalize, walked: it returns true, and nothing that was there is changed. (Written by wip/tools/mkexact.py over the law's operations.)
-/
import Derived.Test.YtoihimdfmncdoaaImplGz
import Derived.Test.YtoihimdfmncdoaaSpecGenC
import Derived.Test.YtoihimdfmncdoaaLaws
namespace Go.Proofs.Ytoihimdfmncdoaa
open Go.RowKit
set_option linter.unusedVariables false
set_option linter.unusedSimpArgs false

set_option maxRecDepth 100000 in
set_option maxHeartbeats 16000000 in
theorem walkGeneralize (w : World) (V0 : Value) (l0 : List Tm) (A0 : ArgsAt w V0 l0) (f0 : fineL l0) (n0 : l0.length ≤ maxLen) :
    Calls Try.prog 4 #[V0] w fun e w' => e = .returned (.bool true) ∧ Below w.heap.size w w' := by
  obtain ⟨ad0, cap0, rfl⟩ := A0.slice
  have HA0 := Lib.hid (at_args A0)
  clear A0
  have HW : Hid (Below w.heap.size w w) := Lib.hid (Below.refl _ _)
  go_enter Try.func4, Try.ntmps4
  have HSZ := Lib.hid (szTermL_any l0 _ 1048576 w HA0.out.argsAt f0 n0 (by omega) (by omega))
  go_wp2_with fail
  refine HSZ.out.mono ?_
  rintro e w1 ⟨r0, rfl, hr1, hr2, hr, hb⟩
  clear HSZ
  replace HA0 := Lib.hid (HA0.out.read hb)
  replace HW := Lib.hid (belowOn HW.out (Nat.le_refl _) hb)
  have HS0 := Lib.hid (hb.size)
  clear hb
  by_cases hneg : r0 < 0
  · clear hr
    go_wp2
    go_ret
    exact ⟨rfl, HW.out⟩
  have hZl0 : szL l0 ≤ 1048576 := by have := hr (by omega); omega
  replace hr1 : 0 ≤ r0 := by omega
  replace hr2 : r0 ≤ 1048576 := by omega
  clear hr hneg
  have h0r0 := hr1
  have h1r0 := hr2
  clear hr1 hr2
  have HTO := Lib.hid (toTermL_any l0 _ w1 HA0.out.argsAt hZl0)
  go_wp2_with fail
  refine HTO.out.mono ?_
  rintro e w2 ⟨u2, rfl, hn⟩
  have hb := hn.2
  replace HA0 := Lib.hid (HA0.out.read hb)
  replace HW := Lib.hid (belowOn HW.out (Nat.le_refl _) hb)
  have HS1 := Lib.hid (hb.size)
  have HU2 := Lib.hid hn.at
  obtain ⟨ad102, cap102, rfl⟩ := hn.1.argsAt.slice
  clear HTO hn hb
  have HF := Lib.hid (specGeneralize_any l0 _ w2 HU2.out.argsAt hZl0)
  go_wp2_with fail
  refine HF.out.mono ?_
  rintro e w3 ⟨u3, rfl, hv, hb⟩
  replace HA0 := Lib.hid (HA0.out.read hb)
  replace HU2 := Lib.hid (HU2.out.read hb)
  replace HW := Lib.hid (belowOn HW.out (Nat.le_refl _) hb)
  have HS2 := Lib.hid (hb.size)
  have HU3 := Lib.hid (at_args hv.at)
  obtain ⟨ad103, cap103, rfl⟩ := hv.at.slice
  clear HF hv hb
  have hal : Below w3.heap.size w3 (w3.alloc (.cells #[.int .i64 (gzT l0).kind, .int .i64 (gzT l0).num, .string (gzT l0).name, .slice ad103 (gzT l0).args.length cap103] 25)) := (Below.refl _ _).alloc (Nat.le_refl _) _
  replace HA0 := Lib.hid (HA0.out.read hal)
  replace HU2 := Lib.hid (HU2.out.read hal)
  replace HU3 := Lib.hid (HU3.out.read hal)
  replace HW := Lib.hid (belowOn HW.out (Nat.le_refl _) hal)
  have HB4 := Lib.hid (at_box_of w3 #[.int .i64 (gzT l0).kind, .int .i64 (gzT l0).num, .string (gzT l0).name, .slice ad103 (gzT l0).args.length cap103] 25 (w3.heap.size) (by simp))
  have HS3 := Lib.hid (show (w3.alloc (.cells #[.int .i64 (gzT l0).kind, .int .i64 (gzT l0).num, .string (gzT l0).name, .slice ad103 (gzT l0).args.length cap103] 25)).heap.size = w3.heap.size + 1 by simp)
  clear hal
  have HTO := Lib.hid (toTermL_any l0 _ (w3.alloc (.cells #[.int .i64 (gzT l0).kind, .int .i64 (gzT l0).num, .string (gzT l0).name, .slice ad103 (gzT l0).args.length cap103] 25)) HA0.out.argsAt hZl0)
  go_wp2_with fail
  refine HTO.out.mono ?_
  rintro e w4 ⟨u4, rfl, hn⟩
  have hb := hn.2
  replace HA0 := Lib.hid (HA0.out.read hb)
  replace HU2 := Lib.hid (HU2.out.read hb)
  replace HU3 := Lib.hid (HU3.out.read hb)
  replace HB4 := Lib.hid (HB4.out.read hb)
  replace HW := Lib.hid (belowOn HW.out (Nat.le_refl _) hb)
  have HS4 := Lib.hid (hb.size)
  have HU4 := Lib.hid hn.at
  obtain ⟨ad104, cap104, rfl⟩ := hn.1.argsAt.slice
  clear HTO hn hb
  have HF := Lib.hid (implGeneralize_any l0 _ w4 HU4.out.argsAt hZl0)
  go_wp2_with fail
  refine HF.out.mono ?_
  rintro e w5 ⟨u5, rfl, hn⟩
  have hb := hn.2
  have hv := hn.1
  replace HA0 := Lib.hid (HA0.out.read hb)
  replace HU2 := Lib.hid (HU2.out.read hb)
  replace HU3 := Lib.hid (HU3.out.read hb)
  replace HB4 := Lib.hid (HB4.out.read hb)
  replace HU4 := Lib.hid (HU4.out.read hb)
  replace HW := Lib.hid (belowOn HW.out (Nat.le_refl _) hb)
  have HS5 := Lib.hid (hb.size)
  have HU5 := Lib.hid (at_own hv (Nat.le_refl _))
  obtain ⟨ad105, cap105, rfl⟩ := hv.argsAt.slice
  clear HF hv hb hn
  have hal : Below w5.heap.size w5 (w5.alloc (.cells #[.int .i64 (gzT l0).kind, .int .i64 (gzT l0).num, .string (gzT l0).name, .slice ad105 (gzT l0).args.length cap105] 25)) := (Below.refl _ _).alloc (Nat.le_refl _) _
  replace HA0 := Lib.hid (HA0.out.read hal)
  replace HU2 := Lib.hid (HU2.out.read hal)
  replace HU3 := Lib.hid (HU3.out.read hal)
  replace HB4 := Lib.hid (HB4.out.read hal)
  replace HU4 := Lib.hid (HU4.out.read hal)
  replace HU5 := Lib.hid (HU5.out.read hal)
  replace HW := Lib.hid (belowOn HW.out (Nat.le_refl _) hal)
  have HB7 := Lib.hid (at_box_of w5 #[.int .i64 (gzT l0).kind, .int .i64 (gzT l0).num, .string (gzT l0).name, .slice ad105 (gzT l0).args.length cap105] 25 (w5.heap.size) (by simp))
  have HS6 := Lib.hid (show (w5.alloc (.cells #[.int .i64 (gzT l0).kind, .int .i64 (gzT l0).num, .string (gzT l0).name, .slice ad105 (gzT l0).args.length cap105] 25)).heap.size = w5.heap.size + 1 by simp)
  clear hal
  obtain ⟨c0a, c0b, c0c, c0d⟩ := HB7.out.cells
  have z0 := HB7.out.le
  obtain ⟨c1a, c1b, c1c, c1d⟩ := HB4.out.cells
  have z1 := HB4.out.le
  have HF := Lib.hid (eqTerm_any (gzT l0) _ _ (w5.alloc (.cells #[.int .i64 (gzT l0).kind, .int .i64 (gzT l0).num, .string (gzT l0).name, .slice ad105 (gzT l0).args.length cap105] 25)) HU5.out.argsAt HU3.out.argsAt (gz_sz l0))
  go_wp2_with fail
  refine HF.out.mono ?_
  rintro e w6 ⟨rfl, hb⟩
  clear c0a c0b c0c c0d z0 c1a c1b c1c c1d z1
  replace HA0 := Lib.hid (HA0.out.read hb)
  replace HU2 := Lib.hid (HU2.out.read hb)
  replace HU3 := Lib.hid (HU3.out.read hb)
  replace HB4 := Lib.hid (HB4.out.read hb)
  replace HU4 := Lib.hid (HU4.out.read hb)
  replace HU5 := Lib.hid (HU5.out.read hb)
  replace HB7 := Lib.hid (HB7.out.read hb)
  replace HW := Lib.hid (belowOn HW.out (Nat.le_refl _) hb)
  have HS7 := Lib.hid (hb.size)
  clear HF hb
  have HTO := Lib.hid (toTermL_any l0 _ w6 HA0.out.argsAt hZl0)
  go_wp2_with fail
  refine HTO.out.mono ?_
  rintro e w7 ⟨u7, rfl, hn⟩
  have hb := hn.2
  replace HA0 := Lib.hid (HA0.out.read hb)
  replace HU2 := Lib.hid (HU2.out.read hb)
  replace HU3 := Lib.hid (HU3.out.read hb)
  replace HB4 := Lib.hid (HB4.out.read hb)
  replace HU4 := Lib.hid (HU4.out.read hb)
  replace HU5 := Lib.hid (HU5.out.read hb)
  replace HB7 := Lib.hid (HB7.out.read hb)
  replace HW := Lib.hid (belowOn HW.out (Nat.le_refl _) hb)
  have HS8 := Lib.hid (hb.size)
  have HU7 := Lib.hid hn.at
  obtain ⟨ad107, cap107, rfl⟩ := hn.1.argsAt.slice
  clear HTO hn hb
  have HF := Lib.hid (eqTermL_any l0 _ _ w7 HU4.out.argsAt HU7.out.argsAt hZl0)
  go_wp2_with fail
  refine HF.out.mono ?_
  rintro e w8 ⟨rfl, hb⟩
  replace HA0 := Lib.hid (HA0.out.read hb)
  replace HU2 := Lib.hid (HU2.out.read hb)
  replace HU3 := Lib.hid (HU3.out.read hb)
  replace HB4 := Lib.hid (HB4.out.read hb)
  replace HU4 := Lib.hid (HU4.out.read hb)
  replace HU5 := Lib.hid (HU5.out.read hb)
  replace HB7 := Lib.hid (HB7.out.read hb)
  replace HU7 := Lib.hid (HU7.out.read hb)
  replace HW := Lib.hid (belowOn HW.out (Nat.le_refl _) hb)
  have HS9 := Lib.hid (hb.size)
  clear HF hb
  have hnl := nlL_bd hZl0
  have HF := Lib.hid (markTermL_any l0 _ (1) _ _ w8 HU4.out (by omega) (by omega))
  go_wp2_with fail
  refine HF.out.mono ?_
  rintro e w9 ⟨rfl, hat, ho⟩
  have s0 := HS0.out
  have s1 := HS1.out
  have s2 := HS2.out
  have s3 := HS3.out
  have s4 := HS4.out
  have s5 := HS5.out
  have s6 := HS6.out
  have s7 := HS7.out
  have s8 := HS8.out
  have s9 := HS9.out
  replace HA0 := Lib.hid (HA0.out.only ho (by omega))
  replace HU2 := Lib.hid (HU2.out.only ho (by omega))
  replace HU3 := Lib.hid (HU3.out.only ho (by omega))
  replace HB4 := Lib.hid (HB4.out.only ho (by omega))
  replace HU5 := Lib.hid (HU5.out.only ho (by omega))
  replace HB7 := Lib.hid (HB7.out.only ho (by omega))
  replace HU7 := Lib.hid (HU7.out.only ho (by omega))
  replace HW := Lib.hid (HW.out.trans (ho.below (fun k hk => by have := hk.1; omega) (by omega)))
  clear s0 s1 s2 s3 s4 s5 s6 s7 s8 s9
  replace HU4 := Lib.hid hat
  have HS10 := Lib.hid (ho.size)
  clear HF hat ho
  obtain ⟨c0a, c0b, c0c, c0d⟩ := HB7.out.cells
  have z0 := HB7.out.le
  obtain ⟨c1a, c1b, c1c, c1d⟩ := HB4.out.cells
  have z1 := HB4.out.le
  have HF := Lib.hid (eqTerm_any (gzT l0) _ _ w9 HU5.out.argsAt HU3.out.argsAt (gz_sz l0))
  go_wp2_with fail
  refine HF.out.mono ?_
  rintro e w10 ⟨rfl, hb⟩
  clear c0a c0b c0c c0d z0 c1a c1b c1c c1d z1
  replace HA0 := Lib.hid (HA0.out.read hb)
  replace HU2 := Lib.hid (HU2.out.read hb)
  replace HU3 := Lib.hid (HU3.out.read hb)
  replace HB4 := Lib.hid (HB4.out.read hb)
  replace HU4 := Lib.hid (HU4.out.read hb)
  replace HU5 := Lib.hid (HU5.out.read hb)
  replace HB7 := Lib.hid (HB7.out.read hb)
  replace HU7 := Lib.hid (HU7.out.read hb)
  replace HW := Lib.hid (belowOn HW.out (Nat.le_refl _) hb)
  have HS11 := Lib.hid (hb.size)
  clear HF hb
  obtain ⟨c0a, c0b, c0c, c0d⟩ := HB7.out.cells
  have z0 := HB7.out.le
  have hnl := nl_bd (gz_sz l0)
  have HF := Lib.hid (markTerm_any (gzT l0).kind (gzT l0).num (gzT l0).name (gzT l0).args _ (1) _ _ w10 HU5.out (by omega) (by omega))
  go_wp2_with fail
  refine HF.out.mono ?_
  rintro e w11 ⟨rfl, hat, ho⟩
  clear c0a c0b c0c c0d z0
  have s0 := HS0.out
  have s1 := HS1.out
  have s2 := HS2.out
  have s3 := HS3.out
  have s4 := HS4.out
  have s5 := HS5.out
  have s6 := HS6.out
  have s7 := HS7.out
  have s8 := HS8.out
  have s9 := HS9.out
  have s10 := HS10.out
  have s11 := HS11.out
  replace HA0 := Lib.hid (HA0.out.only ho (by omega))
  replace HU2 := Lib.hid (HU2.out.only ho (by omega))
  replace HU3 := Lib.hid (HU3.out.only ho (by omega))
  replace HB4 := Lib.hid (HB4.out.only ho (by omega))
  replace HU4 := Lib.hid (HU4.out.only ho (by omega))
  replace HB7 := Lib.hid (HB7.out.only ho (by omega))
  replace HU7 := Lib.hid (HU7.out.only ho (by omega))
  replace HW := Lib.hid (HW.out.trans (ho.below (fun k hk => by have := hk.1; omega) (by omega)))
  clear s0 s1 s2 s3 s4 s5 s6 s7 s8 s9 s10 s11
  replace HU5 := Lib.hid hat
  have HS12 := Lib.hid (ho.size)
  clear HF hat ho
  obtain ⟨c0a, c0b, c0c, c0d⟩ := HB7.out.cells
  have z0 := HB7.out.le
  have hnl := nl_bd (gz_sz l0)
  have HF := Lib.hid (heldTerm_any (gzT l0).kind (gzT l0).num (gzT l0).name (gzT l0).args _ (1) w11 HU5.out.argsAt (by omega) (by omega))
  go_wp2_with fail
  refine HF.out.mono ?_
  rintro e w12 ⟨rfl, hb⟩
  clear c0a c0b c0c c0d z0
  replace HA0 := Lib.hid (HA0.out.read hb)
  replace HU2 := Lib.hid (HU2.out.read hb)
  replace HU3 := Lib.hid (HU3.out.read hb)
  replace HB4 := Lib.hid (HB4.out.read hb)
  replace HU4 := Lib.hid (HU4.out.read hb)
  replace HU5 := Lib.hid (HU5.out.read hb)
  replace HB7 := Lib.hid (HB7.out.read hb)
  replace HU7 := Lib.hid (HU7.out.read hb)
  replace HW := Lib.hid (belowOn HW.out (Nat.le_refl _) hb)
  have HS13 := Lib.hid (hb.size)
  clear HF hb
  have HTO := Lib.hid (toTermL_any l0 _ w12 HA0.out.argsAt hZl0)
  go_wp2_with fail
  refine HTO.out.mono ?_
  rintro e w13 ⟨u13, rfl, hn⟩
  have hb := hn.2
  replace HA0 := Lib.hid (HA0.out.read hb)
  replace HU2 := Lib.hid (HU2.out.read hb)
  replace HU3 := Lib.hid (HU3.out.read hb)
  replace HB4 := Lib.hid (HB4.out.read hb)
  replace HU4 := Lib.hid (HU4.out.read hb)
  replace HU5 := Lib.hid (HU5.out.read hb)
  replace HB7 := Lib.hid (HB7.out.read hb)
  replace HU7 := Lib.hid (HU7.out.read hb)
  replace HW := Lib.hid (belowOn HW.out (Nat.le_refl _) hb)
  have HS14 := Lib.hid (hb.size)
  have HU13 := Lib.hid hn.at
  obtain ⟨ad113, cap113, rfl⟩ := hn.1.argsAt.slice
  clear HTO hn hb
  have HF := Lib.hid (implGeneralize_any l0 _ w13 HU13.out.argsAt hZl0)
  go_wp2_with fail
  refine HF.out.mono ?_
  rintro e w14 ⟨u14, rfl, hn⟩
  have hb := hn.2
  have hv := hn.1
  replace HA0 := Lib.hid (HA0.out.read hb)
  replace HU2 := Lib.hid (HU2.out.read hb)
  replace HU3 := Lib.hid (HU3.out.read hb)
  replace HB4 := Lib.hid (HB4.out.read hb)
  replace HU4 := Lib.hid (HU4.out.read hb)
  replace HU5 := Lib.hid (HU5.out.read hb)
  replace HB7 := Lib.hid (HB7.out.read hb)
  replace HU7 := Lib.hid (HU7.out.read hb)
  replace HU13 := Lib.hid (HU13.out.read hb)
  replace HW := Lib.hid (belowOn HW.out (Nat.le_refl _) hb)
  have HS15 := Lib.hid (hb.size)
  have HU14 := Lib.hid (at_own hv (Nat.le_refl _))
  obtain ⟨ad114, cap114, rfl⟩ := hv.argsAt.slice
  clear HF hv hb hn
  have hal : Below w14.heap.size w14 (w14.alloc (.cells #[.int .i64 (gzT l0).kind, .int .i64 (gzT l0).num, .string (gzT l0).name, .slice ad114 (gzT l0).args.length cap114] 25)) := (Below.refl _ _).alloc (Nat.le_refl _) _
  replace HA0 := Lib.hid (HA0.out.read hal)
  replace HU2 := Lib.hid (HU2.out.read hal)
  replace HU3 := Lib.hid (HU3.out.read hal)
  replace HB4 := Lib.hid (HB4.out.read hal)
  replace HU4 := Lib.hid (HU4.out.read hal)
  replace HU5 := Lib.hid (HU5.out.read hal)
  replace HB7 := Lib.hid (HB7.out.read hal)
  replace HU7 := Lib.hid (HU7.out.read hal)
  replace HU13 := Lib.hid (HU13.out.read hal)
  replace HU14 := Lib.hid (HU14.out.read hal)
  replace HW := Lib.hid (belowOn HW.out (Nat.le_refl _) hal)
  have HB12 := Lib.hid (at_box_of w14 #[.int .i64 (gzT l0).kind, .int .i64 (gzT l0).num, .string (gzT l0).name, .slice ad114 (gzT l0).args.length cap114] 25 (w14.heap.size) (by simp))
  have HS16 := Lib.hid (show (w14.alloc (.cells #[.int .i64 (gzT l0).kind, .int .i64 (gzT l0).num, .string (gzT l0).name, .slice ad114 (gzT l0).args.length cap114] 25)).heap.size = w14.heap.size + 1 by simp)
  clear hal
  obtain ⟨c0a, c0b, c0c, c0d⟩ := HB12.out.cells
  have z0 := HB12.out.le
  obtain ⟨c1a, c1b, c1c, c1d⟩ := HB4.out.cells
  have z1 := HB4.out.le
  have HF := Lib.hid (eqTerm_any (gzT l0) _ _ (w14.alloc (.cells #[.int .i64 (gzT l0).kind, .int .i64 (gzT l0).num, .string (gzT l0).name, .slice ad114 (gzT l0).args.length cap114] 25)) HU14.out.argsAt HU3.out.argsAt (gz_sz l0))
  go_wp2_with fail
  refine HF.out.mono ?_
  rintro e w15 ⟨rfl, hb⟩
  clear c0a c0b c0c c0d z0 c1a c1b c1c c1d z1
  replace HA0 := Lib.hid (HA0.out.read hb)
  replace HU2 := Lib.hid (HU2.out.read hb)
  replace HU3 := Lib.hid (HU3.out.read hb)
  replace HB4 := Lib.hid (HB4.out.read hb)
  replace HU4 := Lib.hid (HU4.out.read hb)
  replace HU5 := Lib.hid (HU5.out.read hb)
  replace HB7 := Lib.hid (HB7.out.read hb)
  replace HU7 := Lib.hid (HU7.out.read hb)
  replace HU13 := Lib.hid (HU13.out.read hb)
  replace HU14 := Lib.hid (HU14.out.read hb)
  replace HB12 := Lib.hid (HB12.out.read hb)
  replace HW := Lib.hid (belowOn HW.out (Nat.le_refl _) hb)
  have HS17 := Lib.hid (hb.size)
  clear HF hb
  obtain ⟨c0a, c0b, c0c, c0d⟩ := HB7.out.cells
  have z0 := HB7.out.le
  have hnl := nl_bd (gz_sz l0)
  have HF := Lib.hid (heldTerm_any (gzT l0).kind (gzT l0).num (gzT l0).name (gzT l0).args _ (1) w15 HU5.out.argsAt (by omega) (by omega))
  go_wp2_with fail
  refine HF.out.mono ?_
  rintro e w16 ⟨rfl, hb⟩
  clear c0a c0b c0c c0d z0
  replace HA0 := Lib.hid (HA0.out.read hb)
  replace HU2 := Lib.hid (HU2.out.read hb)
  replace HU3 := Lib.hid (HU3.out.read hb)
  replace HB4 := Lib.hid (HB4.out.read hb)
  replace HU4 := Lib.hid (HU4.out.read hb)
  replace HU5 := Lib.hid (HU5.out.read hb)
  replace HB7 := Lib.hid (HB7.out.read hb)
  replace HU7 := Lib.hid (HU7.out.read hb)
  replace HU13 := Lib.hid (HU13.out.read hb)
  replace HU14 := Lib.hid (HU14.out.read hb)
  replace HB12 := Lib.hid (HB12.out.read hb)
  replace HW := Lib.hid (belowOn HW.out (Nat.le_refl _) hb)
  have HS18 := Lib.hid (hb.size)
  clear HF hb
  go_wp2
  go_ret
  exact ⟨rfl, HW.out⟩
end Go.Proofs.Ytoihimdfmncdoaa

