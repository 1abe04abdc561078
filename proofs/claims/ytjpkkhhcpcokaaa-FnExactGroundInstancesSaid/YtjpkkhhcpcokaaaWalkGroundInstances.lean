/-
  The law of GroundInstances, walked: it returns true, and nothing that was there is changed. (Written by wip/tools/mkexact.py over the law's operations.)
-/
import Derived.Test.YtjpkkhhcpcokaaaInstX
import Derived.Test.YtjpkkhhcpcokaaaLaws
namespace Go.Proofs.Ytjpkkhhcpcokaaa
open Go.RowKit
set_option linter.unusedVariables false
set_option linter.unusedSimpArgs false

set_option maxRecDepth 100000 in
set_option maxHeartbeats 16000000 in
theorem walkGroundInstances (w : World) (t0 : Tm) (V0 : Value) (A0 : ArgsAt w V0 t0.args) (f0 : t0.fine) (V1 : Value) (l1 : List Tm) (A1 : ArgsAt w V1 l1) (f1 : fineL l1) (n1 : l1.length ≤ maxLen) :
    Calls Try.prog 5 #[.agg #[.int .i64 t0.kind, .int .i64 t0.num, .string t0.name, V0], V1] w fun e w' => e = .returned (.bool true) ∧ Below w.heap.size w w' := by
  obtain ⟨ad0, cap0, rfl⟩ := A0.slice
  have HA0 := Lib.hid (at_args A0)
  clear A0
  obtain ⟨ad1, cap1, rfl⟩ := A1.slice
  have HA1 := Lib.hid (at_args A1)
  clear A1
  have HW : Hid (Below w.heap.size w w) := Lib.hid (Below.refl _ _)
  have hal : Below w.heap.size w (w.alloc (.cells #[.int .i64 t0.kind, .int .i64 t0.num, .string t0.name, .slice ad0 t0.args.length cap0] 42)) := (Below.refl _ _).alloc (Nat.le_refl _) _
  replace HA0 := Lib.hid (HA0.out.read hal)
  replace HA1 := Lib.hid (HA1.out.read hal)
  replace HW := Lib.hid (belowOn HW.out (Nat.le_refl _) hal)
  have HB2 := Lib.hid (at_box_of w #[.int .i64 t0.kind, .int .i64 t0.num, .string t0.name, .slice ad0 t0.args.length cap0] 42 (w.heap.size) (by simp))
  have HS0 := Lib.hid (show (w.alloc (.cells #[.int .i64 t0.kind, .int .i64 t0.num, .string t0.name, .slice ad0 t0.args.length cap0] 42)).heap.size = w.heap.size + 1 by simp)
  clear hal
  go_enter Try.func5, Try.ntmps5
  obtain ⟨c0a, c0b, c0c, c0d⟩ := HB2.out.cells
  have z0 := HB2.out.le
  have HSZ := Lib.hid (szTerm_any t0 _ 1048576 (w.alloc (.cells #[.int .i64 t0.kind, .int .i64 t0.num, .string t0.name, .slice ad0 t0.args.length cap0] 42)) HA0.out.argsAt f0 (by omega) (by omega))
  go_wp2_with fail
  refine HSZ.out.mono ?_
  rintro e w1 ⟨r0, rfl, hr1, hr2, hr, hb⟩
  clear c0a c0b c0c c0d z0
  clear HSZ
  replace HA0 := Lib.hid (HA0.out.read hb)
  replace HA1 := Lib.hid (HA1.out.read hb)
  replace HB2 := Lib.hid (HB2.out.read hb)
  replace HW := Lib.hid (belowOn HW.out (Nat.le_refl _) hb)
  have HS1 := Lib.hid (hb.size)
  clear hb
  by_cases hneg : r0 < 0
  · clear hr
    go_wp2
    go_ret
    exact ⟨rfl, HW.out⟩
  have hZt0 : t0.sz ≤ 1048576 := by have := hr (by omega); omega
  replace hr1 : 0 ≤ r0 := by omega
  replace hr2 : r0 ≤ 1048576 := by omega
  clear hr hneg
  have h0r0 := hr1
  have h1r0 := hr2
  clear hr1 hr2
  have HSZ := Lib.hid (szTermL_any l1 _ r0 w1 HA1.out.argsAt f1 n1 (by omega) (by omega))
  go_wp2_with fail
  refine HSZ.out.mono ?_
  rintro e w2 ⟨r1, rfl, hr1, hr2, hr, hb⟩
  clear HSZ
  replace HA0 := Lib.hid (HA0.out.read hb)
  replace HA1 := Lib.hid (HA1.out.read hb)
  replace HB2 := Lib.hid (HB2.out.read hb)
  replace HW := Lib.hid (belowOn HW.out (Nat.le_refl _) hb)
  have HS2 := Lib.hid (hb.size)
  clear hb
  by_cases hneg : r1 < 0
  · clear hr
    go_wp2
    go_ret
    exact ⟨rfl, HW.out⟩
  have hZl1 : szL l1 ≤ 1048576 := by have := hr (by omega); omega
  replace hr1 : 0 ≤ r1 := by omega
  replace hr2 : r1 ≤ 1048576 := by omega
  clear hr hneg
  have h0r1 := hr1
  have h1r1 := hr2
  clear hr1 hr2
  obtain ⟨c0a, c0b, c0c, c0d⟩ := HB2.out.cells
  have z0 := HB2.out.le
  have HTO := Lib.hid (toTerm_any t0 _ w2 HA0.out.argsAt hZt0)
  go_wp2_with fail
  refine HTO.out.mono ?_
  rintro e w3 ⟨u3, rfl, hn⟩
  clear c0a c0b c0c c0d z0
  have hb := hn.2
  replace HA0 := Lib.hid (HA0.out.read hb)
  replace HA1 := Lib.hid (HA1.out.read hb)
  replace HB2 := Lib.hid (HB2.out.read hb)
  replace HW := Lib.hid (belowOn HW.out (Nat.le_refl _) hb)
  have HS3 := Lib.hid (hb.size)
  have HU3 := Lib.hid hn.at
  obtain ⟨ad103, cap103, rfl⟩ := hn.1.argsAt.slice
  clear HTO hn hb
  have HTO := Lib.hid (toTermL_any l1 _ w3 HA1.out.argsAt hZl1)
  go_wp2_with fail
  refine HTO.out.mono ?_
  rintro e w4 ⟨u4, rfl, hn⟩
  have hb := hn.2
  replace HA0 := Lib.hid (HA0.out.read hb)
  replace HA1 := Lib.hid (HA1.out.read hb)
  replace HB2 := Lib.hid (HB2.out.read hb)
  replace HU3 := Lib.hid (HU3.out.read hb)
  replace HW := Lib.hid (belowOn HW.out (Nat.le_refl _) hb)
  have HS4 := Lib.hid (hb.size)
  have HU4 := Lib.hid hn.at
  obtain ⟨ad104, cap104, rfl⟩ := hn.1.argsAt.slice
  clear HTO hn hb
  have HF := Lib.hid (specGroundInstances_any t0 _ l1 _ w4 HU3.out.argsAt hZt0 HU4.out.argsAt hZl1)
  go_wp2_with fail
  refine HF.out.mono ?_
  rintro e w5 ⟨u5, rfl, hv, hb⟩
  replace HA0 := Lib.hid (HA0.out.read hb)
  replace HA1 := Lib.hid (HA1.out.read hb)
  replace HB2 := Lib.hid (HB2.out.read hb)
  replace HU3 := Lib.hid (HU3.out.read hb)
  replace HU4 := Lib.hid (HU4.out.read hb)
  replace HW := Lib.hid (belowOn HW.out (Nat.le_refl _) hb)
  have HS5 := Lib.hid (hb.size)
  have HU5 := Lib.hid (at_args hv)
  obtain ⟨ad105, cap105, rfl⟩ := hv.slice
  clear HF hv hb
  obtain ⟨c0a, c0b, c0c, c0d⟩ := HB2.out.cells
  have z0 := HB2.out.le
  have HTO := Lib.hid (toTerm_any t0 _ w5 HA0.out.argsAt hZt0)
  go_wp2_with fail
  refine HTO.out.mono ?_
  rintro e w6 ⟨u6, rfl, hn⟩
  clear c0a c0b c0c c0d z0
  have hb := hn.2
  replace HA0 := Lib.hid (HA0.out.read hb)
  replace HA1 := Lib.hid (HA1.out.read hb)
  replace HB2 := Lib.hid (HB2.out.read hb)
  replace HU3 := Lib.hid (HU3.out.read hb)
  replace HU4 := Lib.hid (HU4.out.read hb)
  replace HU5 := Lib.hid (HU5.out.read hb)
  replace HW := Lib.hid (belowOn HW.out (Nat.le_refl _) hb)
  have HS6 := Lib.hid (hb.size)
  have HU6 := Lib.hid hn.at
  obtain ⟨ad106, cap106, rfl⟩ := hn.1.argsAt.slice
  clear HTO hn hb
  have hal : Below w6.heap.size w6 (w6.alloc (.cells #[.int .i64 t0.kind, .int .i64 t0.num, .string t0.name, .slice ad106 t0.args.length cap106] 46)) := (Below.refl _ _).alloc (Nat.le_refl _) _
  replace HA0 := Lib.hid (HA0.out.read hal)
  replace HA1 := Lib.hid (HA1.out.read hal)
  replace HB2 := Lib.hid (HB2.out.read hal)
  replace HU3 := Lib.hid (HU3.out.read hal)
  replace HU4 := Lib.hid (HU4.out.read hal)
  replace HU5 := Lib.hid (HU5.out.read hal)
  replace HU6 := Lib.hid (HU6.out.read hal)
  replace HW := Lib.hid (belowOn HW.out (Nat.le_refl _) hal)
  have HB7 := Lib.hid (at_box_of w6 #[.int .i64 t0.kind, .int .i64 t0.num, .string t0.name, .slice ad106 t0.args.length cap106] 46 (w6.heap.size) (by simp))
  have HS7 := Lib.hid (show (w6.alloc (.cells #[.int .i64 t0.kind, .int .i64 t0.num, .string t0.name, .slice ad106 t0.args.length cap106] 46)).heap.size = w6.heap.size + 1 by simp)
  clear hal
  have HTO := Lib.hid (toTermL_any l1 _ (w6.alloc (.cells #[.int .i64 t0.kind, .int .i64 t0.num, .string t0.name, .slice ad106 t0.args.length cap106] 46)) HA1.out.argsAt hZl1)
  go_wp2_with fail
  refine HTO.out.mono ?_
  rintro e w7 ⟨u7, rfl, hn⟩
  have hb := hn.2
  replace HA0 := Lib.hid (HA0.out.read hb)
  replace HA1 := Lib.hid (HA1.out.read hb)
  replace HB2 := Lib.hid (HB2.out.read hb)
  replace HU3 := Lib.hid (HU3.out.read hb)
  replace HU4 := Lib.hid (HU4.out.read hb)
  replace HU5 := Lib.hid (HU5.out.read hb)
  replace HU6 := Lib.hid (HU6.out.read hb)
  replace HB7 := Lib.hid (HB7.out.read hb)
  replace HW := Lib.hid (belowOn HW.out (Nat.le_refl _) hb)
  have HS8 := Lib.hid (hb.size)
  have HU7 := Lib.hid hn.at
  obtain ⟨ad107, cap107, rfl⟩ := hn.1.argsAt.slice
  clear HTO hn hb
  obtain ⟨c0a, c0b, c0c, c0d⟩ := HB7.out.cells
  have z0 := HB7.out.le
  have HF := Lib.hid (implGroundInstances_any t0 _ l1 _ w7 HU6.out.argsAt hZt0 HU7.out.argsAt hZl1)
  go_wp2_with fail
  refine HF.out.mono ?_
  rintro e w8 ⟨u8, rfl, hv, hb⟩
  clear c0a c0b c0c c0d z0
  replace HA0 := Lib.hid (HA0.out.read hb)
  replace HA1 := Lib.hid (HA1.out.read hb)
  replace HB2 := Lib.hid (HB2.out.read hb)
  replace HU3 := Lib.hid (HU3.out.read hb)
  replace HU4 := Lib.hid (HU4.out.read hb)
  replace HU5 := Lib.hid (HU5.out.read hb)
  replace HU6 := Lib.hid (HU6.out.read hb)
  replace HB7 := Lib.hid (HB7.out.read hb)
  replace HU7 := Lib.hid (HU7.out.read hb)
  replace HW := Lib.hid (belowOn HW.out (Nat.le_refl _) hb)
  have HS9 := Lib.hid (hb.size)
  have HU8 := Lib.hid (at_own hv (Nat.le_refl _))
  obtain ⟨ad108, cap108, rfl⟩ := hv.argsAt.slice
  clear HF hv hb
  have HF := Lib.hid (eqTermE_any (giL t0 l1) _ _ w8 HU8.out.argsAt HU5.out.argsAt (gi_each t0 l1))
  go_wp2_with fail
  refine HF.out.mono ?_
  rintro e w9 ⟨rfl, hb⟩
  replace HA0 := Lib.hid (HA0.out.read hb)
  replace HA1 := Lib.hid (HA1.out.read hb)
  replace HB2 := Lib.hid (HB2.out.read hb)
  replace HU3 := Lib.hid (HU3.out.read hb)
  replace HU4 := Lib.hid (HU4.out.read hb)
  replace HU5 := Lib.hid (HU5.out.read hb)
  replace HU6 := Lib.hid (HU6.out.read hb)
  replace HB7 := Lib.hid (HB7.out.read hb)
  replace HU7 := Lib.hid (HU7.out.read hb)
  replace HU8 := Lib.hid (HU8.out.read hb)
  replace HW := Lib.hid (belowOn HW.out (Nat.le_refl _) hb)
  have HS10 := Lib.hid (hb.size)
  clear HF hb
  go_upto_region 14 with (fail)
  go_cut [44] from 40 (fun b wx => b = .bool false ∧ Below w9.heap.size w9 wx)
  case first =>
    obtain ⟨c0a, c0b, c0c, c0d⟩ := HB7.out.cells
    have z0 := HB7.out.le
    obtain ⟨c1a, c1b, c1c, c1d⟩ := HB2.out.cells
    have z1 := HB2.out.le
    have hself : Below w9.heap.size w9 w9 := Below.refl _ _
    have hdrew : Below w9.heap.size w9 w9.drew := hself.drew
    have HCE : Hid (∀ W, Below w9.heap.size w9 W → W.cell? ⟨w6.heap.size, 0, none⟩ = some (.int .i64 t0.kind) ∧ W.cell? ⟨w6.heap.size, 1, none⟩ = some (.int .i64 t0.num) ∧ W.cell? ⟨w6.heap.size, 2, none⟩ = some (.string t0.name) ∧ W.cell? ⟨w6.heap.size, 3, none⟩ = some (.slice ad106 t0.args.length cap106) ∧ W.cell? ⟨w.heap.size, 0, none⟩ = some (.int .i64 t0.kind) ∧ W.cell? ⟨w.heap.size, 1, none⟩ = some (.int .i64 t0.num) ∧ W.cell? ⟨w.heap.size, 2, none⟩ = some (.string t0.name) ∧ W.cell? ⟨w.heap.size, 3, none⟩ = some (.slice ad0 t0.args.length cap0)) := Lib.hid fun W hW => by
      obtain ⟨y0a, y0b, y0c, y0d⟩ := (HB7.out.read hW).cells
      obtain ⟨y1a, y1b, y1c, y1d⟩ := (HB2.out.read hW).cells
      exact ⟨y0a, y0b, y0c, y0d, y1a, y1b, y1c, y1d⟩
    have HTR : Hid (∀ a b, Below w9.heap.size w9 a → Below a.heap.size a b → Below w9.heap.size w9 b) := Lib.hid fun a b h1 h2 => belowOn h1 (Nat.le_refl _) h2
    have HTO0 : Hid (∀ W, Below w9.heap.size w9 W → Calls Try.prog 24 #[.agg #[.int .i64 t0.kind, .int .i64 t0.num, .string t0.name, .slice ad0 t0.args.length cap0]] W fun e w' => ∃ u, e = .returned (.agg #[.int .i64 t0.kind, .int .i64 t0.num, .string t0.name, u]) ∧ (∀ W2, Below w'.heap.size w' W2 → ArgsAt W2 u t0.args) ∧ Below W.heap.size W w') := Lib.hid fun W hW =>
      (toTerm_any t0 _ W (HA0.out.read hW).argsAt hZt0).mono fun e w' ⟨u, he, hn⟩ => ⟨u, he, fun W2 h2 => hn.1.argsAt.kept h2, hn.2⟩
    have HEQ : Hid (∀ W u, Below w9.heap.size w9 W → ArgsAt W u t0.args → Calls Try.prog 26 #[.agg #[.int .i64 t0.kind, .int .i64 t0.num, .string t0.name, .slice ad106 t0.args.length cap106], .agg #[.int .i64 t0.kind, .int .i64 t0.num, .string t0.name, u]] W (Yes W)) := Lib.hid fun W u hW hu => eqTerm_any t0 _ _ W (HU6.out.read hW).argsAt hu hZt0
    clear HW HA0 HA1 HB2 HU3 HU4 HU5 HU6 HB7 HU7 HU8
    go_region_held3 (fun w' => Below w9.heap.size w9 w' ∧ w'.cell? ⟨w6.heap.size, 0, none⟩ = some (.int .i64 t0.kind) ∧ w'.cell? ⟨w6.heap.size, 1, none⟩ = some (.int .i64 t0.num) ∧ w'.cell? ⟨w6.heap.size, 2, none⟩ = some (.string t0.name) ∧ w'.cell? ⟨w6.heap.size, 3, none⟩ = some (.slice ad106 t0.args.length cap106) ∧ w'.cell? ⟨w.heap.size, 0, none⟩ = some (.int .i64 t0.kind) ∧ w'.cell? ⟨w.heap.size, 1, none⟩ = some (.int .i64 t0.num) ∧ w'.cell? ⟨w.heap.size, 2, none⟩ = some (.string t0.name) ∧ w'.cell? ⟨w.heap.size, 3, none⟩ = some (.slice ad0 t0.args.length cap0)) (go_keep)
      (first
        | (go_at_call 24; (with_reducible refine Calls.mono (HTO0.out _ ?_) ?_); (first | assumption | exact belowAlloc (by assumption) _ | exact (belowAlloc (by assumption) _).drew); rintro e wA0 ⟨u0, rfl, hu0, hb0⟩; have HUU0 := Lib.hid hu0; clear hu0; have hB0 := HTR.out _ _ (by first | assumption | exact belowAlloc (by assumption) _ | exact (belowAlloc (by assumption) _).drew) hb0; obtain ⟨k0, k1, k2, k3, k4, k5, k6, k7⟩ := HCE.out _ hB0)
        | (go_at_call 26; (with_reducible refine Calls.mono (HEQ.out _ _ ?_ ?_) ?_); (assumption); (first | exact HUU0.out _ (Below.refl _ _) | exact HUU0.out _ (by assumption)); rintro e w' ⟨rfl, hbz⟩; have hB' := HTR.out _ _ (by assumption) hbz; obtain ⟨k0, k1, k2, k3, k4, k5, k6, k7⟩ := HCE.out _ hB'))
    all_goals (go_wp2_with fail; go_meet; exact ⟨rfl, by assumption⟩)
  case rest =>
    obtain ⟨rfl, hb⟩ := hcut
    obtain ⟨w10, rfl⟩ : ∃ x : World, x = wc := ⟨_, rfl⟩
    replace HA0 := Lib.hid (HA0.out.read hb)
    replace HA1 := Lib.hid (HA1.out.read hb)
    replace HB2 := Lib.hid (HB2.out.read hb)
    replace HU3 := Lib.hid (HU3.out.read hb)
    replace HU4 := Lib.hid (HU4.out.read hb)
    replace HU5 := Lib.hid (HU5.out.read hb)
    replace HU6 := Lib.hid (HU6.out.read hb)
    replace HB7 := Lib.hid (HB7.out.read hb)
    replace HU7 := Lib.hid (HU7.out.read hb)
    replace HU8 := Lib.hid (HU8.out.read hb)
    replace HW := Lib.hid (belowOn HW.out (Nat.le_refl _) hb)
    have HS11 := Lib.hid (hb.size)
    clear hb
    have HTO := Lib.hid (toTermL_any l1 _ w10 HA1.out.argsAt hZl1)
    go_wp2_with fail
    refine HTO.out.mono ?_
    rintro e w11 ⟨u11, rfl, hn⟩
    have hb := hn.2
    replace HA0 := Lib.hid (HA0.out.read hb)
    replace HA1 := Lib.hid (HA1.out.read hb)
    replace HB2 := Lib.hid (HB2.out.read hb)
    replace HU3 := Lib.hid (HU3.out.read hb)
    replace HU4 := Lib.hid (HU4.out.read hb)
    replace HU5 := Lib.hid (HU5.out.read hb)
    replace HU6 := Lib.hid (HU6.out.read hb)
    replace HB7 := Lib.hid (HB7.out.read hb)
    replace HU7 := Lib.hid (HU7.out.read hb)
    replace HU8 := Lib.hid (HU8.out.read hb)
    replace HW := Lib.hid (belowOn HW.out (Nat.le_refl _) hb)
    have HS12 := Lib.hid (hb.size)
    have HU11 := Lib.hid hn.at
    obtain ⟨ad111, cap111, rfl⟩ := hn.1.argsAt.slice
    clear HTO hn hb
    have HF := Lib.hid (eqTermL_any l1 _ _ w11 HU7.out.argsAt HU11.out.argsAt hZl1)
    go_wp2_with fail
    refine HF.out.mono ?_
    rintro e w12 ⟨rfl, hb⟩
    replace HA0 := Lib.hid (HA0.out.read hb)
    replace HA1 := Lib.hid (HA1.out.read hb)
    replace HB2 := Lib.hid (HB2.out.read hb)
    replace HU3 := Lib.hid (HU3.out.read hb)
    replace HU4 := Lib.hid (HU4.out.read hb)
    replace HU5 := Lib.hid (HU5.out.read hb)
    replace HU6 := Lib.hid (HU6.out.read hb)
    replace HB7 := Lib.hid (HB7.out.read hb)
    replace HU7 := Lib.hid (HU7.out.read hb)
    replace HU8 := Lib.hid (HU8.out.read hb)
    replace HU11 := Lib.hid (HU11.out.read hb)
    replace HW := Lib.hid (belowOn HW.out (Nat.le_refl _) hb)
    have HS13 := Lib.hid (hb.size)
    clear HF hb
    obtain ⟨c0a, c0b, c0c, c0d⟩ := HB7.out.cells
    have z0 := HB7.out.le
    have hnl := nl_bd hZt0
    have HF := Lib.hid (markTerm_any t0.kind t0.num t0.name t0.args _ (1) _ _ w12 HU6.out (by omega) (by omega))
    go_wp2_with fail
    refine HF.out.mono ?_
    rintro e w13 ⟨rfl, hat, ho⟩
    clear c0a c0b c0c c0d z0
    have s0 := HS0.out
    have s1 := HS1.out
    have s2 := HS2.out
    have s3 := HS3.out
    have s4 := HS4.out
    have s5 := HS5.out
    have s6 := HS6.out
    have s7 := HS7.out
    have s8 := HS8.out
    have s9 := HS9.out
    have s10 := HS10.out
    have s11 := HS11.out
    have s12 := HS12.out
    have s13 := HS13.out
    replace HA0 := Lib.hid (HA0.out.only ho (by omega))
    replace HA1 := Lib.hid (HA1.out.only ho (by omega))
    replace HB2 := Lib.hid (HB2.out.only ho (by omega))
    replace HU3 := Lib.hid (HU3.out.only ho (by omega))
    replace HU4 := Lib.hid (HU4.out.only ho (by omega))
    replace HU5 := Lib.hid (HU5.out.only ho (by omega))
    replace HB7 := Lib.hid (HB7.out.only ho (by omega))
    replace HU7 := Lib.hid (HU7.out.only ho (by omega))
    replace HU8 := Lib.hid (HU8.out.only ho (by omega))
    replace HU11 := Lib.hid (HU11.out.only ho (by omega))
    replace HW := Lib.hid (HW.out.trans (ho.below (fun k hk => by have := hk.1; omega) (by omega)))
    clear s0 s1 s2 s3 s4 s5 s6 s7 s8 s9 s10 s11 s12 s13
    replace HU6 := Lib.hid hat
    have HS14 := Lib.hid (ho.size)
    clear HF hat ho
    have hnl := nlL_bd hZl1
    have HF := Lib.hid (markTermL_any l1 _ (1 + 3 * (nodesL t0.args : Int)) _ _ w13 HU7.out (by omega) (by omega))
    go_wp2_with fail
    refine HF.out.mono ?_
    rintro e w14 ⟨rfl, hat, ho⟩
    have s0 := HS0.out
    have s1 := HS1.out
    have s2 := HS2.out
    have s3 := HS3.out
    have s4 := HS4.out
    have s5 := HS5.out
    have s6 := HS6.out
    have s7 := HS7.out
    have s8 := HS8.out
    have s9 := HS9.out
    have s10 := HS10.out
    have s11 := HS11.out
    have s12 := HS12.out
    have s13 := HS13.out
    have s14 := HS14.out
    replace HA0 := Lib.hid (HA0.out.only ho (by omega))
    replace HA1 := Lib.hid (HA1.out.only ho (by omega))
    replace HB2 := Lib.hid (HB2.out.only ho (by omega))
    replace HU3 := Lib.hid (HU3.out.only ho (by omega))
    replace HU4 := Lib.hid (HU4.out.only ho (by omega))
    replace HU5 := Lib.hid (HU5.out.only ho (by omega))
    replace HU6 := Lib.hid (HU6.out.only ho (by omega))
    replace HB7 := Lib.hid (HB7.out.only ho (by omega))
    replace HU8 := Lib.hid (HU8.out.only ho (by omega))
    replace HU11 := Lib.hid (HU11.out.only ho (by omega))
    replace HW := Lib.hid (HW.out.trans (ho.below (fun k hk => by have := hk.1; omega) (by omega)))
    clear s0 s1 s2 s3 s4 s5 s6 s7 s8 s9 s10 s11 s12 s13 s14
    replace HU7 := Lib.hid hat
    have HS15 := Lib.hid (ho.size)
    clear HF hat ho
    have HF := Lib.hid (eqTermE_any (giL t0 l1) _ _ w14 HU8.out.argsAt HU5.out.argsAt (gi_each t0 l1))
    go_wp2_with fail
    refine HF.out.mono ?_
    rintro e w15 ⟨rfl, hb⟩
    replace HA0 := Lib.hid (HA0.out.read hb)
    replace HA1 := Lib.hid (HA1.out.read hb)
    replace HB2 := Lib.hid (HB2.out.read hb)
    replace HU3 := Lib.hid (HU3.out.read hb)
    replace HU4 := Lib.hid (HU4.out.read hb)
    replace HU5 := Lib.hid (HU5.out.read hb)
    replace HU6 := Lib.hid (HU6.out.read hb)
    replace HB7 := Lib.hid (HB7.out.read hb)
    replace HU7 := Lib.hid (HU7.out.read hb)
    replace HU8 := Lib.hid (HU8.out.read hb)
    replace HU11 := Lib.hid (HU11.out.read hb)
    replace HW := Lib.hid (belowOn HW.out (Nat.le_refl _) hb)
    have HS16 := Lib.hid (hb.size)
    clear HF hb
    have hnl := (gi_nodes t0 l1)
    have HF := Lib.hid (markTermL_any (giL t0 l1) _ (1) _ _ w15 HU8.out (by omega) (by omega))
    go_wp2_with fail
    refine HF.out.mono ?_
    rintro e w16 ⟨rfl, hat, ho⟩
    have s0 := HS0.out
    have s1 := HS1.out
    have s2 := HS2.out
    have s3 := HS3.out
    have s4 := HS4.out
    have s5 := HS5.out
    have s6 := HS6.out
    have s7 := HS7.out
    have s8 := HS8.out
    have s9 := HS9.out
    have s10 := HS10.out
    have s11 := HS11.out
    have s12 := HS12.out
    have s13 := HS13.out
    have s14 := HS14.out
    have s15 := HS15.out
    have s16 := HS16.out
    replace HA0 := Lib.hid (HA0.out.only ho (by omega))
    replace HA1 := Lib.hid (HA1.out.only ho (by omega))
    replace HB2 := Lib.hid (HB2.out.only ho (by omega))
    replace HU3 := Lib.hid (HU3.out.only ho (by omega))
    replace HU4 := Lib.hid (HU4.out.only ho (by omega))
    replace HU5 := Lib.hid (HU5.out.only ho (by omega))
    replace HU6 := Lib.hid (HU6.out.only ho (by omega))
    replace HB7 := Lib.hid (HB7.out.only ho (by omega))
    replace HU7 := Lib.hid (HU7.out.only ho (by omega))
    replace HU11 := Lib.hid (HU11.out.only ho (by omega))
    replace HW := Lib.hid (HW.out.trans (ho.below (fun k hk => by have := hk.1; omega) (by omega)))
    clear s0 s1 s2 s3 s4 s5 s6 s7 s8 s9 s10 s11 s12 s13 s14 s15 s16
    replace HU8 := Lib.hid hat
    have HS17 := Lib.hid (ho.size)
    clear HF hat ho
    have hnl := (gi_nodes t0 l1)
    have HF := Lib.hid (heldTermL_any (giL t0 l1) _ (1) w16 HU8.out.argsAt (by omega) (by omega))
    go_wp2_with fail
    refine HF.out.mono ?_
    rintro e w17 ⟨rfl, hb⟩
    replace HA0 := Lib.hid (HA0.out.read hb)
    replace HA1 := Lib.hid (HA1.out.read hb)
    replace HB2 := Lib.hid (HB2.out.read hb)
    replace HU3 := Lib.hid (HU3.out.read hb)
    replace HU4 := Lib.hid (HU4.out.read hb)
    replace HU5 := Lib.hid (HU5.out.read hb)
    replace HU6 := Lib.hid (HU6.out.read hb)
    replace HB7 := Lib.hid (HB7.out.read hb)
    replace HU7 := Lib.hid (HU7.out.read hb)
    replace HU8 := Lib.hid (HU8.out.read hb)
    replace HU11 := Lib.hid (HU11.out.read hb)
    replace HW := Lib.hid (belowOn HW.out (Nat.le_refl _) hb)
    have HS18 := Lib.hid (hb.size)
    clear HF hb
    obtain ⟨c0a, c0b, c0c, c0d⟩ := HB2.out.cells
    have z0 := HB2.out.le
    have HTO := Lib.hid (toTerm_any t0 _ w17 HA0.out.argsAt hZt0)
    go_wp2_with fail
    refine HTO.out.mono ?_
    rintro e w18 ⟨u18, rfl, hn⟩
    clear c0a c0b c0c c0d z0
    have hb := hn.2
    replace HA0 := Lib.hid (HA0.out.read hb)
    replace HA1 := Lib.hid (HA1.out.read hb)
    replace HB2 := Lib.hid (HB2.out.read hb)
    replace HU3 := Lib.hid (HU3.out.read hb)
    replace HU4 := Lib.hid (HU4.out.read hb)
    replace HU5 := Lib.hid (HU5.out.read hb)
    replace HU6 := Lib.hid (HU6.out.read hb)
    replace HB7 := Lib.hid (HB7.out.read hb)
    replace HU7 := Lib.hid (HU7.out.read hb)
    replace HU8 := Lib.hid (HU8.out.read hb)
    replace HU11 := Lib.hid (HU11.out.read hb)
    replace HW := Lib.hid (belowOn HW.out (Nat.le_refl _) hb)
    have HS19 := Lib.hid (hb.size)
    have HU18 := Lib.hid hn.at
    obtain ⟨ad118, cap118, rfl⟩ := hn.1.argsAt.slice
    clear HTO hn hb
    have HTO := Lib.hid (toTermL_any l1 _ w18 HA1.out.argsAt hZl1)
    go_wp2_with fail
    refine HTO.out.mono ?_
    rintro e w19 ⟨u19, rfl, hn⟩
    have hb := hn.2
    replace HA0 := Lib.hid (HA0.out.read hb)
    replace HA1 := Lib.hid (HA1.out.read hb)
    replace HB2 := Lib.hid (HB2.out.read hb)
    replace HU3 := Lib.hid (HU3.out.read hb)
    replace HU4 := Lib.hid (HU4.out.read hb)
    replace HU5 := Lib.hid (HU5.out.read hb)
    replace HU6 := Lib.hid (HU6.out.read hb)
    replace HB7 := Lib.hid (HB7.out.read hb)
    replace HU7 := Lib.hid (HU7.out.read hb)
    replace HU8 := Lib.hid (HU8.out.read hb)
    replace HU11 := Lib.hid (HU11.out.read hb)
    replace HU18 := Lib.hid (HU18.out.read hb)
    replace HW := Lib.hid (belowOn HW.out (Nat.le_refl _) hb)
    have HS20 := Lib.hid (hb.size)
    have HU19 := Lib.hid hn.at
    obtain ⟨ad119, cap119, rfl⟩ := hn.1.argsAt.slice
    clear HTO hn hb
    have HF := Lib.hid (implGroundInstances_any t0 _ l1 _ w19 HU18.out.argsAt hZt0 HU19.out.argsAt hZl1)
    go_wp2_with fail
    refine HF.out.mono ?_
    rintro e w20 ⟨u20, rfl, hv, hb⟩
    replace HA0 := Lib.hid (HA0.out.read hb)
    replace HA1 := Lib.hid (HA1.out.read hb)
    replace HB2 := Lib.hid (HB2.out.read hb)
    replace HU3 := Lib.hid (HU3.out.read hb)
    replace HU4 := Lib.hid (HU4.out.read hb)
    replace HU5 := Lib.hid (HU5.out.read hb)
    replace HU6 := Lib.hid (HU6.out.read hb)
    replace HB7 := Lib.hid (HB7.out.read hb)
    replace HU7 := Lib.hid (HU7.out.read hb)
    replace HU8 := Lib.hid (HU8.out.read hb)
    replace HU11 := Lib.hid (HU11.out.read hb)
    replace HU18 := Lib.hid (HU18.out.read hb)
    replace HU19 := Lib.hid (HU19.out.read hb)
    replace HW := Lib.hid (belowOn HW.out (Nat.le_refl _) hb)
    have HS21 := Lib.hid (hb.size)
    have HU20 := Lib.hid (at_own hv (Nat.le_refl _))
    obtain ⟨ad120, cap120, rfl⟩ := hv.argsAt.slice
    clear HF hv hb
    have HF := Lib.hid (eqTermE_any (giL t0 l1) _ _ w20 HU20.out.argsAt HU5.out.argsAt (gi_each t0 l1))
    go_wp2_with fail
    refine HF.out.mono ?_
    rintro e w21 ⟨rfl, hb⟩
    replace HA0 := Lib.hid (HA0.out.read hb)
    replace HA1 := Lib.hid (HA1.out.read hb)
    replace HB2 := Lib.hid (HB2.out.read hb)
    replace HU3 := Lib.hid (HU3.out.read hb)
    replace HU4 := Lib.hid (HU4.out.read hb)
    replace HU5 := Lib.hid (HU5.out.read hb)
    replace HU6 := Lib.hid (HU6.out.read hb)
    replace HB7 := Lib.hid (HB7.out.read hb)
    replace HU7 := Lib.hid (HU7.out.read hb)
    replace HU8 := Lib.hid (HU8.out.read hb)
    replace HU11 := Lib.hid (HU11.out.read hb)
    replace HU18 := Lib.hid (HU18.out.read hb)
    replace HU19 := Lib.hid (HU19.out.read hb)
    replace HU20 := Lib.hid (HU20.out.read hb)
    replace HW := Lib.hid (belowOn HW.out (Nat.le_refl _) hb)
    have HS22 := Lib.hid (hb.size)
    clear HF hb
    have hnl := (gi_nodes t0 l1)
    have HF := Lib.hid (heldTermL_any (giL t0 l1) _ (1) w21 HU8.out.argsAt (by omega) (by omega))
    go_wp2_with fail
    refine HF.out.mono ?_
    rintro e w22 ⟨rfl, hb⟩
    replace HA0 := Lib.hid (HA0.out.read hb)
    replace HA1 := Lib.hid (HA1.out.read hb)
    replace HB2 := Lib.hid (HB2.out.read hb)
    replace HU3 := Lib.hid (HU3.out.read hb)
    replace HU4 := Lib.hid (HU4.out.read hb)
    replace HU5 := Lib.hid (HU5.out.read hb)
    replace HU6 := Lib.hid (HU6.out.read hb)
    replace HB7 := Lib.hid (HB7.out.read hb)
    replace HU7 := Lib.hid (HU7.out.read hb)
    replace HU8 := Lib.hid (HU8.out.read hb)
    replace HU11 := Lib.hid (HU11.out.read hb)
    replace HU18 := Lib.hid (HU18.out.read hb)
    replace HU19 := Lib.hid (HU19.out.read hb)
    replace HU20 := Lib.hid (HU20.out.read hb)
    replace HW := Lib.hid (belowOn HW.out (Nat.le_refl _) hb)
    have HS23 := Lib.hid (hb.size)
    clear HF hb
    go_wp2
    go_ret
    exact ⟨rfl, HW.out⟩
end Go.Proofs.Ytjpkkhhcpcokaaa

