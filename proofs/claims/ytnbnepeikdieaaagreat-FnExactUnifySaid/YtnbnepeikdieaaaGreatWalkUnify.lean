/-
  The law of Unify, walked: it returns true, and nothing that was there is changed. (Written by wip/tools/mkexact.py over the law's operations.)
-/
import Derived.Test.YtnbnepeikdieaaaGreatSpecUnify
import Derived.Test.YtnbnepeikdieaaaGreatSubsQ
import Derived.Test.YtnbnepeikdieaaaGreatLaws
namespace Go.Proofs.YtnbnepeikdieaaaGreat
open Go.RowKit
set_option linter.unusedVariables false
set_option linter.unusedSimpArgs false

set_option maxRecDepth 100000 in
set_option maxHeartbeats 16000000 in
theorem walkUnify (w : World) (V0 : Value) (l0 : List Bd) (A0 : ListS bdE w Any V0 l0) (f0 : fineB l0) (n0 : l0.length ≤ maxLen) (t1 : Tm) (V1 : Value) (A1 : ArgsAt w V1 t1.args) (f1 : t1.fine) (t2 : Tm) (V2 : Value) (A2 : ArgsAt w V2 t2.args) (f2 : t2.fine) :
    Calls Tryz.prog 3 #[V0, .agg #[.int .i64 t1.kind, .int .i64 t1.num, .string t1.name, V1], .agg #[.int .i64 t2.kind, .int .i64 t2.num, .string t2.name, V2]] w fun e w' => e = .returned (.bool true) ∧ Below w.heap.size w w' := by
  obtain ⟨ad0, cap0, rfl⟩ := A0.slice
  have HA0 := Lib.hid (at_list A0)
  clear A0
  obtain ⟨ad1, cap1, rfl⟩ := A1.slice
  have HA1 := Lib.hid (at_args A1)
  clear A1
  obtain ⟨ad2, cap2, rfl⟩ := A2.slice
  have HA2 := Lib.hid (at_args A2)
  clear A2
  have HW : Hid (Below w.heap.size w w) := Lib.hid (Below.refl _ _)
  have hal : Below w.heap.size w (w.alloc (.cells #[.int .i64 t1.kind, .int .i64 t1.num, .string t1.name, .slice ad1 t1.args.length cap1] 25)) := (Below.refl _ _).alloc (Nat.le_refl _) _
  replace HA0 := Lib.hid (HA0.out.read hal)
  replace HA1 := Lib.hid (HA1.out.read hal)
  replace HA2 := Lib.hid (HA2.out.read hal)
  replace HW := Lib.hid (belowOn HW.out (Nat.le_refl _) hal)
  have HB4 := Lib.hid (at_box_of w #[.int .i64 t1.kind, .int .i64 t1.num, .string t1.name, .slice ad1 t1.args.length cap1] 25 (w.heap.size) (by simp))
  have HS0 := Lib.hid (show (w.alloc (.cells #[.int .i64 t1.kind, .int .i64 t1.num, .string t1.name, .slice ad1 t1.args.length cap1] 25)).heap.size = w.heap.size + 1 by simp)
  clear hal
  have hal : Below (w.alloc (.cells #[.int .i64 t1.kind, .int .i64 t1.num, .string t1.name, .slice ad1 t1.args.length cap1] 25)).heap.size (w.alloc (.cells #[.int .i64 t1.kind, .int .i64 t1.num, .string t1.name, .slice ad1 t1.args.length cap1] 25)) ((w.alloc (.cells #[.int .i64 t1.kind, .int .i64 t1.num, .string t1.name, .slice ad1 t1.args.length cap1] 25)).alloc (.cells #[.int .i64 t2.kind, .int .i64 t2.num, .string t2.name, .slice ad2 t2.args.length cap2] 25)) := (Below.refl _ _).alloc (Nat.le_refl _) _
  replace HA0 := Lib.hid (HA0.out.read hal)
  replace HA1 := Lib.hid (HA1.out.read hal)
  replace HA2 := Lib.hid (HA2.out.read hal)
  replace HB4 := Lib.hid (HB4.out.read hal)
  replace HW := Lib.hid (belowOn HW.out (Nat.le_refl _) hal)
  have HB5 := Lib.hid (at_box_of (w.alloc (.cells #[.int .i64 t1.kind, .int .i64 t1.num, .string t1.name, .slice ad1 t1.args.length cap1] 25)) #[.int .i64 t2.kind, .int .i64 t2.num, .string t2.name, .slice ad2 t2.args.length cap2] 25 (w.heap.size + 1) (by simp))
  have HS1 := Lib.hid (show ((w.alloc (.cells #[.int .i64 t1.kind, .int .i64 t1.num, .string t1.name, .slice ad1 t1.args.length cap1] 25)).alloc (.cells #[.int .i64 t2.kind, .int .i64 t2.num, .string t2.name, .slice ad2 t2.args.length cap2] 25)).heap.size = (w.alloc (.cells #[.int .i64 t1.kind, .int .i64 t1.num, .string t1.name, .slice ad1 t1.args.length cap1] 25)).heap.size + 1 by simp)
  clear hal
  go_enter Tryz.func3, Tryz.ntmps3
  have HSZ := Lib.hid (szBindingL_any l0 _ 1048576 ((w.alloc (.cells #[.int .i64 t1.kind, .int .i64 t1.num, .string t1.name, .slice ad1 t1.args.length cap1] 25)).alloc (.cells #[.int .i64 t2.kind, .int .i64 t2.num, .string t2.name, .slice ad2 t2.args.length cap2] 25)) HA0.out.listS f0 n0 (by omega) (by omega))
  go_wp2_with fail
  refine HSZ.out.mono ?_
  rintro e w1 ⟨r0, rfl, hr1, hr2, hr, hb⟩
  clear HSZ
  replace HA0 := Lib.hid (HA0.out.read hb)
  replace HA1 := Lib.hid (HA1.out.read hb)
  replace HA2 := Lib.hid (HA2.out.read hb)
  replace HB4 := Lib.hid (HB4.out.read hb)
  replace HB5 := Lib.hid (HB5.out.read hb)
  replace HW := Lib.hid (belowOn HW.out (Nat.le_refl _) hb)
  have HS2 := Lib.hid (hb.size)
  clear hb
  by_cases hneg : r0 < 0
  · clear hr
    go_wp2
    go_ret
    exact ⟨rfl, HW.out⟩
  have hZl0 : szB l0 ≤ 1048576 := by have := hr (by omega); omega
  replace hr1 : 0 ≤ r0 := by omega
  replace hr2 : r0 ≤ 1048576 := by omega
  clear hr hneg
  have h0r0 := hr1
  have h1r0 := hr2
  clear hr1 hr2
  obtain ⟨c0a, c0b, c0c, c0d⟩ := HB4.out.cells
  have z0 := HB4.out.le
  have HSZ := Lib.hid (szTerm_any t1 _ r0 w1 HA1.out.argsAt f1 (by omega) (by omega))
  go_wp2_with fail
  refine HSZ.out.mono ?_
  rintro e w2 ⟨r1, rfl, hr1, hr2, hr, hb⟩
  clear c0a c0b c0c c0d z0
  clear HSZ
  replace HA0 := Lib.hid (HA0.out.read hb)
  replace HA1 := Lib.hid (HA1.out.read hb)
  replace HA2 := Lib.hid (HA2.out.read hb)
  replace HB4 := Lib.hid (HB4.out.read hb)
  replace HB5 := Lib.hid (HB5.out.read hb)
  replace HW := Lib.hid (belowOn HW.out (Nat.le_refl _) hb)
  have HS3 := Lib.hid (hb.size)
  clear hb
  by_cases hneg : r1 < 0
  · clear hr
    go_wp2
    go_ret
    exact ⟨rfl, HW.out⟩
  have hZt1 : t1.sz ≤ 1048576 := by have := hr (by omega); omega
  replace hr1 : 0 ≤ r1 := by omega
  replace hr2 : r1 ≤ 1048576 := by omega
  clear hr hneg
  have h0r1 := hr1
  have h1r1 := hr2
  clear hr1 hr2
  obtain ⟨c0a, c0b, c0c, c0d⟩ := HB5.out.cells
  have z0 := HB5.out.le
  have HSZ := Lib.hid (szTerm_any t2 _ r1 w2 HA2.out.argsAt f2 (by omega) (by omega))
  go_wp2_with fail
  refine HSZ.out.mono ?_
  rintro e w3 ⟨r2, rfl, hr1, hr2, hr, hb⟩
  clear c0a c0b c0c c0d z0
  clear HSZ
  replace HA0 := Lib.hid (HA0.out.read hb)
  replace HA1 := Lib.hid (HA1.out.read hb)
  replace HA2 := Lib.hid (HA2.out.read hb)
  replace HB4 := Lib.hid (HB4.out.read hb)
  replace HB5 := Lib.hid (HB5.out.read hb)
  replace HW := Lib.hid (belowOn HW.out (Nat.le_refl _) hb)
  have HS4 := Lib.hid (hb.size)
  clear hb
  by_cases hneg : r2 < 0
  · clear hr
    go_wp2
    go_ret
    exact ⟨rfl, HW.out⟩
  have hZt2 : t2.sz ≤ 1048576 := by have := hr (by omega); omega
  replace hr1 : 0 ≤ r2 := by omega
  replace hr2 : r2 ≤ 1048576 := by omega
  clear hr hneg
  have h0r2 := hr1
  have h1r2 := hr2
  clear hr1 hr2
  go_upto_region 11 with (fail)
  go_cut [8, 9] from 35 (fun p b wx => b = .bool (unB l0 t1 t2) ∧ ListS bdE wx Any p (unL l0 t1 t2) ∧ Below w3.heap.size w3 wx)
  case first =>
    obtain ⟨c0a, c0b, c0c, c0d⟩ := HB4.out.cells
    have z0 := HB4.out.le
    obtain ⟨c1a, c1b, c1c, c1d⟩ := HB5.out.cells
    have z1 := HB5.out.le
    have hself : Below w3.heap.size w3 w3 := Below.refl _ _
    have hdrew : Below w3.heap.size w3 w3.drew := hself.drew
    have HCE : Hid (∀ W, Below w3.heap.size w3 W → W.cell? ⟨w.heap.size, 0, none⟩ = some (.int .i64 t1.kind) ∧ W.cell? ⟨w.heap.size, 1, none⟩ = some (.int .i64 t1.num) ∧ W.cell? ⟨w.heap.size, 2, none⟩ = some (.string t1.name) ∧ W.cell? ⟨w.heap.size, 3, none⟩ = some (.slice ad1 t1.args.length cap1) ∧ W.cell? ⟨w.heap.size + 1, 0, none⟩ = some (.int .i64 t2.kind) ∧ W.cell? ⟨w.heap.size + 1, 1, none⟩ = some (.int .i64 t2.num) ∧ W.cell? ⟨w.heap.size + 1, 2, none⟩ = some (.string t2.name) ∧ W.cell? ⟨w.heap.size + 1, 3, none⟩ = some (.slice ad2 t2.args.length cap2)) := Lib.hid fun W hW => by
      obtain ⟨y0a, y0b, y0c, y0d⟩ := (HB4.out.read hW).cells
      obtain ⟨y1a, y1b, y1c, y1d⟩ := (HB5.out.read hW).cells
      exact ⟨y0a, y0b, y0c, y0d, y1a, y1b, y1c, y1d⟩
    have HTR : Hid (∀ a b, Below w3.heap.size w3 a → Below a.heap.size a b → Below w3.heap.size w3 b) := Lib.hid fun a b h1 h2 => belowOn h1 (Nat.le_refl _) h2
    have HTO0 : Hid (∀ W, Below w3.heap.size w3 W → Calls Tryz.prog 8 #[(.slice ad0 l0.length cap0)] W fun e w' => ∃ u, e = .returned (u) ∧ (∀ W2, Below w'.heap.size w' W2 → ListS bdE W2 Any u l0) ∧ Below W.heap.size W w') := Lib.hid fun W hW =>
      (toBindingL_any l0 _ W (HA0.out.read hW).listS hZl0).mono fun e w' ⟨u, he, hn⟩ => ⟨u, he, fun W2 h2 => hn.1.inS.any.kept h2, hn.2⟩
    have HTO1 : Hid (∀ W, Below w3.heap.size w3 W → Calls Tryz.prog 9 #[.agg #[.int .i64 t1.kind, .int .i64 t1.num, .string t1.name, .slice ad1 t1.args.length cap1]] W fun e w' => ∃ u, e = .returned (.agg #[.int .i64 t1.kind, .int .i64 t1.num, .string t1.name, u]) ∧ (∀ W2, Below w'.heap.size w' W2 → ArgsAt W2 u t1.args) ∧ Below W.heap.size W w') := Lib.hid fun W hW =>
      (toTerm_any t1 _ W (HA1.out.read hW).argsAt hZt1).mono fun e w' ⟨u, he, hn⟩ => ⟨u, he, fun W2 h2 => hn.1.argsAt.kept h2, hn.2⟩
    have HTO2 : Hid (∀ W, Below w3.heap.size w3 W → Calls Tryz.prog 9 #[.agg #[.int .i64 t2.kind, .int .i64 t2.num, .string t2.name, .slice ad2 t2.args.length cap2]] W fun e w' => ∃ u, e = .returned (.agg #[.int .i64 t2.kind, .int .i64 t2.num, .string t2.name, u]) ∧ (∀ W2, Below w'.heap.size w' W2 → ArgsAt W2 u t2.args) ∧ Below W.heap.size W w') := Lib.hid fun W hW =>
      (toTerm_any t2 _ W (HA2.out.read hW).argsAt hZt2).mono fun e w' ⟨u, he, hn⟩ => ⟨u, he, fun W2 h2 => hn.1.argsAt.kept h2, hn.2⟩
    have HF : Hid (∀ W u0 u1 u2, Below w3.heap.size w3 W → ListS bdE W Any u0 l0 → ArgsAt W u1 t1.args → ArgsAt W u2 t2.args → Calls Tryz.prog 7 #[u0, .agg #[.int .i64 t1.kind, .int .i64 t1.num, .string t1.name, u1], .agg #[.int .i64 t2.kind, .int .i64 t2.num, .string t2.name, u2]] W (OldB2 (unL l0 t1 t2) (unB l0 t1 t2) W)) := Lib.hid fun W u0 u1 u2 hW hu0 hu1 hu2 => (specUnify_any l0 u0 t1 u1 t2 u2 W hu0 hZl0 hu1 hZt1 hu2 hZt2)
    clear HW HA0 HA1 HA2 HB4 HB5
    go_region_held3 (fun w' => Below w3.heap.size w3 w' ∧ w'.cell? ⟨w.heap.size, 0, none⟩ = some (.int .i64 t1.kind) ∧ w'.cell? ⟨w.heap.size, 1, none⟩ = some (.int .i64 t1.num) ∧ w'.cell? ⟨w.heap.size, 2, none⟩ = some (.string t1.name) ∧ w'.cell? ⟨w.heap.size, 3, none⟩ = some (.slice ad1 t1.args.length cap1) ∧ w'.cell? ⟨w.heap.size + 1, 0, none⟩ = some (.int .i64 t2.kind) ∧ w'.cell? ⟨w.heap.size + 1, 1, none⟩ = some (.int .i64 t2.num) ∧ w'.cell? ⟨w.heap.size + 1, 2, none⟩ = some (.string t2.name) ∧ w'.cell? ⟨w.heap.size + 1, 3, none⟩ = some (.slice ad2 t2.args.length cap2)) (go_keep)
      (first
        | (go_at_call 8; (with_reducible refine Calls.mono (HTO0.out _ ?_) ?_); (first | assumption | exact belowAlloc (by assumption) _ | exact (belowAlloc (by assumption) _).drew); rintro e wA0 ⟨u0, rfl, hu0, hb0⟩; have HUU0 := Lib.hid hu0; clear hu0; have hB0 := HTR.out _ _ (by first | assumption | exact belowAlloc (by assumption) _ | exact (belowAlloc (by assumption) _).drew) hb0; obtain ⟨k0, k1, k2, k3, k4, k5, k6, k7⟩ := HCE.out _ hB0)
        | (go_at_call 9; (with_reducible refine Calls.mono (HTO1.out _ ?_) ?_); (first | assumption | exact belowAlloc (by assumption) _ | exact (belowAlloc (by assumption) _).drew); rintro e wA1 ⟨u1, rfl, hu1, hb1⟩; have HUU1 := Lib.hid hu1; clear hu1; have hB1 := HTR.out _ _ (by first | assumption | exact belowAlloc (by assumption) _ | exact (belowAlloc (by assumption) _).drew) hb1; obtain ⟨k0, k1, k2, k3, k4, k5, k6, k7⟩ := HCE.out _ hB1)
        | (go_at_call 9; (with_reducible refine Calls.mono (HTO2.out _ ?_) ?_); (first | assumption | exact belowAlloc (by assumption) _ | exact (belowAlloc (by assumption) _).drew); rintro e wA2 ⟨u2, rfl, hu2, hb2⟩; have HUU2 := Lib.hid hu2; clear hu2; have hB2 := HTR.out _ _ (by first | assumption | exact belowAlloc (by assumption) _ | exact (belowAlloc (by assumption) _).drew) hb2; obtain ⟨k0, k1, k2, k3, k4, k5, k6, k7⟩ := HCE.out _ hB2)
        | (go_at_call 7; (with_reducible refine Calls.mono (HF.out _ _ _ _ ?_ ?_ ?_ ?_) ?_); (assumption); (first | exact HUU0.out _ (Below.refl _ _) | exact HUU0.out _ (by assumption) | exact HUU0.out _ (below3 (by assumption) (by assumption))); (first | exact HUU1.out _ (Below.refl _ _) | exact HUU1.out _ (by assumption) | exact HUU1.out _ (below3 (by assumption) (by assumption))); (first | exact HUU2.out _ (Below.refl _ _) | exact HUU2.out _ (by assumption) | exact HUU2.out _ (below3 (by assumption) (by assumption))); rintro e w' ⟨v9, rfl, hv9, hbz⟩; have hB' := HTR.out _ _ (by assumption) hbz; have HVV := Lib.hid hv9; clear hv9; obtain ⟨k0, k1, k2, k3, k4, k5, k6, k7⟩ := HCE.out _ hB'))
    all_goals (go_wp2_with fail; go_meet; exact ⟨rfl, HVV.out, by assumption⟩)
  case rest =>
    obtain ⟨rfl, hv, hb⟩ := hcut
    obtain ⟨w4, rfl⟩ : ∃ x : World, x = wc := ⟨_, rfl⟩
    replace HA0 := Lib.hid (HA0.out.read hb)
    replace HA1 := Lib.hid (HA1.out.read hb)
    replace HA2 := Lib.hid (HA2.out.read hb)
    replace HB4 := Lib.hid (HB4.out.read hb)
    replace HB5 := Lib.hid (HB5.out.read hb)
    replace HW := Lib.hid (belowOn HW.out (Nat.le_refl _) hb)
    have HS5 := Lib.hid (hb.size)
    have HU4 := Lib.hid (at_list hv)
    obtain ⟨ad104, cap104, rfl⟩ := hv.slice
    clear hv hb
    have HTO := Lib.hid (toBindingL_any l0 _ w4 HA0.out.listS hZl0)
    go_wp2_with fail
    refine HTO.out.mono ?_
    rintro e w5 ⟨u5, rfl, hn⟩
    have hb := hn.2
    replace HA0 := Lib.hid (HA0.out.read hb)
    replace HA1 := Lib.hid (HA1.out.read hb)
    replace HA2 := Lib.hid (HA2.out.read hb)
    replace HB4 := Lib.hid (HB4.out.read hb)
    replace HB5 := Lib.hid (HB5.out.read hb)
    replace HU4 := Lib.hid (HU4.out.read hb)
    replace HW := Lib.hid (belowOn HW.out (Nat.le_refl _) hb)
    have HS6 := Lib.hid (hb.size)
    have HU5 := Lib.hid hn.at
    obtain ⟨ad105, cap105, rfl⟩ := hn.1.slice
    clear HTO hn hb
    obtain ⟨c0a, c0b, c0c, c0d⟩ := HB4.out.cells
    have z0 := HB4.out.le
    have HTO := Lib.hid (toTerm_any t1 _ w5 HA1.out.argsAt hZt1)
    go_wp2_with fail
    refine HTO.out.mono ?_
    rintro e w6 ⟨u6, rfl, hn⟩
    clear c0a c0b c0c c0d z0
    have hb := hn.2
    replace HA0 := Lib.hid (HA0.out.read hb)
    replace HA1 := Lib.hid (HA1.out.read hb)
    replace HA2 := Lib.hid (HA2.out.read hb)
    replace HB4 := Lib.hid (HB4.out.read hb)
    replace HB5 := Lib.hid (HB5.out.read hb)
    replace HU4 := Lib.hid (HU4.out.read hb)
    replace HU5 := Lib.hid (HU5.out.read hb)
    replace HW := Lib.hid (belowOn HW.out (Nat.le_refl _) hb)
    have HS7 := Lib.hid (hb.size)
    have HU6 := Lib.hid hn.at
    obtain ⟨ad106, cap106, rfl⟩ := hn.1.argsAt.slice
    clear HTO hn hb
    have hal : Below w6.heap.size w6 (w6.alloc (.cells #[.int .i64 t1.kind, .int .i64 t1.num, .string t1.name, .slice ad106 t1.args.length cap106] 34)) := (Below.refl _ _).alloc (Nat.le_refl _) _
    replace HA0 := Lib.hid (HA0.out.read hal)
    replace HA1 := Lib.hid (HA1.out.read hal)
    replace HA2 := Lib.hid (HA2.out.read hal)
    replace HB4 := Lib.hid (HB4.out.read hal)
    replace HB5 := Lib.hid (HB5.out.read hal)
    replace HU4 := Lib.hid (HU4.out.read hal)
    replace HU5 := Lib.hid (HU5.out.read hal)
    replace HU6 := Lib.hid (HU6.out.read hal)
    replace HW := Lib.hid (belowOn HW.out (Nat.le_refl _) hal)
    have HB11 := Lib.hid (at_box_of w6 #[.int .i64 t1.kind, .int .i64 t1.num, .string t1.name, .slice ad106 t1.args.length cap106] 34 (w6.heap.size) (by simp))
    have HS8 := Lib.hid (show (w6.alloc (.cells #[.int .i64 t1.kind, .int .i64 t1.num, .string t1.name, .slice ad106 t1.args.length cap106] 34)).heap.size = w6.heap.size + 1 by simp)
    clear hal
    obtain ⟨c0a, c0b, c0c, c0d⟩ := HB5.out.cells
    have z0 := HB5.out.le
    have HTO := Lib.hid (toTerm_any t2 _ (w6.alloc (.cells #[.int .i64 t1.kind, .int .i64 t1.num, .string t1.name, .slice ad106 t1.args.length cap106] 34)) HA2.out.argsAt hZt2)
    go_wp2_with fail
    refine HTO.out.mono ?_
    rintro e w7 ⟨u7, rfl, hn⟩
    clear c0a c0b c0c c0d z0
    have hb := hn.2
    replace HA0 := Lib.hid (HA0.out.read hb)
    replace HA1 := Lib.hid (HA1.out.read hb)
    replace HA2 := Lib.hid (HA2.out.read hb)
    replace HB4 := Lib.hid (HB4.out.read hb)
    replace HB5 := Lib.hid (HB5.out.read hb)
    replace HU4 := Lib.hid (HU4.out.read hb)
    replace HU5 := Lib.hid (HU5.out.read hb)
    replace HU6 := Lib.hid (HU6.out.read hb)
    replace HB11 := Lib.hid (HB11.out.read hb)
    replace HW := Lib.hid (belowOn HW.out (Nat.le_refl _) hb)
    have HS9 := Lib.hid (hb.size)
    have HU7 := Lib.hid hn.at
    obtain ⟨ad107, cap107, rfl⟩ := hn.1.argsAt.slice
    clear HTO hn hb
    have hal : Below w7.heap.size w7 (w7.alloc (.cells #[.int .i64 t2.kind, .int .i64 t2.num, .string t2.name, .slice ad107 t2.args.length cap107] 34)) := (Below.refl _ _).alloc (Nat.le_refl _) _
    replace HA0 := Lib.hid (HA0.out.read hal)
    replace HA1 := Lib.hid (HA1.out.read hal)
    replace HA2 := Lib.hid (HA2.out.read hal)
    replace HB4 := Lib.hid (HB4.out.read hal)
    replace HB5 := Lib.hid (HB5.out.read hal)
    replace HU4 := Lib.hid (HU4.out.read hal)
    replace HU5 := Lib.hid (HU5.out.read hal)
    replace HU6 := Lib.hid (HU6.out.read hal)
    replace HB11 := Lib.hid (HB11.out.read hal)
    replace HU7 := Lib.hid (HU7.out.read hal)
    replace HW := Lib.hid (belowOn HW.out (Nat.le_refl _) hal)
    have HB12 := Lib.hid (at_box_of w7 #[.int .i64 t2.kind, .int .i64 t2.num, .string t2.name, .slice ad107 t2.args.length cap107] 34 (w7.heap.size) (by simp))
    have HS10 := Lib.hid (show (w7.alloc (.cells #[.int .i64 t2.kind, .int .i64 t2.num, .string t2.name, .slice ad107 t2.args.length cap107] 34)).heap.size = w7.heap.size + 1 by simp)
    clear hal
    obtain ⟨c0a, c0b, c0c, c0d⟩ := HB11.out.cells
    have z0 := HB11.out.le
    obtain ⟨c1a, c1b, c1c, c1d⟩ := HB12.out.cells
    have z1 := HB12.out.le
    have HF := Lib.hid (implUnify_any l0 _ t1 _ t2 _ (w7.alloc (.cells #[.int .i64 t2.kind, .int .i64 t2.num, .string t2.name, .slice ad107 t2.args.length cap107] 34)) HU5.out.listS hZl0 f0 HU6.out.argsAt hZt1 HU7.out.argsAt hZt2)
    go_wp2_with fail
    refine HF.out.mono ?_
    rintro e w8 ⟨u8, rfl, hv, hb⟩
    clear c0a c0b c0c c0d z0 c1a c1b c1c c1d z1
    replace HA0 := Lib.hid (HA0.out.read hb)
    replace HA1 := Lib.hid (HA1.out.read hb)
    replace HA2 := Lib.hid (HA2.out.read hb)
    replace HB4 := Lib.hid (HB4.out.read hb)
    replace HB5 := Lib.hid (HB5.out.read hb)
    replace HU4 := Lib.hid (HU4.out.read hb)
    replace HU5 := Lib.hid (HU5.out.read hb)
    replace HU6 := Lib.hid (HU6.out.read hb)
    replace HB11 := Lib.hid (HB11.out.read hb)
    replace HU7 := Lib.hid (HU7.out.read hb)
    replace HB12 := Lib.hid (HB12.out.read hb)
    replace HW := Lib.hid (belowOn HW.out (Nat.le_refl _) hb)
    have HS11 := Lib.hid (hb.size)
    have HU8 := Lib.hid (at_listO hv (Nat.le_refl _))
    obtain ⟨ad108, cap108, rfl⟩ := hv.slice
    clear HF hv hb
    have HF := Lib.hid (eqBindingL_any (unL l0 t1 t2) _ _ w8 HU8.out.listS HU4.out.listS (un_each l0 t1 t2))
    go_wp2_with fail
    refine HF.out.mono ?_
    rintro e w9 ⟨rfl, hb⟩
    replace HA0 := Lib.hid (HA0.out.read hb)
    replace HA1 := Lib.hid (HA1.out.read hb)
    replace HA2 := Lib.hid (HA2.out.read hb)
    replace HB4 := Lib.hid (HB4.out.read hb)
    replace HB5 := Lib.hid (HB5.out.read hb)
    replace HU4 := Lib.hid (HU4.out.read hb)
    replace HU5 := Lib.hid (HU5.out.read hb)
    replace HU6 := Lib.hid (HU6.out.read hb)
    replace HB11 := Lib.hid (HB11.out.read hb)
    replace HU7 := Lib.hid (HU7.out.read hb)
    replace HB12 := Lib.hid (HB12.out.read hb)
    replace HU8 := Lib.hid (HU8.out.read hb)
    replace HW := Lib.hid (belowOn HW.out (Nat.le_refl _) hb)
    have HS12 := Lib.hid (hb.size)
    clear HF hb
    have HTO := Lib.hid (toBindingL_any l0 _ w9 HA0.out.listS hZl0)
    go_wp2_with fail
    refine HTO.out.mono ?_
    rintro e w10 ⟨u10, rfl, hn⟩
    have hb := hn.2
    replace HA0 := Lib.hid (HA0.out.read hb)
    replace HA1 := Lib.hid (HA1.out.read hb)
    replace HA2 := Lib.hid (HA2.out.read hb)
    replace HB4 := Lib.hid (HB4.out.read hb)
    replace HB5 := Lib.hid (HB5.out.read hb)
    replace HU4 := Lib.hid (HU4.out.read hb)
    replace HU5 := Lib.hid (HU5.out.read hb)
    replace HU6 := Lib.hid (HU6.out.read hb)
    replace HB11 := Lib.hid (HB11.out.read hb)
    replace HU7 := Lib.hid (HU7.out.read hb)
    replace HB12 := Lib.hid (HB12.out.read hb)
    replace HU8 := Lib.hid (HU8.out.read hb)
    replace HW := Lib.hid (belowOn HW.out (Nat.le_refl _) hb)
    have HS13 := Lib.hid (hb.size)
    have HU10 := Lib.hid hn.at
    obtain ⟨ad110, cap110, rfl⟩ := hn.1.slice
    clear HTO hn hb
    have HF := Lib.hid (eqBindingL_any l0 _ _ w10 HU5.out.listS HU10.out.listS (eachB_of hZl0))
    go_wp2_with fail
    refine HF.out.mono ?_
    rintro e w11 ⟨rfl, hb⟩
    replace HA0 := Lib.hid (HA0.out.read hb)
    replace HA1 := Lib.hid (HA1.out.read hb)
    replace HA2 := Lib.hid (HA2.out.read hb)
    replace HB4 := Lib.hid (HB4.out.read hb)
    replace HB5 := Lib.hid (HB5.out.read hb)
    replace HU4 := Lib.hid (HU4.out.read hb)
    replace HU5 := Lib.hid (HU5.out.read hb)
    replace HU6 := Lib.hid (HU6.out.read hb)
    replace HB11 := Lib.hid (HB11.out.read hb)
    replace HU7 := Lib.hid (HU7.out.read hb)
    replace HB12 := Lib.hid (HB12.out.read hb)
    replace HU8 := Lib.hid (HU8.out.read hb)
    replace HU10 := Lib.hid (HU10.out.read hb)
    replace HW := Lib.hid (belowOn HW.out (Nat.le_refl _) hb)
    have HS14 := Lib.hid (hb.size)
    clear HF hb
    go_upto_region 20 with (fail)
    go_cut [76] from 72 (fun b wx => b = .bool false ∧ Below w11.heap.size w11 wx)
    case first =>
      obtain ⟨c0a, c0b, c0c, c0d⟩ := HB11.out.cells
      have z0 := HB11.out.le
      obtain ⟨c1a, c1b, c1c, c1d⟩ := HB4.out.cells
      have z1 := HB4.out.le
      have hself : Below w11.heap.size w11 w11 := Below.refl _ _
      have hdrew : Below w11.heap.size w11 w11.drew := hself.drew
      have HCE : Hid (∀ W, Below w11.heap.size w11 W → W.cell? ⟨w6.heap.size, 0, none⟩ = some (.int .i64 t1.kind) ∧ W.cell? ⟨w6.heap.size, 1, none⟩ = some (.int .i64 t1.num) ∧ W.cell? ⟨w6.heap.size, 2, none⟩ = some (.string t1.name) ∧ W.cell? ⟨w6.heap.size, 3, none⟩ = some (.slice ad106 t1.args.length cap106) ∧ W.cell? ⟨w.heap.size, 0, none⟩ = some (.int .i64 t1.kind) ∧ W.cell? ⟨w.heap.size, 1, none⟩ = some (.int .i64 t1.num) ∧ W.cell? ⟨w.heap.size, 2, none⟩ = some (.string t1.name) ∧ W.cell? ⟨w.heap.size, 3, none⟩ = some (.slice ad1 t1.args.length cap1)) := Lib.hid fun W hW => by
        obtain ⟨y0a, y0b, y0c, y0d⟩ := (HB11.out.read hW).cells
        obtain ⟨y1a, y1b, y1c, y1d⟩ := (HB4.out.read hW).cells
        exact ⟨y0a, y0b, y0c, y0d, y1a, y1b, y1c, y1d⟩
      have HTR : Hid (∀ a b, Below w11.heap.size w11 a → Below a.heap.size a b → Below w11.heap.size w11 b) := Lib.hid fun a b h1 h2 => belowOn h1 (Nat.le_refl _) h2
      have HTO0 : Hid (∀ W, Below w11.heap.size w11 W → Calls Tryz.prog 9 #[.agg #[.int .i64 t1.kind, .int .i64 t1.num, .string t1.name, .slice ad1 t1.args.length cap1]] W fun e w' => ∃ u, e = .returned (.agg #[.int .i64 t1.kind, .int .i64 t1.num, .string t1.name, u]) ∧ (∀ W2, Below w'.heap.size w' W2 → ArgsAt W2 u t1.args) ∧ Below W.heap.size W w') := Lib.hid fun W hW =>
        (toTerm_any t1 _ W (HA1.out.read hW).argsAt hZt1).mono fun e w' ⟨u, he, hn⟩ => ⟨u, he, fun W2 h2 => hn.1.argsAt.kept h2, hn.2⟩
      have HEQ : Hid (∀ W u, Below w11.heap.size w11 W → ArgsAt W u t1.args → Calls Tryz.prog 12 #[.agg #[.int .i64 t1.kind, .int .i64 t1.num, .string t1.name, .slice ad106 t1.args.length cap106], .agg #[.int .i64 t1.kind, .int .i64 t1.num, .string t1.name, u]] W (Yes W)) := Lib.hid fun W u hW hu => eqTerm_any t1 _ _ W (HU6.out.read hW).argsAt hu hZt1
      clear HW HA0 HA1 HA2 HB4 HB5 HU4 HU5 HU6 HB11 HU7 HB12 HU8 HU10
      go_region_held3 (fun w' => Below w11.heap.size w11 w' ∧ w'.cell? ⟨w6.heap.size, 0, none⟩ = some (.int .i64 t1.kind) ∧ w'.cell? ⟨w6.heap.size, 1, none⟩ = some (.int .i64 t1.num) ∧ w'.cell? ⟨w6.heap.size, 2, none⟩ = some (.string t1.name) ∧ w'.cell? ⟨w6.heap.size, 3, none⟩ = some (.slice ad106 t1.args.length cap106) ∧ w'.cell? ⟨w.heap.size, 0, none⟩ = some (.int .i64 t1.kind) ∧ w'.cell? ⟨w.heap.size, 1, none⟩ = some (.int .i64 t1.num) ∧ w'.cell? ⟨w.heap.size, 2, none⟩ = some (.string t1.name) ∧ w'.cell? ⟨w.heap.size, 3, none⟩ = some (.slice ad1 t1.args.length cap1)) (go_keep)
        (first
          | (go_at_call 9; (with_reducible refine Calls.mono (HTO0.out _ ?_) ?_); (first | assumption | exact belowAlloc (by assumption) _ | exact (belowAlloc (by assumption) _).drew); rintro e wA0 ⟨u0, rfl, hu0, hb0⟩; have HUU0 := Lib.hid hu0; clear hu0; have hB0 := HTR.out _ _ (by first | assumption | exact belowAlloc (by assumption) _ | exact (belowAlloc (by assumption) _).drew) hb0; obtain ⟨k0, k1, k2, k3, k4, k5, k6, k7⟩ := HCE.out _ hB0)
          | (go_at_call 12; (with_reducible refine Calls.mono (HEQ.out _ _ ?_ ?_) ?_); (assumption); (first | exact HUU0.out _ (Below.refl _ _) | exact HUU0.out _ (by assumption)); rintro e w' ⟨rfl, hbz⟩; have hB' := HTR.out _ _ (by assumption) hbz; obtain ⟨k0, k1, k2, k3, k4, k5, k6, k7⟩ := HCE.out _ hB'))
      all_goals (go_wp2_with fail; go_meet; exact ⟨rfl, by assumption⟩)
    case rest =>
      obtain ⟨rfl, hb⟩ := hcut
      obtain ⟨w12, rfl⟩ : ∃ x : World, x = wc := ⟨_, rfl⟩
      replace HA0 := Lib.hid (HA0.out.read hb)
      replace HA1 := Lib.hid (HA1.out.read hb)
      replace HA2 := Lib.hid (HA2.out.read hb)
      replace HB4 := Lib.hid (HB4.out.read hb)
      replace HB5 := Lib.hid (HB5.out.read hb)
      replace HU4 := Lib.hid (HU4.out.read hb)
      replace HU5 := Lib.hid (HU5.out.read hb)
      replace HU6 := Lib.hid (HU6.out.read hb)
      replace HB11 := Lib.hid (HB11.out.read hb)
      replace HU7 := Lib.hid (HU7.out.read hb)
      replace HB12 := Lib.hid (HB12.out.read hb)
      replace HU8 := Lib.hid (HU8.out.read hb)
      replace HU10 := Lib.hid (HU10.out.read hb)
      replace HW := Lib.hid (belowOn HW.out (Nat.le_refl _) hb)
      have HS15 := Lib.hid (hb.size)
      clear hb
      go_upto_region 22 with (fail)
      go_cut [81] from 77 (fun b wx => b = .bool false ∧ Below w12.heap.size w12 wx)
      case first =>
        obtain ⟨c0a, c0b, c0c, c0d⟩ := HB12.out.cells
        have z0 := HB12.out.le
        obtain ⟨c1a, c1b, c1c, c1d⟩ := HB5.out.cells
        have z1 := HB5.out.le
        have hself : Below w12.heap.size w12 w12 := Below.refl _ _
        have hdrew : Below w12.heap.size w12 w12.drew := hself.drew
        have HCE : Hid (∀ W, Below w12.heap.size w12 W → W.cell? ⟨w7.heap.size, 0, none⟩ = some (.int .i64 t2.kind) ∧ W.cell? ⟨w7.heap.size, 1, none⟩ = some (.int .i64 t2.num) ∧ W.cell? ⟨w7.heap.size, 2, none⟩ = some (.string t2.name) ∧ W.cell? ⟨w7.heap.size, 3, none⟩ = some (.slice ad107 t2.args.length cap107) ∧ W.cell? ⟨w.heap.size + 1, 0, none⟩ = some (.int .i64 t2.kind) ∧ W.cell? ⟨w.heap.size + 1, 1, none⟩ = some (.int .i64 t2.num) ∧ W.cell? ⟨w.heap.size + 1, 2, none⟩ = some (.string t2.name) ∧ W.cell? ⟨w.heap.size + 1, 3, none⟩ = some (.slice ad2 t2.args.length cap2)) := Lib.hid fun W hW => by
          obtain ⟨y0a, y0b, y0c, y0d⟩ := (HB12.out.read hW).cells
          obtain ⟨y1a, y1b, y1c, y1d⟩ := (HB5.out.read hW).cells
          exact ⟨y0a, y0b, y0c, y0d, y1a, y1b, y1c, y1d⟩
        have HTR : Hid (∀ a b, Below w12.heap.size w12 a → Below a.heap.size a b → Below w12.heap.size w12 b) := Lib.hid fun a b h1 h2 => belowOn h1 (Nat.le_refl _) h2
        have HTO0 : Hid (∀ W, Below w12.heap.size w12 W → Calls Tryz.prog 9 #[.agg #[.int .i64 t2.kind, .int .i64 t2.num, .string t2.name, .slice ad2 t2.args.length cap2]] W fun e w' => ∃ u, e = .returned (.agg #[.int .i64 t2.kind, .int .i64 t2.num, .string t2.name, u]) ∧ (∀ W2, Below w'.heap.size w' W2 → ArgsAt W2 u t2.args) ∧ Below W.heap.size W w') := Lib.hid fun W hW =>
          (toTerm_any t2 _ W (HA2.out.read hW).argsAt hZt2).mono fun e w' ⟨u, he, hn⟩ => ⟨u, he, fun W2 h2 => hn.1.argsAt.kept h2, hn.2⟩
        have HEQ : Hid (∀ W u, Below w12.heap.size w12 W → ArgsAt W u t2.args → Calls Tryz.prog 12 #[.agg #[.int .i64 t2.kind, .int .i64 t2.num, .string t2.name, .slice ad107 t2.args.length cap107], .agg #[.int .i64 t2.kind, .int .i64 t2.num, .string t2.name, u]] W (Yes W)) := Lib.hid fun W u hW hu => eqTerm_any t2 _ _ W (HU7.out.read hW).argsAt hu hZt2
        clear HW HA0 HA1 HA2 HB4 HB5 HU4 HU5 HU6 HB11 HU7 HB12 HU8 HU10
        go_region_held3 (fun w' => Below w12.heap.size w12 w' ∧ w'.cell? ⟨w7.heap.size, 0, none⟩ = some (.int .i64 t2.kind) ∧ w'.cell? ⟨w7.heap.size, 1, none⟩ = some (.int .i64 t2.num) ∧ w'.cell? ⟨w7.heap.size, 2, none⟩ = some (.string t2.name) ∧ w'.cell? ⟨w7.heap.size, 3, none⟩ = some (.slice ad107 t2.args.length cap107) ∧ w'.cell? ⟨w.heap.size + 1, 0, none⟩ = some (.int .i64 t2.kind) ∧ w'.cell? ⟨w.heap.size + 1, 1, none⟩ = some (.int .i64 t2.num) ∧ w'.cell? ⟨w.heap.size + 1, 2, none⟩ = some (.string t2.name) ∧ w'.cell? ⟨w.heap.size + 1, 3, none⟩ = some (.slice ad2 t2.args.length cap2)) (go_keep)
          (first
            | (go_at_call 9; (with_reducible refine Calls.mono (HTO0.out _ ?_) ?_); (first | assumption | exact belowAlloc (by assumption) _ | exact (belowAlloc (by assumption) _).drew); rintro e wA0 ⟨u0, rfl, hu0, hb0⟩; have HUU0 := Lib.hid hu0; clear hu0; have hB0 := HTR.out _ _ (by first | assumption | exact belowAlloc (by assumption) _ | exact (belowAlloc (by assumption) _).drew) hb0; obtain ⟨k0, k1, k2, k3, k4, k5, k6, k7⟩ := HCE.out _ hB0)
            | (go_at_call 12; (with_reducible refine Calls.mono (HEQ.out _ _ ?_ ?_) ?_); (assumption); (first | exact HUU0.out _ (Below.refl _ _) | exact HUU0.out _ (by assumption)); rintro e w' ⟨rfl, hbz⟩; have hB' := HTR.out _ _ (by assumption) hbz; obtain ⟨k0, k1, k2, k3, k4, k5, k6, k7⟩ := HCE.out _ hB'))
        all_goals (go_wp2_with fail; go_meet; exact ⟨rfl, by assumption⟩)
      case rest =>
        obtain ⟨rfl, hb⟩ := hcut
        obtain ⟨w13, rfl⟩ : ∃ x : World, x = wc := ⟨_, rfl⟩
        replace HA0 := Lib.hid (HA0.out.read hb)
        replace HA1 := Lib.hid (HA1.out.read hb)
        replace HA2 := Lib.hid (HA2.out.read hb)
        replace HB4 := Lib.hid (HB4.out.read hb)
        replace HB5 := Lib.hid (HB5.out.read hb)
        replace HU4 := Lib.hid (HU4.out.read hb)
        replace HU5 := Lib.hid (HU5.out.read hb)
        replace HU6 := Lib.hid (HU6.out.read hb)
        replace HB11 := Lib.hid (HB11.out.read hb)
        replace HU7 := Lib.hid (HU7.out.read hb)
        replace HB12 := Lib.hid (HB12.out.read hb)
        replace HU8 := Lib.hid (HU8.out.read hb)
        replace HU10 := Lib.hid (HU10.out.read hb)
        replace HW := Lib.hid (belowOn HW.out (Nat.le_refl _) hb)
        have HS16 := Lib.hid (hb.size)
        clear hb
        have hnl := (nk_bd hZl0)
        have HF := Lib.hid (markBindingL_any l0 _ (1) _ _ w13 HU5.out (by omega) (by omega))
        go_wp2_with fail
        refine HF.out.mono ?_
        rintro e w14 ⟨rfl, hat, ho⟩
        have s0 := HS0.out
        have s1 := HS1.out
        have s2 := HS2.out
        have s3 := HS3.out
        have s4 := HS4.out
        have s5 := HS5.out
        have s6 := HS6.out
        have s7 := HS7.out
        have s8 := HS8.out
        have s9 := HS9.out
        have s10 := HS10.out
        have s11 := HS11.out
        have s12 := HS12.out
        have s13 := HS13.out
        have s14 := HS14.out
        have s15 := HS15.out
        have s16 := HS16.out
        replace HA0 := Lib.hid (HA0.out.only ho (by omega))
        replace HA1 := Lib.hid (HA1.out.only ho (by omega))
        replace HA2 := Lib.hid (HA2.out.only ho (by omega))
        replace HB4 := Lib.hid (HB4.out.only ho (by omega))
        replace HB5 := Lib.hid (HB5.out.only ho (by omega))
        replace HU4 := Lib.hid (HU4.out.only ho (by omega))
        replace HU6 := Lib.hid (HU6.out.only ho (by omega))
        replace HB11 := Lib.hid (HB11.out.only ho (by omega))
        replace HU7 := Lib.hid (HU7.out.only ho (by omega))
        replace HB12 := Lib.hid (HB12.out.only ho (by omega))
        replace HU8 := Lib.hid (HU8.out.only ho (by omega))
        replace HU10 := Lib.hid (HU10.out.only ho (by omega))
        replace HW := Lib.hid (HW.out.trans (ho.below (fun k hk => by have := hk.1; omega) (by omega)))
        clear s0 s1 s2 s3 s4 s5 s6 s7 s8 s9 s10 s11 s12 s13 s14 s15 s16
        replace HU5 := Lib.hid hat
        have HS17 := Lib.hid (ho.size)
        clear HF hat ho
        obtain ⟨c0a, c0b, c0c, c0d⟩ := HB11.out.cells
        have z0 := HB11.out.le
        have hnl := nl_bd hZt1
        have HF := Lib.hid (markTerm_any t1.kind t1.num t1.name t1.args _ (1 + (nkB l0 : Int)) _ _ w14 HU6.out (by omega) (by omega))
        go_wp2_with fail
        refine HF.out.mono ?_
        rintro e w15 ⟨rfl, hat, ho⟩
        clear c0a c0b c0c c0d z0
        have s0 := HS0.out
        have s1 := HS1.out
        have s2 := HS2.out
        have s3 := HS3.out
        have s4 := HS4.out
        have s5 := HS5.out
        have s6 := HS6.out
        have s7 := HS7.out
        have s8 := HS8.out
        have s9 := HS9.out
        have s10 := HS10.out
        have s11 := HS11.out
        have s12 := HS12.out
        have s13 := HS13.out
        have s14 := HS14.out
        have s15 := HS15.out
        have s16 := HS16.out
        have s17 := HS17.out
        replace HA0 := Lib.hid (HA0.out.only ho (by omega))
        replace HA1 := Lib.hid (HA1.out.only ho (by omega))
        replace HA2 := Lib.hid (HA2.out.only ho (by omega))
        replace HB4 := Lib.hid (HB4.out.only ho (by omega))
        replace HB5 := Lib.hid (HB5.out.only ho (by omega))
        replace HU4 := Lib.hid (HU4.out.only ho (by omega))
        replace HU5 := Lib.hid (HU5.out.only ho (by omega))
        replace HB11 := Lib.hid (HB11.out.only ho (by omega))
        replace HU7 := Lib.hid (HU7.out.only ho (by omega))
        replace HB12 := Lib.hid (HB12.out.only ho (by omega))
        replace HU8 := Lib.hid (HU8.out.only ho (by omega))
        replace HU10 := Lib.hid (HU10.out.only ho (by omega))
        replace HW := Lib.hid (HW.out.trans (ho.below (fun k hk => by have := hk.1; omega) (by omega)))
        clear s0 s1 s2 s3 s4 s5 s6 s7 s8 s9 s10 s11 s12 s13 s14 s15 s16 s17
        replace HU6 := Lib.hid hat
        have HS18 := Lib.hid (ho.size)
        clear HF hat ho
        obtain ⟨c0a, c0b, c0c, c0d⟩ := HB12.out.cells
        have z0 := HB12.out.le
        have hnl := nl_bd hZt2
        have HF := Lib.hid (markTerm_any t2.kind t2.num t2.name t2.args _ (1 + (nkB l0 : Int) + 3 * (nodesL t1.args : Int)) _ _ w15 HU7.out (by omega) (by omega))
        go_wp2_with fail
        refine HF.out.mono ?_
        rintro e w16 ⟨rfl, hat, ho⟩
        clear c0a c0b c0c c0d z0
        have s0 := HS0.out
        have s1 := HS1.out
        have s2 := HS2.out
        have s3 := HS3.out
        have s4 := HS4.out
        have s5 := HS5.out
        have s6 := HS6.out
        have s7 := HS7.out
        have s8 := HS8.out
        have s9 := HS9.out
        have s10 := HS10.out
        have s11 := HS11.out
        have s12 := HS12.out
        have s13 := HS13.out
        have s14 := HS14.out
        have s15 := HS15.out
        have s16 := HS16.out
        have s17 := HS17.out
        have s18 := HS18.out
        replace HA0 := Lib.hid (HA0.out.only ho (by omega))
        replace HA1 := Lib.hid (HA1.out.only ho (by omega))
        replace HA2 := Lib.hid (HA2.out.only ho (by omega))
        replace HB4 := Lib.hid (HB4.out.only ho (by omega))
        replace HB5 := Lib.hid (HB5.out.only ho (by omega))
        replace HU4 := Lib.hid (HU4.out.only ho (by omega))
        replace HU5 := Lib.hid (HU5.out.only ho (by omega))
        replace HU6 := Lib.hid (HU6.out.only ho (by omega))
        replace HB11 := Lib.hid (HB11.out.only ho (by omega))
        replace HB12 := Lib.hid (HB12.out.only ho (by omega))
        replace HU8 := Lib.hid (HU8.out.only ho (by omega))
        replace HU10 := Lib.hid (HU10.out.only ho (by omega))
        replace HW := Lib.hid (HW.out.trans (ho.below (fun k hk => by have := hk.1; omega) (by omega)))
        clear s0 s1 s2 s3 s4 s5 s6 s7 s8 s9 s10 s11 s12 s13 s14 s15 s16 s17 s18
        replace HU7 := Lib.hid hat
        have HS19 := Lib.hid (ho.size)
        clear HF hat ho
        have HF := Lib.hid (eqBindingL_any (unL l0 t1 t2) _ _ w16 HU8.out.listS HU4.out.listS (un_each l0 t1 t2))
        go_wp2_with fail
        refine HF.out.mono ?_
        rintro e w17 ⟨rfl, hb⟩
        replace HA0 := Lib.hid (HA0.out.read hb)
        replace HA1 := Lib.hid (HA1.out.read hb)
        replace HA2 := Lib.hid (HA2.out.read hb)
        replace HB4 := Lib.hid (HB4.out.read hb)
        replace HB5 := Lib.hid (HB5.out.read hb)
        replace HU4 := Lib.hid (HU4.out.read hb)
        replace HU5 := Lib.hid (HU5.out.read hb)
        replace HU6 := Lib.hid (HU6.out.read hb)
        replace HB11 := Lib.hid (HB11.out.read hb)
        replace HU7 := Lib.hid (HU7.out.read hb)
        replace HB12 := Lib.hid (HB12.out.read hb)
        replace HU8 := Lib.hid (HU8.out.read hb)
        replace HU10 := Lib.hid (HU10.out.read hb)
        replace HW := Lib.hid (belowOn HW.out (Nat.le_refl _) hb)
        have HS20 := Lib.hid (hb.size)
        clear HF hb
        have hnl := (un_nk l0 t1 t2)
        have HF := Lib.hid (markBindingL_any (unL l0 t1 t2) _ (1) _ _ w17 HU8.out (by omega) (by omega))
        go_wp2_with fail
        refine HF.out.mono ?_
        rintro e w18 ⟨rfl, hat, ho⟩
        have s0 := HS0.out
        have s1 := HS1.out
        have s2 := HS2.out
        have s3 := HS3.out
        have s4 := HS4.out
        have s5 := HS5.out
        have s6 := HS6.out
        have s7 := HS7.out
        have s8 := HS8.out
        have s9 := HS9.out
        have s10 := HS10.out
        have s11 := HS11.out
        have s12 := HS12.out
        have s13 := HS13.out
        have s14 := HS14.out
        have s15 := HS15.out
        have s16 := HS16.out
        have s17 := HS17.out
        have s18 := HS18.out
        have s19 := HS19.out
        have s20 := HS20.out
        replace HA0 := Lib.hid (HA0.out.only ho (by omega))
        replace HA1 := Lib.hid (HA1.out.only ho (by omega))
        replace HA2 := Lib.hid (HA2.out.only ho (by omega))
        replace HB4 := Lib.hid (HB4.out.only ho (by omega))
        replace HB5 := Lib.hid (HB5.out.only ho (by omega))
        replace HU4 := Lib.hid (HU4.out.only ho (by omega))
        replace HU5 := Lib.hid (HU5.out.only ho (by omega))
        replace HU6 := Lib.hid (HU6.out.only ho (by omega))
        replace HB11 := Lib.hid (HB11.out.only ho (by omega))
        replace HU7 := Lib.hid (HU7.out.only ho (by omega))
        replace HB12 := Lib.hid (HB12.out.only ho (by omega))
        replace HU10 := Lib.hid (HU10.out.only ho (by omega))
        replace HW := Lib.hid (HW.out.trans (ho.below (fun k hk => by have := hk.1; omega) (by omega)))
        clear s0 s1 s2 s3 s4 s5 s6 s7 s8 s9 s10 s11 s12 s13 s14 s15 s16 s17 s18 s19 s20
        replace HU8 := Lib.hid hat
        have HS21 := Lib.hid (ho.size)
        clear HF hat ho
        have hnl := (un_nk l0 t1 t2)
        have HF := Lib.hid (heldBindings_any (unL l0 t1 t2) _ (1) w18 HU8.out.listS (by omega) (by omega))
        go_wp2_with fail
        refine HF.out.mono ?_
        rintro e w19 ⟨rfl, hb⟩
        replace HA0 := Lib.hid (HA0.out.read hb)
        replace HA1 := Lib.hid (HA1.out.read hb)
        replace HA2 := Lib.hid (HA2.out.read hb)
        replace HB4 := Lib.hid (HB4.out.read hb)
        replace HB5 := Lib.hid (HB5.out.read hb)
        replace HU4 := Lib.hid (HU4.out.read hb)
        replace HU5 := Lib.hid (HU5.out.read hb)
        replace HU6 := Lib.hid (HU6.out.read hb)
        replace HB11 := Lib.hid (HB11.out.read hb)
        replace HU7 := Lib.hid (HU7.out.read hb)
        replace HB12 := Lib.hid (HB12.out.read hb)
        replace HU8 := Lib.hid (HU8.out.read hb)
        replace HU10 := Lib.hid (HU10.out.read hb)
        replace HW := Lib.hid (belowOn HW.out (Nat.le_refl _) hb)
        have HS22 := Lib.hid (hb.size)
        clear HF hb
        go_upto_region 38 with (fail)
        go_cut [18, 19] from 115 (fun p b wx => b = .bool (unB l0 t1 t2) ∧ ListS bdE wx Any p (unL l0 t1 t2) ∧ Below w19.heap.size w19 wx)
        case first =>
          obtain ⟨c0a, c0b, c0c, c0d⟩ := HB4.out.cells
          have z0 := HB4.out.le
          obtain ⟨c1a, c1b, c1c, c1d⟩ := HB5.out.cells
          have z1 := HB5.out.le
          have hself : Below w19.heap.size w19 w19 := Below.refl _ _
          have hdrew : Below w19.heap.size w19 w19.drew := hself.drew
          have HCE : Hid (∀ W, Below w19.heap.size w19 W → W.cell? ⟨w.heap.size, 0, none⟩ = some (.int .i64 t1.kind) ∧ W.cell? ⟨w.heap.size, 1, none⟩ = some (.int .i64 t1.num) ∧ W.cell? ⟨w.heap.size, 2, none⟩ = some (.string t1.name) ∧ W.cell? ⟨w.heap.size, 3, none⟩ = some (.slice ad1 t1.args.length cap1) ∧ W.cell? ⟨w.heap.size + 1, 0, none⟩ = some (.int .i64 t2.kind) ∧ W.cell? ⟨w.heap.size + 1, 1, none⟩ = some (.int .i64 t2.num) ∧ W.cell? ⟨w.heap.size + 1, 2, none⟩ = some (.string t2.name) ∧ W.cell? ⟨w.heap.size + 1, 3, none⟩ = some (.slice ad2 t2.args.length cap2)) := Lib.hid fun W hW => by
            obtain ⟨y0a, y0b, y0c, y0d⟩ := (HB4.out.read hW).cells
            obtain ⟨y1a, y1b, y1c, y1d⟩ := (HB5.out.read hW).cells
            exact ⟨y0a, y0b, y0c, y0d, y1a, y1b, y1c, y1d⟩
          have HTR : Hid (∀ a b, Below w19.heap.size w19 a → Below a.heap.size a b → Below w19.heap.size w19 b) := Lib.hid fun a b h1 h2 => belowOn h1 (Nat.le_refl _) h2
          have HTO0 : Hid (∀ W, Below w19.heap.size w19 W → Calls Tryz.prog 8 #[(.slice ad0 l0.length cap0)] W fun e w' => ∃ u, e = .returned (u) ∧ (∀ W2, Below w'.heap.size w' W2 → ListS bdE W2 Any u l0) ∧ Below W.heap.size W w') := Lib.hid fun W hW =>
            (toBindingL_any l0 _ W (HA0.out.read hW).listS hZl0).mono fun e w' ⟨u, he, hn⟩ => ⟨u, he, fun W2 h2 => hn.1.inS.any.kept h2, hn.2⟩
          have HTO1 : Hid (∀ W, Below w19.heap.size w19 W → Calls Tryz.prog 9 #[.agg #[.int .i64 t1.kind, .int .i64 t1.num, .string t1.name, .slice ad1 t1.args.length cap1]] W fun e w' => ∃ u, e = .returned (.agg #[.int .i64 t1.kind, .int .i64 t1.num, .string t1.name, u]) ∧ (∀ W2, Below w'.heap.size w' W2 → ArgsAt W2 u t1.args) ∧ Below W.heap.size W w') := Lib.hid fun W hW =>
            (toTerm_any t1 _ W (HA1.out.read hW).argsAt hZt1).mono fun e w' ⟨u, he, hn⟩ => ⟨u, he, fun W2 h2 => hn.1.argsAt.kept h2, hn.2⟩
          have HTO2 : Hid (∀ W, Below w19.heap.size w19 W → Calls Tryz.prog 9 #[.agg #[.int .i64 t2.kind, .int .i64 t2.num, .string t2.name, .slice ad2 t2.args.length cap2]] W fun e w' => ∃ u, e = .returned (.agg #[.int .i64 t2.kind, .int .i64 t2.num, .string t2.name, u]) ∧ (∀ W2, Below w'.heap.size w' W2 → ArgsAt W2 u t2.args) ∧ Below W.heap.size W w') := Lib.hid fun W hW =>
            (toTerm_any t2 _ W (HA2.out.read hW).argsAt hZt2).mono fun e w' ⟨u, he, hn⟩ => ⟨u, he, fun W2 h2 => hn.1.argsAt.kept h2, hn.2⟩
          have HF : Hid (∀ W u0 u1 u2, Below w19.heap.size w19 W → ListS bdE W Any u0 l0 → ArgsAt W u1 t1.args → ArgsAt W u2 t2.args → Calls Tryz.prog 10 #[u0, .agg #[.int .i64 t1.kind, .int .i64 t1.num, .string t1.name, u1], .agg #[.int .i64 t2.kind, .int .i64 t2.num, .string t2.name, u2]] W (OldB2 (unL l0 t1 t2) (unB l0 t1 t2) W)) := Lib.hid fun W u0 u1 u2 hW hu0 hu1 hu2 => (implUnify_any l0 u0 t1 u1 t2 u2 W hu0 hZl0 f0 hu1 hZt1 hu2 hZt2).mono fun e w' ⟨v, he, hv, hb⟩ => ⟨v, he, hv.inS.any, hb⟩
          clear HW HA0 HA1 HA2 HB4 HB5 HU4 HU5 HU6 HB11 HU7 HB12 HU8 HU10
          go_region_held3 (fun w' => Below w19.heap.size w19 w' ∧ w'.cell? ⟨w.heap.size, 0, none⟩ = some (.int .i64 t1.kind) ∧ w'.cell? ⟨w.heap.size, 1, none⟩ = some (.int .i64 t1.num) ∧ w'.cell? ⟨w.heap.size, 2, none⟩ = some (.string t1.name) ∧ w'.cell? ⟨w.heap.size, 3, none⟩ = some (.slice ad1 t1.args.length cap1) ∧ w'.cell? ⟨w.heap.size + 1, 0, none⟩ = some (.int .i64 t2.kind) ∧ w'.cell? ⟨w.heap.size + 1, 1, none⟩ = some (.int .i64 t2.num) ∧ w'.cell? ⟨w.heap.size + 1, 2, none⟩ = some (.string t2.name) ∧ w'.cell? ⟨w.heap.size + 1, 3, none⟩ = some (.slice ad2 t2.args.length cap2)) (go_keep)
            (first
              | (go_at_call 8; (with_reducible refine Calls.mono (HTO0.out _ ?_) ?_); (first | assumption | exact belowAlloc (by assumption) _ | exact (belowAlloc (by assumption) _).drew); rintro e wA0 ⟨u0, rfl, hu0, hb0⟩; have HUU0 := Lib.hid hu0; clear hu0; have hB0 := HTR.out _ _ (by first | assumption | exact belowAlloc (by assumption) _ | exact (belowAlloc (by assumption) _).drew) hb0; obtain ⟨k0, k1, k2, k3, k4, k5, k6, k7⟩ := HCE.out _ hB0)
              | (go_at_call 9; (with_reducible refine Calls.mono (HTO1.out _ ?_) ?_); (first | assumption | exact belowAlloc (by assumption) _ | exact (belowAlloc (by assumption) _).drew); rintro e wA1 ⟨u1, rfl, hu1, hb1⟩; have HUU1 := Lib.hid hu1; clear hu1; have hB1 := HTR.out _ _ (by first | assumption | exact belowAlloc (by assumption) _ | exact (belowAlloc (by assumption) _).drew) hb1; obtain ⟨k0, k1, k2, k3, k4, k5, k6, k7⟩ := HCE.out _ hB1)
              | (go_at_call 9; (with_reducible refine Calls.mono (HTO2.out _ ?_) ?_); (first | assumption | exact belowAlloc (by assumption) _ | exact (belowAlloc (by assumption) _).drew); rintro e wA2 ⟨u2, rfl, hu2, hb2⟩; have HUU2 := Lib.hid hu2; clear hu2; have hB2 := HTR.out _ _ (by first | assumption | exact belowAlloc (by assumption) _ | exact (belowAlloc (by assumption) _).drew) hb2; obtain ⟨k0, k1, k2, k3, k4, k5, k6, k7⟩ := HCE.out _ hB2)
              | (go_at_call 10; (with_reducible refine Calls.mono (HF.out _ _ _ _ ?_ ?_ ?_ ?_) ?_); (assumption); (first | exact HUU0.out _ (Below.refl _ _) | exact HUU0.out _ (by assumption) | exact HUU0.out _ (below3 (by assumption) (by assumption))); (first | exact HUU1.out _ (Below.refl _ _) | exact HUU1.out _ (by assumption) | exact HUU1.out _ (below3 (by assumption) (by assumption))); (first | exact HUU2.out _ (Below.refl _ _) | exact HUU2.out _ (by assumption) | exact HUU2.out _ (below3 (by assumption) (by assumption))); rintro e w' ⟨v9, rfl, hv9, hbz⟩; have hB' := HTR.out _ _ (by assumption) hbz; have HVV := Lib.hid hv9; clear hv9; obtain ⟨k0, k1, k2, k3, k4, k5, k6, k7⟩ := HCE.out _ hB'))
          all_goals (go_wp2_with fail; go_meet; exact ⟨rfl, HVV.out, by assumption⟩)
        case rest =>
          obtain ⟨rfl, hv, hb⟩ := hcut
          obtain ⟨w20, rfl⟩ : ∃ x : World, x = wc := ⟨_, rfl⟩
          replace HA0 := Lib.hid (HA0.out.read hb)
          replace HA1 := Lib.hid (HA1.out.read hb)
          replace HA2 := Lib.hid (HA2.out.read hb)
          replace HB4 := Lib.hid (HB4.out.read hb)
          replace HB5 := Lib.hid (HB5.out.read hb)
          replace HU4 := Lib.hid (HU4.out.read hb)
          replace HU5 := Lib.hid (HU5.out.read hb)
          replace HU6 := Lib.hid (HU6.out.read hb)
          replace HB11 := Lib.hid (HB11.out.read hb)
          replace HU7 := Lib.hid (HU7.out.read hb)
          replace HB12 := Lib.hid (HB12.out.read hb)
          replace HU8 := Lib.hid (HU8.out.read hb)
          replace HU10 := Lib.hid (HU10.out.read hb)
          replace HW := Lib.hid (belowOn HW.out (Nat.le_refl _) hb)
          have HS23 := Lib.hid (hb.size)
          have HU20 := Lib.hid (at_list hv)
          obtain ⟨ad120, cap120, rfl⟩ := hv.slice
          clear hv hb
          have HF := Lib.hid (eqBindingL_any (unL l0 t1 t2) _ _ w20 HU20.out.listS HU4.out.listS (un_each l0 t1 t2))
          go_wp2_with fail
          refine HF.out.mono ?_
          rintro e w21 ⟨rfl, hb⟩
          replace HA0 := Lib.hid (HA0.out.read hb)
          replace HA1 := Lib.hid (HA1.out.read hb)
          replace HA2 := Lib.hid (HA2.out.read hb)
          replace HB4 := Lib.hid (HB4.out.read hb)
          replace HB5 := Lib.hid (HB5.out.read hb)
          replace HU4 := Lib.hid (HU4.out.read hb)
          replace HU5 := Lib.hid (HU5.out.read hb)
          replace HU6 := Lib.hid (HU6.out.read hb)
          replace HB11 := Lib.hid (HB11.out.read hb)
          replace HU7 := Lib.hid (HU7.out.read hb)
          replace HB12 := Lib.hid (HB12.out.read hb)
          replace HU8 := Lib.hid (HU8.out.read hb)
          replace HU10 := Lib.hid (HU10.out.read hb)
          replace HU20 := Lib.hid (HU20.out.read hb)
          replace HW := Lib.hid (belowOn HW.out (Nat.le_refl _) hb)
          have HS24 := Lib.hid (hb.size)
          clear HF hb
          have hnl := (un_nk l0 t1 t2)
          have HF := Lib.hid (heldBindings_any (unL l0 t1 t2) _ (1) w21 HU8.out.listS (by omega) (by omega))
          go_wp2_with fail
          refine HF.out.mono ?_
          rintro e w22 ⟨rfl, hb⟩
          replace HA0 := Lib.hid (HA0.out.read hb)
          replace HA1 := Lib.hid (HA1.out.read hb)
          replace HA2 := Lib.hid (HA2.out.read hb)
          replace HB4 := Lib.hid (HB4.out.read hb)
          replace HB5 := Lib.hid (HB5.out.read hb)
          replace HU4 := Lib.hid (HU4.out.read hb)
          replace HU5 := Lib.hid (HU5.out.read hb)
          replace HU6 := Lib.hid (HU6.out.read hb)
          replace HB11 := Lib.hid (HB11.out.read hb)
          replace HU7 := Lib.hid (HU7.out.read hb)
          replace HB12 := Lib.hid (HB12.out.read hb)
          replace HU8 := Lib.hid (HU8.out.read hb)
          replace HU10 := Lib.hid (HU10.out.read hb)
          replace HU20 := Lib.hid (HU20.out.read hb)
          replace HW := Lib.hid (belowOn HW.out (Nat.le_refl _) hb)
          have HS25 := Lib.hid (hb.size)
          clear HF hb
          go_wp2
          go_ret
          exact ⟨rfl, HW.out⟩
end Go.Proofs.YtnbnepeikdieaaaGreat

