/-
  The law of IsInstance, walked: it returns true, and nothing that was there is changed. (Written by wip/tools/mkexact.py over the law's operations.)
-/
import Derived.Test.YtbbgiefnmihmdaaSpecMT
import Derived.Test.YtbbgiefnmihmdaaLaws
namespace Go.Proofs.Ytbbgiefnmihmdaa
open Go.RowKit
set_option linter.unusedVariables false
set_option linter.unusedSimpArgs false

set_option maxRecDepth 100000 in
set_option maxHeartbeats 16000000 in
theorem walkIsInstance (w : World) (t0 : Tm) (V0 : Value) (A0 : ArgsAt w V0 t0.args) (f0 : t0.fine) (t1 : Tm) (V1 : Value) (A1 : ArgsAt w V1 t1.args) (f1 : t1.fine) :
    Calls Try.prog 9 #[.agg #[.int .i64 t0.kind, .int .i64 t0.num, .string t0.name, V0], .agg #[.int .i64 t1.kind, .int .i64 t1.num, .string t1.name, V1]] w fun e w' => e = .returned (.bool true) ∧ Below w.heap.size w w' := by
  obtain ⟨ad0, cap0, rfl⟩ := A0.slice
  have HA0 := Lib.hid (at_args A0)
  clear A0
  obtain ⟨ad1, cap1, rfl⟩ := A1.slice
  have HA1 := Lib.hid (at_args A1)
  clear A1
  have HW : Hid (Below w.heap.size w w) := Lib.hid (Below.refl _ _)
  have hal : Below w.heap.size w (w.alloc (.cells #[.int .i64 t0.kind, .int .i64 t0.num, .string t0.name, .slice ad0 t0.args.length cap0] 57)) := (Below.refl _ _).alloc (Nat.le_refl _) _
  replace HA0 := Lib.hid (HA0.out.read hal)
  replace HA1 := Lib.hid (HA1.out.read hal)
  replace HW := Lib.hid (belowOn HW.out (Nat.le_refl _) hal)
  have HB2 := Lib.hid (at_box_of w #[.int .i64 t0.kind, .int .i64 t0.num, .string t0.name, .slice ad0 t0.args.length cap0] 57 (w.heap.size) (by simp))
  have HS0 := Lib.hid (show (w.alloc (.cells #[.int .i64 t0.kind, .int .i64 t0.num, .string t0.name, .slice ad0 t0.args.length cap0] 57)).heap.size = w.heap.size + 1 by simp)
  clear hal
  have hal : Below (w.alloc (.cells #[.int .i64 t0.kind, .int .i64 t0.num, .string t0.name, .slice ad0 t0.args.length cap0] 57)).heap.size (w.alloc (.cells #[.int .i64 t0.kind, .int .i64 t0.num, .string t0.name, .slice ad0 t0.args.length cap0] 57)) ((w.alloc (.cells #[.int .i64 t0.kind, .int .i64 t0.num, .string t0.name, .slice ad0 t0.args.length cap0] 57)).alloc (.cells #[.int .i64 t1.kind, .int .i64 t1.num, .string t1.name, .slice ad1 t1.args.length cap1] 57)) := (Below.refl _ _).alloc (Nat.le_refl _) _
  replace HA0 := Lib.hid (HA0.out.read hal)
  replace HA1 := Lib.hid (HA1.out.read hal)
  replace HB2 := Lib.hid (HB2.out.read hal)
  replace HW := Lib.hid (belowOn HW.out (Nat.le_refl _) hal)
  have HB3 := Lib.hid (at_box_of (w.alloc (.cells #[.int .i64 t0.kind, .int .i64 t0.num, .string t0.name, .slice ad0 t0.args.length cap0] 57)) #[.int .i64 t1.kind, .int .i64 t1.num, .string t1.name, .slice ad1 t1.args.length cap1] 57 (w.heap.size + 1) (by simp))
  have HS1 := Lib.hid (show ((w.alloc (.cells #[.int .i64 t0.kind, .int .i64 t0.num, .string t0.name, .slice ad0 t0.args.length cap0] 57)).alloc (.cells #[.int .i64 t1.kind, .int .i64 t1.num, .string t1.name, .slice ad1 t1.args.length cap1] 57)).heap.size = (w.alloc (.cells #[.int .i64 t0.kind, .int .i64 t0.num, .string t0.name, .slice ad0 t0.args.length cap0] 57)).heap.size + 1 by simp)
  clear hal
  go_enter Try.func9, Try.ntmps9
  obtain ⟨c0a, c0b, c0c, c0d⟩ := HB2.out.cells
  have z0 := HB2.out.le
  have HSZ := Lib.hid (szTerm_any t0 _ 1048576 ((w.alloc (.cells #[.int .i64 t0.kind, .int .i64 t0.num, .string t0.name, .slice ad0 t0.args.length cap0] 57)).alloc (.cells #[.int .i64 t1.kind, .int .i64 t1.num, .string t1.name, .slice ad1 t1.args.length cap1] 57)) HA0.out.argsAt f0 (by omega) (by omega))
  go_wp2_with fail
  refine HSZ.out.mono ?_
  rintro e w1 ⟨r0, rfl, hr1, hr2, hr, hb⟩
  clear c0a c0b c0c c0d z0
  clear HSZ
  replace HA0 := Lib.hid (HA0.out.read hb)
  replace HA1 := Lib.hid (HA1.out.read hb)
  replace HB2 := Lib.hid (HB2.out.read hb)
  replace HB3 := Lib.hid (HB3.out.read hb)
  replace HW := Lib.hid (belowOn HW.out (Nat.le_refl _) hb)
  have HS2 := Lib.hid (hb.size)
  clear hb
  by_cases hneg : r0 < 0
  · clear hr
    go_wp2
    go_ret
    exact ⟨rfl, HW.out⟩
  have hZt0 : t0.sz ≤ 1048576 := by have := hr (by omega); omega
  replace hr1 : 0 ≤ r0 := by omega
  replace hr2 : r0 ≤ 1048576 := by omega
  clear hr hneg
  have h0r0 := hr1
  have h1r0 := hr2
  clear hr1 hr2
  obtain ⟨c0a, c0b, c0c, c0d⟩ := HB3.out.cells
  have z0 := HB3.out.le
  have HSZ := Lib.hid (szTerm_any t1 _ r0 w1 HA1.out.argsAt f1 (by omega) (by omega))
  go_wp2_with fail
  refine HSZ.out.mono ?_
  rintro e w2 ⟨r1, rfl, hr1, hr2, hr, hb⟩
  clear c0a c0b c0c c0d z0
  clear HSZ
  replace HA0 := Lib.hid (HA0.out.read hb)
  replace HA1 := Lib.hid (HA1.out.read hb)
  replace HB2 := Lib.hid (HB2.out.read hb)
  replace HB3 := Lib.hid (HB3.out.read hb)
  replace HW := Lib.hid (belowOn HW.out (Nat.le_refl _) hb)
  have HS3 := Lib.hid (hb.size)
  clear hb
  by_cases hneg : r1 < 0
  · clear hr
    go_wp2
    go_ret
    exact ⟨rfl, HW.out⟩
  have hZt1 : t1.sz ≤ 1048576 := by have := hr (by omega); omega
  replace hr1 : 0 ≤ r1 := by omega
  replace hr2 : r1 ≤ 1048576 := by omega
  clear hr hneg
  have h0r1 := hr1
  have h1r1 := hr2
  clear hr1 hr2
  go_upto_region 8 with (fail)
  go_cut [6] from 20 (fun b wx => b = .bool (mtB t1 t0) ∧ Below w2.heap.size w2 wx)
  case first =>
    obtain ⟨c0a, c0b, c0c, c0d⟩ := HB2.out.cells
    have z0 := HB2.out.le
    obtain ⟨c1a, c1b, c1c, c1d⟩ := HB3.out.cells
    have z1 := HB3.out.le
    have hself : Below w2.heap.size w2 w2 := Below.refl _ _
    have hdrew : Below w2.heap.size w2 w2.drew := hself.drew
    have HCE : Hid (∀ W, Below w2.heap.size w2 W → W.cell? ⟨w.heap.size, 0, none⟩ = some (.int .i64 t0.kind) ∧ W.cell? ⟨w.heap.size, 1, none⟩ = some (.int .i64 t0.num) ∧ W.cell? ⟨w.heap.size, 2, none⟩ = some (.string t0.name) ∧ W.cell? ⟨w.heap.size, 3, none⟩ = some (.slice ad0 t0.args.length cap0) ∧ W.cell? ⟨w.heap.size + 1, 0, none⟩ = some (.int .i64 t1.kind) ∧ W.cell? ⟨w.heap.size + 1, 1, none⟩ = some (.int .i64 t1.num) ∧ W.cell? ⟨w.heap.size + 1, 2, none⟩ = some (.string t1.name) ∧ W.cell? ⟨w.heap.size + 1, 3, none⟩ = some (.slice ad1 t1.args.length cap1)) := Lib.hid fun W hW => by
      obtain ⟨y0a, y0b, y0c, y0d⟩ := (HB2.out.read hW).cells
      obtain ⟨y1a, y1b, y1c, y1d⟩ := (HB3.out.read hW).cells
      exact ⟨y0a, y0b, y0c, y0d, y1a, y1b, y1c, y1d⟩
    have HTR : Hid (∀ a b, Below w2.heap.size w2 a → Below a.heap.size a b → Below w2.heap.size w2 b) := Lib.hid fun a b h1 h2 => belowOn h1 (Nat.le_refl _) h2
    have HTO0 : Hid (∀ W, Below w2.heap.size w2 W → Calls Try.prog 41 #[.agg #[.int .i64 t0.kind, .int .i64 t0.num, .string t0.name, .slice ad0 t0.args.length cap0]] W fun e w' => ∃ u, e = .returned (.agg #[.int .i64 t0.kind, .int .i64 t0.num, .string t0.name, u]) ∧ (∀ W2, Below w'.heap.size w' W2 → ArgsAt W2 u t0.args) ∧ Below W.heap.size W w') := Lib.hid fun W hW =>
      (toTerm_any t0 _ W (HA0.out.read hW).argsAt hZt0).mono fun e w' ⟨u, he, hn⟩ => ⟨u, he, fun W2 h2 => hn.1.argsAt.kept h2, hn.2⟩
    have HTO1 : Hid (∀ W, Below w2.heap.size w2 W → Calls Try.prog 41 #[.agg #[.int .i64 t1.kind, .int .i64 t1.num, .string t1.name, .slice ad1 t1.args.length cap1]] W fun e w' => ∃ u, e = .returned (.agg #[.int .i64 t1.kind, .int .i64 t1.num, .string t1.name, u]) ∧ (∀ W2, Below w'.heap.size w' W2 → ArgsAt W2 u t1.args) ∧ Below W.heap.size W w') := Lib.hid fun W hW =>
      (toTerm_any t1 _ W (HA1.out.read hW).argsAt hZt1).mono fun e w' ⟨u, he, hn⟩ => ⟨u, he, fun W2 h2 => hn.1.argsAt.kept h2, hn.2⟩
    have HF : Hid (∀ W u0 u1, Below w2.heap.size w2 W → ArgsAt W u0 t0.args → ArgsAt W u1 t1.args → Calls Try.prog 48 #[.agg #[.int .i64 t0.kind, .int .i64 t0.num, .string t0.name, u0], .agg #[.int .i64 t1.kind, .int .i64 t1.num, .string t1.name, u1]] W fun e w' => e = .returned (.bool (mtB t1 t0)) ∧ Below W.heap.size W w') := Lib.hid fun W u0 u1 hW hu0 hu1 => specIsInstance_any t0 u0 t1 u1 W hu0 hZt0 hu1 hZt1
    clear HW HA0 HA1 HB2 HB3
    go_region_held3 (fun w' => Below w2.heap.size w2 w' ∧ w'.cell? ⟨w.heap.size, 0, none⟩ = some (.int .i64 t0.kind) ∧ w'.cell? ⟨w.heap.size, 1, none⟩ = some (.int .i64 t0.num) ∧ w'.cell? ⟨w.heap.size, 2, none⟩ = some (.string t0.name) ∧ w'.cell? ⟨w.heap.size, 3, none⟩ = some (.slice ad0 t0.args.length cap0) ∧ w'.cell? ⟨w.heap.size + 1, 0, none⟩ = some (.int .i64 t1.kind) ∧ w'.cell? ⟨w.heap.size + 1, 1, none⟩ = some (.int .i64 t1.num) ∧ w'.cell? ⟨w.heap.size + 1, 2, none⟩ = some (.string t1.name) ∧ w'.cell? ⟨w.heap.size + 1, 3, none⟩ = some (.slice ad1 t1.args.length cap1)) (go_keep)
      (first
        | (go_at_call 41; (with_reducible refine Calls.mono (HTO0.out _ ?_) ?_); (first | assumption | exact belowAlloc (by assumption) _ | exact (belowAlloc (by assumption) _).drew); rintro e wA0 ⟨u0, rfl, hu0, hb0⟩; have HUU0 := Lib.hid hu0; clear hu0; have hB0 := HTR.out _ _ (by first | assumption | exact belowAlloc (by assumption) _ | exact (belowAlloc (by assumption) _).drew) hb0; obtain ⟨k0, k1, k2, k3, k4, k5, k6, k7⟩ := HCE.out _ hB0)
        | (go_at_call 41; (with_reducible refine Calls.mono (HTO1.out _ ?_) ?_); (first | assumption | exact belowAlloc (by assumption) _ | exact (belowAlloc (by assumption) _).drew); rintro e wA1 ⟨u1, rfl, hu1, hb1⟩; have HUU1 := Lib.hid hu1; clear hu1; have hB1 := HTR.out _ _ (by first | assumption | exact belowAlloc (by assumption) _ | exact (belowAlloc (by assumption) _).drew) hb1; obtain ⟨k0, k1, k2, k3, k4, k5, k6, k7⟩ := HCE.out _ hB1)
        | (go_at_call 48; (with_reducible refine Calls.mono (HF.out _ _ _ ?_ ?_ ?_) ?_); (assumption); (first | exact HUU0.out _ (Below.refl _ _) | exact HUU0.out _ (by assumption) | exact HUU0.out _ (below3 (by assumption) (by assumption))); (first | exact HUU1.out _ (Below.refl _ _) | exact HUU1.out _ (by assumption) | exact HUU1.out _ (below3 (by assumption) (by assumption))); rintro e w' ⟨rfl, hbz⟩; have hB' := HTR.out _ _ (by assumption) hbz; obtain ⟨k0, k1, k2, k3, k4, k5, k6, k7⟩ := HCE.out _ hB'))
    all_goals (go_wp2_with fail; go_meet; exact ⟨rfl, by assumption⟩)
  case rest =>
    obtain ⟨rfl, hb⟩ := hcut
    obtain ⟨w3, rfl⟩ : ∃ x : World, x = wc := ⟨_, rfl⟩
    replace HA0 := Lib.hid (HA0.out.read hb)
    replace HA1 := Lib.hid (HA1.out.read hb)
    replace HB2 := Lib.hid (HB2.out.read hb)
    replace HB3 := Lib.hid (HB3.out.read hb)
    replace HW := Lib.hid (belowOn HW.out (Nat.le_refl _) hb)
    have HS4 := Lib.hid (hb.size)
    clear hb
    obtain ⟨c0a, c0b, c0c, c0d⟩ := HB2.out.cells
    have z0 := HB2.out.le
    have HTO := Lib.hid (toTerm_any t0 _ w3 HA0.out.argsAt hZt0)
    go_wp2_with fail
    refine HTO.out.mono ?_
    rintro e w4 ⟨u4, rfl, hn⟩
    clear c0a c0b c0c c0d z0
    have hb := hn.2
    replace HA0 := Lib.hid (HA0.out.read hb)
    replace HA1 := Lib.hid (HA1.out.read hb)
    replace HB2 := Lib.hid (HB2.out.read hb)
    replace HB3 := Lib.hid (HB3.out.read hb)
    replace HW := Lib.hid (belowOn HW.out (Nat.le_refl _) hb)
    have HS5 := Lib.hid (hb.size)
    have HU4 := Lib.hid hn.at
    obtain ⟨ad104, cap104, rfl⟩ := hn.1.argsAt.slice
    clear HTO hn hb
    have hal : Below w4.heap.size w4 (w4.alloc (.cells #[.int .i64 t0.kind, .int .i64 t0.num, .string t0.name, .slice ad104 t0.args.length cap104] 27)) := (Below.refl _ _).alloc (Nat.le_refl _) _
    replace HA0 := Lib.hid (HA0.out.read hal)
    replace HA1 := Lib.hid (HA1.out.read hal)
    replace HB2 := Lib.hid (HB2.out.read hal)
    replace HB3 := Lib.hid (HB3.out.read hal)
    replace HU4 := Lib.hid (HU4.out.read hal)
    replace HW := Lib.hid (belowOn HW.out (Nat.le_refl _) hal)
    have HB7 := Lib.hid (at_box_of w4 #[.int .i64 t0.kind, .int .i64 t0.num, .string t0.name, .slice ad104 t0.args.length cap104] 27 (w4.heap.size) (by simp))
    have HS6 := Lib.hid (show (w4.alloc (.cells #[.int .i64 t0.kind, .int .i64 t0.num, .string t0.name, .slice ad104 t0.args.length cap104] 27)).heap.size = w4.heap.size + 1 by simp)
    clear hal
    obtain ⟨c0a, c0b, c0c, c0d⟩ := HB3.out.cells
    have z0 := HB3.out.le
    have HTO := Lib.hid (toTerm_any t1 _ (w4.alloc (.cells #[.int .i64 t0.kind, .int .i64 t0.num, .string t0.name, .slice ad104 t0.args.length cap104] 27)) HA1.out.argsAt hZt1)
    go_wp2_with fail
    refine HTO.out.mono ?_
    rintro e w5 ⟨u5, rfl, hn⟩
    clear c0a c0b c0c c0d z0
    have hb := hn.2
    replace HA0 := Lib.hid (HA0.out.read hb)
    replace HA1 := Lib.hid (HA1.out.read hb)
    replace HB2 := Lib.hid (HB2.out.read hb)
    replace HB3 := Lib.hid (HB3.out.read hb)
    replace HU4 := Lib.hid (HU4.out.read hb)
    replace HB7 := Lib.hid (HB7.out.read hb)
    replace HW := Lib.hid (belowOn HW.out (Nat.le_refl _) hb)
    have HS7 := Lib.hid (hb.size)
    have HU5 := Lib.hid hn.at
    obtain ⟨ad105, cap105, rfl⟩ := hn.1.argsAt.slice
    clear HTO hn hb
    have hal : Below w5.heap.size w5 (w5.alloc (.cells #[.int .i64 t1.kind, .int .i64 t1.num, .string t1.name, .slice ad105 t1.args.length cap105] 27)) := (Below.refl _ _).alloc (Nat.le_refl _) _
    replace HA0 := Lib.hid (HA0.out.read hal)
    replace HA1 := Lib.hid (HA1.out.read hal)
    replace HB2 := Lib.hid (HB2.out.read hal)
    replace HB3 := Lib.hid (HB3.out.read hal)
    replace HU4 := Lib.hid (HU4.out.read hal)
    replace HB7 := Lib.hid (HB7.out.read hal)
    replace HU5 := Lib.hid (HU5.out.read hal)
    replace HW := Lib.hid (belowOn HW.out (Nat.le_refl _) hal)
    have HB8 := Lib.hid (at_box_of w5 #[.int .i64 t1.kind, .int .i64 t1.num, .string t1.name, .slice ad105 t1.args.length cap105] 27 (w5.heap.size) (by simp))
    have HS8 := Lib.hid (show (w5.alloc (.cells #[.int .i64 t1.kind, .int .i64 t1.num, .string t1.name, .slice ad105 t1.args.length cap105] 27)).heap.size = w5.heap.size + 1 by simp)
    clear hal
    obtain ⟨c0a, c0b, c0c, c0d⟩ := HB7.out.cells
    have z0 := HB7.out.le
    obtain ⟨c1a, c1b, c1c, c1d⟩ := HB8.out.cells
    have z1 := HB8.out.le
    have HF := Lib.hid (implIsInstance_any t0 _ t1 _ (w5.alloc (.cells #[.int .i64 t1.kind, .int .i64 t1.num, .string t1.name, .slice ad105 t1.args.length cap105] 27)) HU4.out.argsAt hZt0 HU5.out.argsAt hZt1)
    go_wp2_with fail
    refine HF.out.mono ?_
    rintro e w6 ⟨rfl, hb⟩
    clear c0a c0b c0c c0d z0 c1a c1b c1c c1d z1
    replace HA0 := Lib.hid (HA0.out.read hb)
    replace HA1 := Lib.hid (HA1.out.read hb)
    replace HB2 := Lib.hid (HB2.out.read hb)
    replace HB3 := Lib.hid (HB3.out.read hb)
    replace HU4 := Lib.hid (HU4.out.read hb)
    replace HB7 := Lib.hid (HB7.out.read hb)
    replace HU5 := Lib.hid (HU5.out.read hb)
    replace HB8 := Lib.hid (HB8.out.read hb)
    replace HW := Lib.hid (belowOn HW.out (Nat.le_refl _) hb)
    have HS9 := Lib.hid (hb.size)
    clear HF hb
    go_upto_region 14 with (fail)
    go_cut [39] from 35 (fun b wx => b = .bool false ∧ Below w6.heap.size w6 wx)
    case first =>
      obtain ⟨c0a, c0b, c0c, c0d⟩ := HB7.out.cells
      have z0 := HB7.out.le
      obtain ⟨c1a, c1b, c1c, c1d⟩ := HB2.out.cells
      have z1 := HB2.out.le
      have hself : Below w6.heap.size w6 w6 := Below.refl _ _
      have hdrew : Below w6.heap.size w6 w6.drew := hself.drew
      have HCE : Hid (∀ W, Below w6.heap.size w6 W → W.cell? ⟨w4.heap.size, 0, none⟩ = some (.int .i64 t0.kind) ∧ W.cell? ⟨w4.heap.size, 1, none⟩ = some (.int .i64 t0.num) ∧ W.cell? ⟨w4.heap.size, 2, none⟩ = some (.string t0.name) ∧ W.cell? ⟨w4.heap.size, 3, none⟩ = some (.slice ad104 t0.args.length cap104) ∧ W.cell? ⟨w.heap.size, 0, none⟩ = some (.int .i64 t0.kind) ∧ W.cell? ⟨w.heap.size, 1, none⟩ = some (.int .i64 t0.num) ∧ W.cell? ⟨w.heap.size, 2, none⟩ = some (.string t0.name) ∧ W.cell? ⟨w.heap.size, 3, none⟩ = some (.slice ad0 t0.args.length cap0)) := Lib.hid fun W hW => by
        obtain ⟨y0a, y0b, y0c, y0d⟩ := (HB7.out.read hW).cells
        obtain ⟨y1a, y1b, y1c, y1d⟩ := (HB2.out.read hW).cells
        exact ⟨y0a, y0b, y0c, y0d, y1a, y1b, y1c, y1d⟩
      have HTR : Hid (∀ a b, Below w6.heap.size w6 a → Below a.heap.size a b → Below w6.heap.size w6 b) := Lib.hid fun a b h1 h2 => belowOn h1 (Nat.le_refl _) h2
      have HTO0 : Hid (∀ W, Below w6.heap.size w6 W → Calls Try.prog 41 #[.agg #[.int .i64 t0.kind, .int .i64 t0.num, .string t0.name, .slice ad0 t0.args.length cap0]] W fun e w' => ∃ u, e = .returned (.agg #[.int .i64 t0.kind, .int .i64 t0.num, .string t0.name, u]) ∧ (∀ W2, Below w'.heap.size w' W2 → ArgsAt W2 u t0.args) ∧ Below W.heap.size W w') := Lib.hid fun W hW =>
        (toTerm_any t0 _ W (HA0.out.read hW).argsAt hZt0).mono fun e w' ⟨u, he, hn⟩ => ⟨u, he, fun W2 h2 => hn.1.argsAt.kept h2, hn.2⟩
      have HEQ : Hid (∀ W u, Below w6.heap.size w6 W → ArgsAt W u t0.args → Calls Try.prog 42 #[.agg #[.int .i64 t0.kind, .int .i64 t0.num, .string t0.name, .slice ad104 t0.args.length cap104], .agg #[.int .i64 t0.kind, .int .i64 t0.num, .string t0.name, u]] W (Yes W)) := Lib.hid fun W u hW hu => eqTerm_any t0 _ _ W (HU4.out.read hW).argsAt hu hZt0
      clear HW HA0 HA1 HB2 HB3 HU4 HB7 HU5 HB8
      go_region_held3 (fun w' => Below w6.heap.size w6 w' ∧ w'.cell? ⟨w4.heap.size, 0, none⟩ = some (.int .i64 t0.kind) ∧ w'.cell? ⟨w4.heap.size, 1, none⟩ = some (.int .i64 t0.num) ∧ w'.cell? ⟨w4.heap.size, 2, none⟩ = some (.string t0.name) ∧ w'.cell? ⟨w4.heap.size, 3, none⟩ = some (.slice ad104 t0.args.length cap104) ∧ w'.cell? ⟨w.heap.size, 0, none⟩ = some (.int .i64 t0.kind) ∧ w'.cell? ⟨w.heap.size, 1, none⟩ = some (.int .i64 t0.num) ∧ w'.cell? ⟨w.heap.size, 2, none⟩ = some (.string t0.name) ∧ w'.cell? ⟨w.heap.size, 3, none⟩ = some (.slice ad0 t0.args.length cap0)) (go_keep)
        (first
          | (go_at_call 41; (with_reducible refine Calls.mono (HTO0.out _ ?_) ?_); (first | assumption | exact belowAlloc (by assumption) _ | exact (belowAlloc (by assumption) _).drew); rintro e wA0 ⟨u0, rfl, hu0, hb0⟩; have HUU0 := Lib.hid hu0; clear hu0; have hB0 := HTR.out _ _ (by first | assumption | exact belowAlloc (by assumption) _ | exact (belowAlloc (by assumption) _).drew) hb0; obtain ⟨k0, k1, k2, k3, k4, k5, k6, k7⟩ := HCE.out _ hB0)
          | (go_at_call 42; (with_reducible refine Calls.mono (HEQ.out _ _ ?_ ?_) ?_); (assumption); (first | exact HUU0.out _ (Below.refl _ _) | exact HUU0.out _ (by assumption)); rintro e w' ⟨rfl, hbz⟩; have hB' := HTR.out _ _ (by assumption) hbz; obtain ⟨k0, k1, k2, k3, k4, k5, k6, k7⟩ := HCE.out _ hB'))
      all_goals (go_wp2_with fail; go_meet; exact ⟨rfl, by assumption⟩)
    case rest =>
      obtain ⟨rfl, hb⟩ := hcut
      obtain ⟨w7, rfl⟩ : ∃ x : World, x = wc := ⟨_, rfl⟩
      replace HA0 := Lib.hid (HA0.out.read hb)
      replace HA1 := Lib.hid (HA1.out.read hb)
      replace HB2 := Lib.hid (HB2.out.read hb)
      replace HB3 := Lib.hid (HB3.out.read hb)
      replace HU4 := Lib.hid (HU4.out.read hb)
      replace HB7 := Lib.hid (HB7.out.read hb)
      replace HU5 := Lib.hid (HU5.out.read hb)
      replace HB8 := Lib.hid (HB8.out.read hb)
      replace HW := Lib.hid (belowOn HW.out (Nat.le_refl _) hb)
      have HS10 := Lib.hid (hb.size)
      clear hb
      go_upto_region 16 with (fail)
      go_cut [44] from 40 (fun b wx => b = .bool false ∧ Below w7.heap.size w7 wx)
      case first =>
        obtain ⟨c0a, c0b, c0c, c0d⟩ := HB8.out.cells
        have z0 := HB8.out.le
        obtain ⟨c1a, c1b, c1c, c1d⟩ := HB3.out.cells
        have z1 := HB3.out.le
        have hself : Below w7.heap.size w7 w7 := Below.refl _ _
        have hdrew : Below w7.heap.size w7 w7.drew := hself.drew
        have HCE : Hid (∀ W, Below w7.heap.size w7 W → W.cell? ⟨w5.heap.size, 0, none⟩ = some (.int .i64 t1.kind) ∧ W.cell? ⟨w5.heap.size, 1, none⟩ = some (.int .i64 t1.num) ∧ W.cell? ⟨w5.heap.size, 2, none⟩ = some (.string t1.name) ∧ W.cell? ⟨w5.heap.size, 3, none⟩ = some (.slice ad105 t1.args.length cap105) ∧ W.cell? ⟨w.heap.size + 1, 0, none⟩ = some (.int .i64 t1.kind) ∧ W.cell? ⟨w.heap.size + 1, 1, none⟩ = some (.int .i64 t1.num) ∧ W.cell? ⟨w.heap.size + 1, 2, none⟩ = some (.string t1.name) ∧ W.cell? ⟨w.heap.size + 1, 3, none⟩ = some (.slice ad1 t1.args.length cap1)) := Lib.hid fun W hW => by
          obtain ⟨y0a, y0b, y0c, y0d⟩ := (HB8.out.read hW).cells
          obtain ⟨y1a, y1b, y1c, y1d⟩ := (HB3.out.read hW).cells
          exact ⟨y0a, y0b, y0c, y0d, y1a, y1b, y1c, y1d⟩
        have HTR : Hid (∀ a b, Below w7.heap.size w7 a → Below a.heap.size a b → Below w7.heap.size w7 b) := Lib.hid fun a b h1 h2 => belowOn h1 (Nat.le_refl _) h2
        have HTO0 : Hid (∀ W, Below w7.heap.size w7 W → Calls Try.prog 41 #[.agg #[.int .i64 t1.kind, .int .i64 t1.num, .string t1.name, .slice ad1 t1.args.length cap1]] W fun e w' => ∃ u, e = .returned (.agg #[.int .i64 t1.kind, .int .i64 t1.num, .string t1.name, u]) ∧ (∀ W2, Below w'.heap.size w' W2 → ArgsAt W2 u t1.args) ∧ Below W.heap.size W w') := Lib.hid fun W hW =>
          (toTerm_any t1 _ W (HA1.out.read hW).argsAt hZt1).mono fun e w' ⟨u, he, hn⟩ => ⟨u, he, fun W2 h2 => hn.1.argsAt.kept h2, hn.2⟩
        have HEQ : Hid (∀ W u, Below w7.heap.size w7 W → ArgsAt W u t1.args → Calls Try.prog 42 #[.agg #[.int .i64 t1.kind, .int .i64 t1.num, .string t1.name, .slice ad105 t1.args.length cap105], .agg #[.int .i64 t1.kind, .int .i64 t1.num, .string t1.name, u]] W (Yes W)) := Lib.hid fun W u hW hu => eqTerm_any t1 _ _ W (HU5.out.read hW).argsAt hu hZt1
        clear HW HA0 HA1 HB2 HB3 HU4 HB7 HU5 HB8
        go_region_held3 (fun w' => Below w7.heap.size w7 w' ∧ w'.cell? ⟨w5.heap.size, 0, none⟩ = some (.int .i64 t1.kind) ∧ w'.cell? ⟨w5.heap.size, 1, none⟩ = some (.int .i64 t1.num) ∧ w'.cell? ⟨w5.heap.size, 2, none⟩ = some (.string t1.name) ∧ w'.cell? ⟨w5.heap.size, 3, none⟩ = some (.slice ad105 t1.args.length cap105) ∧ w'.cell? ⟨w.heap.size + 1, 0, none⟩ = some (.int .i64 t1.kind) ∧ w'.cell? ⟨w.heap.size + 1, 1, none⟩ = some (.int .i64 t1.num) ∧ w'.cell? ⟨w.heap.size + 1, 2, none⟩ = some (.string t1.name) ∧ w'.cell? ⟨w.heap.size + 1, 3, none⟩ = some (.slice ad1 t1.args.length cap1)) (go_keep)
          (first
            | (go_at_call 41; (with_reducible refine Calls.mono (HTO0.out _ ?_) ?_); (first | assumption | exact belowAlloc (by assumption) _ | exact (belowAlloc (by assumption) _).drew); rintro e wA0 ⟨u0, rfl, hu0, hb0⟩; have HUU0 := Lib.hid hu0; clear hu0; have hB0 := HTR.out _ _ (by first | assumption | exact belowAlloc (by assumption) _ | exact (belowAlloc (by assumption) _).drew) hb0; obtain ⟨k0, k1, k2, k3, k4, k5, k6, k7⟩ := HCE.out _ hB0)
            | (go_at_call 42; (with_reducible refine Calls.mono (HEQ.out _ _ ?_ ?_) ?_); (assumption); (first | exact HUU0.out _ (Below.refl _ _) | exact HUU0.out _ (by assumption)); rintro e w' ⟨rfl, hbz⟩; have hB' := HTR.out _ _ (by assumption) hbz; obtain ⟨k0, k1, k2, k3, k4, k5, k6, k7⟩ := HCE.out _ hB'))
        all_goals (go_wp2_with fail; go_meet; exact ⟨rfl, by assumption⟩)
      case rest =>
        obtain ⟨rfl, hb⟩ := hcut
        obtain ⟨w8, rfl⟩ : ∃ x : World, x = wc := ⟨_, rfl⟩
        replace HA0 := Lib.hid (HA0.out.read hb)
        replace HA1 := Lib.hid (HA1.out.read hb)
        replace HB2 := Lib.hid (HB2.out.read hb)
        replace HB3 := Lib.hid (HB3.out.read hb)
        replace HU4 := Lib.hid (HU4.out.read hb)
        replace HB7 := Lib.hid (HB7.out.read hb)
        replace HU5 := Lib.hid (HU5.out.read hb)
        replace HB8 := Lib.hid (HB8.out.read hb)
        replace HW := Lib.hid (belowOn HW.out (Nat.le_refl _) hb)
        have HS11 := Lib.hid (hb.size)
        clear hb
        go_wp2
        go_ret
        exact ⟨rfl, HW.out⟩
end Go.Proofs.Ytbbgiefnmihmdaa

