/-
  The law of ShiftTerm, walked: it returns true, and nothing that was there is changed. (Written by wip/tools/mkexact.py over the law's operations.)
-/
import Derived.Test.YtdgkhimledcfbaaImplShift
import Derived.Test.YtdgkhimledcfbaaSpecShift
import Derived.Test.YtdgkhimledcfbaaLaws
namespace Go.Proofs.Ytdgkhimledcfbaa
open Go.RowKit
set_option linter.unusedVariables false
set_option linter.unusedSimpArgs false

set_option maxRecDepth 100000 in
set_option maxHeartbeats 16000000 in
theorem walkShiftTerm (w : World) (t0 : Tm) (V0 : Value) (A0 : ArgsAt w V0 t0.args) (f0 : t0.fine) (a1 : Int) (wa1 : (Lit.int .i64 a1).wf = true) :
    Calls Try.prog 7 #[.agg #[.int .i64 t0.kind, .int .i64 t0.num, .string t0.name, V0], .int .i64 a1] w fun e w' => e = .returned (.bool true) ∧ Below w.heap.size w w' := by
  obtain ⟨ad0, cap0, rfl⟩ := A0.slice
  have HA0 := Lib.hid (at_args A0)
  clear A0
  have HW : Hid (Below w.heap.size w w) := Lib.hid (Below.refl _ _)
  have hal : Below w.heap.size w (w.alloc (.cells #[.int .i64 t0.kind, .int .i64 t0.num, .string t0.name, .slice ad0 t0.args.length cap0] 57)) := (Below.refl _ _).alloc (Nat.le_refl _) _
  replace HA0 := Lib.hid (HA0.out.read hal)
  replace HW := Lib.hid (belowOn HW.out (Nat.le_refl _) hal)
  have HB2 := Lib.hid (at_box_of w #[.int .i64 t0.kind, .int .i64 t0.num, .string t0.name, .slice ad0 t0.args.length cap0] 57 (w.heap.size) (by simp))
  have HS0 := Lib.hid (show (w.alloc (.cells #[.int .i64 t0.kind, .int .i64 t0.num, .string t0.name, .slice ad0 t0.args.length cap0] 57)).heap.size = w.heap.size + 1 by simp)
  clear hal
  go_enter Try.func7, Try.ntmps7
  obtain ⟨c0a, c0b, c0c, c0d⟩ := HB2.out.cells
  have z0 := HB2.out.le
  have HSZ := Lib.hid (szTerm_any t0 _ 1048576 (w.alloc (.cells #[.int .i64 t0.kind, .int .i64 t0.num, .string t0.name, .slice ad0 t0.args.length cap0] 57)) HA0.out.argsAt f0 (by omega) (by omega))
  go_wp2_with fail
  refine HSZ.out.mono ?_
  rintro e w1 ⟨r0, rfl, hr1, hr2, hr, hb⟩
  clear c0a c0b c0c c0d z0
  clear HSZ
  replace HA0 := Lib.hid (HA0.out.read hb)
  replace HB2 := Lib.hid (HB2.out.read hb)
  replace HW := Lib.hid (belowOn HW.out (Nat.le_refl _) hb)
  have HS1 := Lib.hid (hb.size)
  clear hb
  by_cases hneg : r0 < 0
  · clear hr
    go_wp2
    go_ret
    exact ⟨rfl, HW.out⟩
  have hZt0 : t0.sz ≤ 1048576 := by have := hr (by omega); omega
  replace hr1 : 0 ≤ r0 := by omega
  replace hr2 : r0 ≤ 1048576 := by omega
  clear hr hneg
  have h0r0 := hr1
  have h1r0 := hr2
  clear hr1 hr2
  obtain ⟨c0a, c0b, c0c, c0d⟩ := HB2.out.cells
  have z0 := HB2.out.le
  have HTO := Lib.hid (toTerm_any t0 _ w1 HA0.out.argsAt hZt0)
  go_wp2_with fail
  refine HTO.out.mono ?_
  rintro e w2 ⟨u2, rfl, hn⟩
  clear c0a c0b c0c c0d z0
  have hb := hn.2
  replace HA0 := Lib.hid (HA0.out.read hb)
  replace HB2 := Lib.hid (HB2.out.read hb)
  replace HW := Lib.hid (belowOn HW.out (Nat.le_refl _) hb)
  have HS2 := Lib.hid (hb.size)
  have HU2 := Lib.hid hn.at
  obtain ⟨ad102, cap102, rfl⟩ := hn.1.argsAt.slice
  clear HTO hn hb
  have HF := Lib.hid (specShiftTerm_any t0 _ a1 w2 HU2.out.argsAt hZt0)
  go_wp2_with fail
  refine HF.out.mono ?_
  rintro e w3 ⟨u3, rfl, hv, hb⟩
  replace HA0 := Lib.hid (HA0.out.read hb)
  replace HB2 := Lib.hid (HB2.out.read hb)
  replace HU2 := Lib.hid (HU2.out.read hb)
  replace HW := Lib.hid (belowOn HW.out (Nat.le_refl _) hb)
  have HS3 := Lib.hid (hb.size)
  have HU3 := Lib.hid (at_args hv.at)
  obtain ⟨ad103, cap103, rfl⟩ := hv.at.slice
  clear HF hv hb
  have hal : Below w3.heap.size w3 (w3.alloc (.cells #[.int .i64 (shT t0 a1).kind, .int .i64 (shT t0 a1).num, .string (shT t0 a1).name, .slice ad103 (shT t0 a1).args.length cap103] 25)) := (Below.refl _ _).alloc (Nat.le_refl _) _
  replace HA0 := Lib.hid (HA0.out.read hal)
  replace HB2 := Lib.hid (HB2.out.read hal)
  replace HU2 := Lib.hid (HU2.out.read hal)
  replace HU3 := Lib.hid (HU3.out.read hal)
  replace HW := Lib.hid (belowOn HW.out (Nat.le_refl _) hal)
  have HB6 := Lib.hid (at_box_of w3 #[.int .i64 (shT t0 a1).kind, .int .i64 (shT t0 a1).num, .string (shT t0 a1).name, .slice ad103 (shT t0 a1).args.length cap103] 25 (w3.heap.size) (by simp))
  have HS4 := Lib.hid (show (w3.alloc (.cells #[.int .i64 (shT t0 a1).kind, .int .i64 (shT t0 a1).num, .string (shT t0 a1).name, .slice ad103 (shT t0 a1).args.length cap103] 25)).heap.size = w3.heap.size + 1 by simp)
  clear hal
  obtain ⟨c0a, c0b, c0c, c0d⟩ := HB2.out.cells
  have z0 := HB2.out.le
  have HTO := Lib.hid (toTerm_any t0 _ (w3.alloc (.cells #[.int .i64 (shT t0 a1).kind, .int .i64 (shT t0 a1).num, .string (shT t0 a1).name, .slice ad103 (shT t0 a1).args.length cap103] 25)) HA0.out.argsAt hZt0)
  go_wp2_with fail
  refine HTO.out.mono ?_
  rintro e w4 ⟨u4, rfl, hn⟩
  clear c0a c0b c0c c0d z0
  have hb := hn.2
  replace HA0 := Lib.hid (HA0.out.read hb)
  replace HB2 := Lib.hid (HB2.out.read hb)
  replace HU2 := Lib.hid (HU2.out.read hb)
  replace HU3 := Lib.hid (HU3.out.read hb)
  replace HB6 := Lib.hid (HB6.out.read hb)
  replace HW := Lib.hid (belowOn HW.out (Nat.le_refl _) hb)
  have HS5 := Lib.hid (hb.size)
  have HU4 := Lib.hid hn.at
  obtain ⟨ad104, cap104, rfl⟩ := hn.1.argsAt.slice
  clear HTO hn hb
  have hal : Below w4.heap.size w4 (w4.alloc (.cells #[.int .i64 t0.kind, .int .i64 t0.num, .string t0.name, .slice ad104 t0.args.length cap104] 25)) := (Below.refl _ _).alloc (Nat.le_refl _) _
  replace HA0 := Lib.hid (HA0.out.read hal)
  replace HB2 := Lib.hid (HB2.out.read hal)
  replace HU2 := Lib.hid (HU2.out.read hal)
  replace HU3 := Lib.hid (HU3.out.read hal)
  replace HB6 := Lib.hid (HB6.out.read hal)
  replace HU4 := Lib.hid (HU4.out.read hal)
  replace HW := Lib.hid (belowOn HW.out (Nat.le_refl _) hal)
  have HB8 := Lib.hid (at_box_of w4 #[.int .i64 t0.kind, .int .i64 t0.num, .string t0.name, .slice ad104 t0.args.length cap104] 25 (w4.heap.size) (by simp))
  have HS6 := Lib.hid (show (w4.alloc (.cells #[.int .i64 t0.kind, .int .i64 t0.num, .string t0.name, .slice ad104 t0.args.length cap104] 25)).heap.size = w4.heap.size + 1 by simp)
  clear hal
  obtain ⟨c0a, c0b, c0c, c0d⟩ := HB8.out.cells
  have z0 := HB8.out.le
  have HF := Lib.hid (implShiftTerm_any t0 _ a1 (w4.alloc (.cells #[.int .i64 t0.kind, .int .i64 t0.num, .string t0.name, .slice ad104 t0.args.length cap104] 25)) HU4.out.argsAt hZt0)
  go_wp2_with fail
  refine HF.out.mono ?_
  rintro e w5 ⟨u5, rfl, hn⟩
  clear c0a c0b c0c c0d z0
  have hb := hn.2
  have hv := hn.1
  replace HA0 := Lib.hid (HA0.out.read hb)
  replace HB2 := Lib.hid (HB2.out.read hb)
  replace HU2 := Lib.hid (HU2.out.read hb)
  replace HU3 := Lib.hid (HU3.out.read hb)
  replace HB6 := Lib.hid (HB6.out.read hb)
  replace HU4 := Lib.hid (HU4.out.read hb)
  replace HB8 := Lib.hid (HB8.out.read hb)
  replace HW := Lib.hid (belowOn HW.out (Nat.le_refl _) hb)
  have HS7 := Lib.hid (hb.size)
  have HU5 := Lib.hid (at_own hv (Nat.le_refl _))
  obtain ⟨ad105, cap105, rfl⟩ := hv.argsAt.slice
  clear HF hv hb hn
  have hal : Below w5.heap.size w5 (w5.alloc (.cells #[.int .i64 (shT t0 a1).kind, .int .i64 (shT t0 a1).num, .string (shT t0 a1).name, .slice ad105 (shT t0 a1).args.length cap105] 25)) := (Below.refl _ _).alloc (Nat.le_refl _) _
  replace HA0 := Lib.hid (HA0.out.read hal)
  replace HB2 := Lib.hid (HB2.out.read hal)
  replace HU2 := Lib.hid (HU2.out.read hal)
  replace HU3 := Lib.hid (HU3.out.read hal)
  replace HB6 := Lib.hid (HB6.out.read hal)
  replace HU4 := Lib.hid (HU4.out.read hal)
  replace HB8 := Lib.hid (HB8.out.read hal)
  replace HU5 := Lib.hid (HU5.out.read hal)
  replace HW := Lib.hid (belowOn HW.out (Nat.le_refl _) hal)
  have HB9 := Lib.hid (at_box_of w5 #[.int .i64 (shT t0 a1).kind, .int .i64 (shT t0 a1).num, .string (shT t0 a1).name, .slice ad105 (shT t0 a1).args.length cap105] 25 (w5.heap.size) (by simp))
  have HS8 := Lib.hid (show (w5.alloc (.cells #[.int .i64 (shT t0 a1).kind, .int .i64 (shT t0 a1).num, .string (shT t0 a1).name, .slice ad105 (shT t0 a1).args.length cap105] 25)).heap.size = w5.heap.size + 1 by simp)
  clear hal
  obtain ⟨c0a, c0b, c0c, c0d⟩ := HB9.out.cells
  have z0 := HB9.out.le
  obtain ⟨c1a, c1b, c1c, c1d⟩ := HB6.out.cells
  have z1 := HB6.out.le
  have HF := Lib.hid (eqTerm_any (shT t0 a1) _ _ (w5.alloc (.cells #[.int .i64 (shT t0 a1).kind, .int .i64 (shT t0 a1).num, .string (shT t0 a1).name, .slice ad105 (shT t0 a1).args.length cap105] 25)) HU5.out.argsAt HU3.out.argsAt (sh_sz t0 a1))
  go_wp2_with fail
  refine HF.out.mono ?_
  rintro e w6 ⟨rfl, hb⟩
  clear c0a c0b c0c c0d z0 c1a c1b c1c c1d z1
  replace HA0 := Lib.hid (HA0.out.read hb)
  replace HB2 := Lib.hid (HB2.out.read hb)
  replace HU2 := Lib.hid (HU2.out.read hb)
  replace HU3 := Lib.hid (HU3.out.read hb)
  replace HB6 := Lib.hid (HB6.out.read hb)
  replace HU4 := Lib.hid (HU4.out.read hb)
  replace HB8 := Lib.hid (HB8.out.read hb)
  replace HU5 := Lib.hid (HU5.out.read hb)
  replace HB9 := Lib.hid (HB9.out.read hb)
  replace HW := Lib.hid (belowOn HW.out (Nat.le_refl _) hb)
  have HS9 := Lib.hid (hb.size)
  clear HF hb
  go_upto_region 10 with (fail)
  go_cut [49] from 45 (fun b wx => b = .bool false ∧ Below w6.heap.size w6 wx)
  case first =>
    obtain ⟨c0a, c0b, c0c, c0d⟩ := HB8.out.cells
    have z0 := HB8.out.le
    obtain ⟨c1a, c1b, c1c, c1d⟩ := HB2.out.cells
    have z1 := HB2.out.le
    have hself : Below w6.heap.size w6 w6 := Below.refl _ _
    have hdrew : Below w6.heap.size w6 w6.drew := hself.drew
    have HCE : Hid (∀ W, Below w6.heap.size w6 W → W.cell? ⟨w4.heap.size, 0, none⟩ = some (.int .i64 t0.kind) ∧ W.cell? ⟨w4.heap.size, 1, none⟩ = some (.int .i64 t0.num) ∧ W.cell? ⟨w4.heap.size, 2, none⟩ = some (.string t0.name) ∧ W.cell? ⟨w4.heap.size, 3, none⟩ = some (.slice ad104 t0.args.length cap104) ∧ W.cell? ⟨w.heap.size, 0, none⟩ = some (.int .i64 t0.kind) ∧ W.cell? ⟨w.heap.size, 1, none⟩ = some (.int .i64 t0.num) ∧ W.cell? ⟨w.heap.size, 2, none⟩ = some (.string t0.name) ∧ W.cell? ⟨w.heap.size, 3, none⟩ = some (.slice ad0 t0.args.length cap0)) := Lib.hid fun W hW => by
      obtain ⟨y0a, y0b, y0c, y0d⟩ := (HB8.out.read hW).cells
      obtain ⟨y1a, y1b, y1c, y1d⟩ := (HB2.out.read hW).cells
      exact ⟨y0a, y0b, y0c, y0d, y1a, y1b, y1c, y1d⟩
    have HTR : Hid (∀ a b, Below w6.heap.size w6 a → Below a.heap.size a b → Below w6.heap.size w6 b) := Lib.hid fun a b h1 h2 => belowOn h1 (Nat.le_refl _) h2
    have HTO0 : Hid (∀ W, Below w6.heap.size w6 W → Calls Try.prog 39 #[.agg #[.int .i64 t0.kind, .int .i64 t0.num, .string t0.name, .slice ad0 t0.args.length cap0]] W fun e w' => ∃ u, e = .returned (.agg #[.int .i64 t0.kind, .int .i64 t0.num, .string t0.name, u]) ∧ (∀ W2, Below w'.heap.size w' W2 → ArgsAt W2 u t0.args) ∧ Below W.heap.size W w') := Lib.hid fun W hW =>
      (toTerm_any t0 _ W (HA0.out.read hW).argsAt hZt0).mono fun e w' ⟨u, he, hn⟩ => ⟨u, he, fun W2 h2 => hn.1.argsAt.kept h2, hn.2⟩
    have HEQ : Hid (∀ W u, Below w6.heap.size w6 W → ArgsAt W u t0.args → Calls Try.prog 40 #[.agg #[.int .i64 t0.kind, .int .i64 t0.num, .string t0.name, .slice ad104 t0.args.length cap104], .agg #[.int .i64 t0.kind, .int .i64 t0.num, .string t0.name, u]] W (Yes W)) := Lib.hid fun W u hW hu => eqTerm_any t0 _ _ W (HU4.out.read hW).argsAt hu hZt0
    clear HW HA0 HB2 HU2 HU3 HB6 HU4 HB8 HU5 HB9
    go_region_held3 (fun w' => Below w6.heap.size w6 w' ∧ w'.cell? ⟨w4.heap.size, 0, none⟩ = some (.int .i64 t0.kind) ∧ w'.cell? ⟨w4.heap.size, 1, none⟩ = some (.int .i64 t0.num) ∧ w'.cell? ⟨w4.heap.size, 2, none⟩ = some (.string t0.name) ∧ w'.cell? ⟨w4.heap.size, 3, none⟩ = some (.slice ad104 t0.args.length cap104) ∧ w'.cell? ⟨w.heap.size, 0, none⟩ = some (.int .i64 t0.kind) ∧ w'.cell? ⟨w.heap.size, 1, none⟩ = some (.int .i64 t0.num) ∧ w'.cell? ⟨w.heap.size, 2, none⟩ = some (.string t0.name) ∧ w'.cell? ⟨w.heap.size, 3, none⟩ = some (.slice ad0 t0.args.length cap0)) (go_keep)
      (first
        | (go_at_call 39; (with_reducible refine Calls.mono (HTO0.out _ ?_) ?_); (first | assumption | exact belowAlloc (by assumption) _ | exact (belowAlloc (by assumption) _).drew); rintro e wA0 ⟨u0, rfl, hu0, hb0⟩; have HUU0 := Lib.hid hu0; clear hu0; have hB0 := HTR.out _ _ (by first | assumption | exact belowAlloc (by assumption) _ | exact (belowAlloc (by assumption) _).drew) hb0; obtain ⟨k0, k1, k2, k3, k4, k5, k6, k7⟩ := HCE.out _ hB0)
        | (go_at_call 40; (with_reducible refine Calls.mono (HEQ.out _ _ ?_ ?_) ?_); (assumption); (first | exact HUU0.out _ (Below.refl _ _) | exact HUU0.out _ (by assumption)); rintro e w' ⟨rfl, hbz⟩; have hB' := HTR.out _ _ (by assumption) hbz; obtain ⟨k0, k1, k2, k3, k4, k5, k6, k7⟩ := HCE.out _ hB'))
    all_goals (go_wp2_with fail; go_meet; exact ⟨rfl, by assumption⟩)
  case rest =>
    obtain ⟨rfl, hb⟩ := hcut
    obtain ⟨w7, rfl⟩ : ∃ x : World, x = wc := ⟨_, rfl⟩
    replace HA0 := Lib.hid (HA0.out.read hb)
    replace HB2 := Lib.hid (HB2.out.read hb)
    replace HU2 := Lib.hid (HU2.out.read hb)
    replace HU3 := Lib.hid (HU3.out.read hb)
    replace HB6 := Lib.hid (HB6.out.read hb)
    replace HU4 := Lib.hid (HU4.out.read hb)
    replace HB8 := Lib.hid (HB8.out.read hb)
    replace HU5 := Lib.hid (HU5.out.read hb)
    replace HB9 := Lib.hid (HB9.out.read hb)
    replace HW := Lib.hid (belowOn HW.out (Nat.le_refl _) hb)
    have HS10 := Lib.hid (hb.size)
    clear hb
    obtain ⟨c0a, c0b, c0c, c0d⟩ := HB8.out.cells
    have z0 := HB8.out.le
    have hnl := nl_bd hZt0
    have HF := Lib.hid (markTerm_any t0.kind t0.num t0.name t0.args _ (1) _ _ w7 HU4.out (by omega) (by omega))
    go_wp2_with fail
    refine HF.out.mono ?_
    rintro e w8 ⟨rfl, hat, ho⟩
    clear c0a c0b c0c c0d z0
    have s0 := HS0.out
    have s1 := HS1.out
    have s2 := HS2.out
    have s3 := HS3.out
    have s4 := HS4.out
    have s5 := HS5.out
    have s6 := HS6.out
    have s7 := HS7.out
    have s8 := HS8.out
    have s9 := HS9.out
    have s10 := HS10.out
    replace HA0 := Lib.hid (HA0.out.only ho (by omega))
    replace HB2 := Lib.hid (HB2.out.only ho (by omega))
    replace HU2 := Lib.hid (HU2.out.only ho (by omega))
    replace HU3 := Lib.hid (HU3.out.only ho (by omega))
    replace HB6 := Lib.hid (HB6.out.only ho (by omega))
    replace HB8 := Lib.hid (HB8.out.only ho (by omega))
    replace HU5 := Lib.hid (HU5.out.only ho (by omega))
    replace HB9 := Lib.hid (HB9.out.only ho (by omega))
    replace HW := Lib.hid (HW.out.trans (ho.below (fun k hk => by have := hk.1; omega) (by omega)))
    clear s0 s1 s2 s3 s4 s5 s6 s7 s8 s9 s10
    replace HU4 := Lib.hid hat
    have HS11 := Lib.hid (ho.size)
    clear HF hat ho
    obtain ⟨c0a, c0b, c0c, c0d⟩ := HB9.out.cells
    have z0 := HB9.out.le
    obtain ⟨c1a, c1b, c1c, c1d⟩ := HB6.out.cells
    have z1 := HB6.out.le
    have HF := Lib.hid (eqTerm_any (shT t0 a1) _ _ w8 HU5.out.argsAt HU3.out.argsAt (sh_sz t0 a1))
    go_wp2_with fail
    refine HF.out.mono ?_
    rintro e w9 ⟨rfl, hb⟩
    clear c0a c0b c0c c0d z0 c1a c1b c1c c1d z1
    replace HA0 := Lib.hid (HA0.out.read hb)
    replace HB2 := Lib.hid (HB2.out.read hb)
    replace HU2 := Lib.hid (HU2.out.read hb)
    replace HU3 := Lib.hid (HU3.out.read hb)
    replace HB6 := Lib.hid (HB6.out.read hb)
    replace HU4 := Lib.hid (HU4.out.read hb)
    replace HB8 := Lib.hid (HB8.out.read hb)
    replace HU5 := Lib.hid (HU5.out.read hb)
    replace HB9 := Lib.hid (HB9.out.read hb)
    replace HW := Lib.hid (belowOn HW.out (Nat.le_refl _) hb)
    have HS12 := Lib.hid (hb.size)
    clear HF hb
    obtain ⟨c0a, c0b, c0c, c0d⟩ := HB9.out.cells
    have z0 := HB9.out.le
    have hnl := nl_bd (sh_sz t0 a1)
    have HF := Lib.hid (markTerm_any (shT t0 a1).kind (shT t0 a1).num (shT t0 a1).name (shT t0 a1).args _ (1) _ _ w9 HU5.out (by omega) (by omega))
    go_wp2_with fail
    refine HF.out.mono ?_
    rintro e w10 ⟨rfl, hat, ho⟩
    clear c0a c0b c0c c0d z0
    have s0 := HS0.out
    have s1 := HS1.out
    have s2 := HS2.out
    have s3 := HS3.out
    have s4 := HS4.out
    have s5 := HS5.out
    have s6 := HS6.out
    have s7 := HS7.out
    have s8 := HS8.out
    have s9 := HS9.out
    have s10 := HS10.out
    have s11 := HS11.out
    have s12 := HS12.out
    replace HA0 := Lib.hid (HA0.out.only ho (by omega))
    replace HB2 := Lib.hid (HB2.out.only ho (by omega))
    replace HU2 := Lib.hid (HU2.out.only ho (by omega))
    replace HU3 := Lib.hid (HU3.out.only ho (by omega))
    replace HB6 := Lib.hid (HB6.out.only ho (by omega))
    replace HU4 := Lib.hid (HU4.out.only ho (by omega))
    replace HB8 := Lib.hid (HB8.out.only ho (by omega))
    replace HB9 := Lib.hid (HB9.out.only ho (by omega))
    replace HW := Lib.hid (HW.out.trans (ho.below (fun k hk => by have := hk.1; omega) (by omega)))
    clear s0 s1 s2 s3 s4 s5 s6 s7 s8 s9 s10 s11 s12
    replace HU5 := Lib.hid hat
    have HS13 := Lib.hid (ho.size)
    clear HF hat ho
    obtain ⟨c0a, c0b, c0c, c0d⟩ := HB9.out.cells
    have z0 := HB9.out.le
    have hnl := nl_bd (sh_sz t0 a1)
    have HF := Lib.hid (heldTerm_any (shT t0 a1).kind (shT t0 a1).num (shT t0 a1).name (shT t0 a1).args _ (1) w10 HU5.out.argsAt (by omega) (by omega))
    go_wp2_with fail
    refine HF.out.mono ?_
    rintro e w11 ⟨rfl, hb⟩
    clear c0a c0b c0c c0d z0
    replace HA0 := Lib.hid (HA0.out.read hb)
    replace HB2 := Lib.hid (HB2.out.read hb)
    replace HU2 := Lib.hid (HU2.out.read hb)
    replace HU3 := Lib.hid (HU3.out.read hb)
    replace HB6 := Lib.hid (HB6.out.read hb)
    replace HU4 := Lib.hid (HU4.out.read hb)
    replace HB8 := Lib.hid (HB8.out.read hb)
    replace HU5 := Lib.hid (HU5.out.read hb)
    replace HB9 := Lib.hid (HB9.out.read hb)
    replace HW := Lib.hid (belowOn HW.out (Nat.le_refl _) hb)
    have HS14 := Lib.hid (hb.size)
    clear HF hb
    obtain ⟨c0a, c0b, c0c, c0d⟩ := HB2.out.cells
    have z0 := HB2.out.le
    have HTO := Lib.hid (toTerm_any t0 _ w11 HA0.out.argsAt hZt0)
    go_wp2_with fail
    refine HTO.out.mono ?_
    rintro e w12 ⟨u12, rfl, hn⟩
    clear c0a c0b c0c c0d z0
    have hb := hn.2
    replace HA0 := Lib.hid (HA0.out.read hb)
    replace HB2 := Lib.hid (HB2.out.read hb)
    replace HU2 := Lib.hid (HU2.out.read hb)
    replace HU3 := Lib.hid (HU3.out.read hb)
    replace HB6 := Lib.hid (HB6.out.read hb)
    replace HU4 := Lib.hid (HU4.out.read hb)
    replace HB8 := Lib.hid (HB8.out.read hb)
    replace HU5 := Lib.hid (HU5.out.read hb)
    replace HB9 := Lib.hid (HB9.out.read hb)
    replace HW := Lib.hid (belowOn HW.out (Nat.le_refl _) hb)
    have HS15 := Lib.hid (hb.size)
    have HU12 := Lib.hid hn.at
    obtain ⟨ad112, cap112, rfl⟩ := hn.1.argsAt.slice
    clear HTO hn hb
    have HF := Lib.hid (implShiftTerm_any t0 _ a1 w12 HU12.out.argsAt hZt0)
    go_wp2_with fail
    refine HF.out.mono ?_
    rintro e w13 ⟨u13, rfl, hn⟩
    have hb := hn.2
    have hv := hn.1
    replace HA0 := Lib.hid (HA0.out.read hb)
    replace HB2 := Lib.hid (HB2.out.read hb)
    replace HU2 := Lib.hid (HU2.out.read hb)
    replace HU3 := Lib.hid (HU3.out.read hb)
    replace HB6 := Lib.hid (HB6.out.read hb)
    replace HU4 := Lib.hid (HU4.out.read hb)
    replace HB8 := Lib.hid (HB8.out.read hb)
    replace HU5 := Lib.hid (HU5.out.read hb)
    replace HB9 := Lib.hid (HB9.out.read hb)
    replace HU12 := Lib.hid (HU12.out.read hb)
    replace HW := Lib.hid (belowOn HW.out (Nat.le_refl _) hb)
    have HS16 := Lib.hid (hb.size)
    have HU13 := Lib.hid (at_own hv (Nat.le_refl _))
    obtain ⟨ad113, cap113, rfl⟩ := hv.argsAt.slice
    clear HF hv hb hn
    have hal : Below w13.heap.size w13 (w13.alloc (.cells #[.int .i64 (shT t0 a1).kind, .int .i64 (shT t0 a1).num, .string (shT t0 a1).name, .slice ad113 (shT t0 a1).args.length cap113] 25)) := (Below.refl _ _).alloc (Nat.le_refl _) _
    replace HA0 := Lib.hid (HA0.out.read hal)
    replace HB2 := Lib.hid (HB2.out.read hal)
    replace HU2 := Lib.hid (HU2.out.read hal)
    replace HU3 := Lib.hid (HU3.out.read hal)
    replace HB6 := Lib.hid (HB6.out.read hal)
    replace HU4 := Lib.hid (HU4.out.read hal)
    replace HB8 := Lib.hid (HB8.out.read hal)
    replace HU5 := Lib.hid (HU5.out.read hal)
    replace HB9 := Lib.hid (HB9.out.read hal)
    replace HU12 := Lib.hid (HU12.out.read hal)
    replace HU13 := Lib.hid (HU13.out.read hal)
    replace HW := Lib.hid (belowOn HW.out (Nat.le_refl _) hal)
    have HB14 := Lib.hid (at_box_of w13 #[.int .i64 (shT t0 a1).kind, .int .i64 (shT t0 a1).num, .string (shT t0 a1).name, .slice ad113 (shT t0 a1).args.length cap113] 25 (w13.heap.size) (by simp))
    have HS17 := Lib.hid (show (w13.alloc (.cells #[.int .i64 (shT t0 a1).kind, .int .i64 (shT t0 a1).num, .string (shT t0 a1).name, .slice ad113 (shT t0 a1).args.length cap113] 25)).heap.size = w13.heap.size + 1 by simp)
    clear hal
    obtain ⟨c0a, c0b, c0c, c0d⟩ := HB14.out.cells
    have z0 := HB14.out.le
    obtain ⟨c1a, c1b, c1c, c1d⟩ := HB6.out.cells
    have z1 := HB6.out.le
    have HF := Lib.hid (eqTerm_any (shT t0 a1) _ _ (w13.alloc (.cells #[.int .i64 (shT t0 a1).kind, .int .i64 (shT t0 a1).num, .string (shT t0 a1).name, .slice ad113 (shT t0 a1).args.length cap113] 25)) HU13.out.argsAt HU3.out.argsAt (sh_sz t0 a1))
    go_wp2_with fail
    refine HF.out.mono ?_
    rintro e w14 ⟨rfl, hb⟩
    clear c0a c0b c0c c0d z0 c1a c1b c1c c1d z1
    replace HA0 := Lib.hid (HA0.out.read hb)
    replace HB2 := Lib.hid (HB2.out.read hb)
    replace HU2 := Lib.hid (HU2.out.read hb)
    replace HU3 := Lib.hid (HU3.out.read hb)
    replace HB6 := Lib.hid (HB6.out.read hb)
    replace HU4 := Lib.hid (HU4.out.read hb)
    replace HB8 := Lib.hid (HB8.out.read hb)
    replace HU5 := Lib.hid (HU5.out.read hb)
    replace HB9 := Lib.hid (HB9.out.read hb)
    replace HU12 := Lib.hid (HU12.out.read hb)
    replace HU13 := Lib.hid (HU13.out.read hb)
    replace HB14 := Lib.hid (HB14.out.read hb)
    replace HW := Lib.hid (belowOn HW.out (Nat.le_refl _) hb)
    have HS18 := Lib.hid (hb.size)
    clear HF hb
    obtain ⟨c0a, c0b, c0c, c0d⟩ := HB9.out.cells
    have z0 := HB9.out.le
    have hnl := nl_bd (sh_sz t0 a1)
    have HF := Lib.hid (heldTerm_any (shT t0 a1).kind (shT t0 a1).num (shT t0 a1).name (shT t0 a1).args _ (1) w14 HU5.out.argsAt (by omega) (by omega))
    go_wp2_with fail
    refine HF.out.mono ?_
    rintro e w15 ⟨rfl, hb⟩
    clear c0a c0b c0c c0d z0
    replace HA0 := Lib.hid (HA0.out.read hb)
    replace HB2 := Lib.hid (HB2.out.read hb)
    replace HU2 := Lib.hid (HU2.out.read hb)
    replace HU3 := Lib.hid (HU3.out.read hb)
    replace HB6 := Lib.hid (HB6.out.read hb)
    replace HU4 := Lib.hid (HU4.out.read hb)
    replace HB8 := Lib.hid (HB8.out.read hb)
    replace HU5 := Lib.hid (HU5.out.read hb)
    replace HB9 := Lib.hid (HB9.out.read hb)
    replace HU12 := Lib.hid (HU12.out.read hb)
    replace HU13 := Lib.hid (HU13.out.read hb)
    replace HB14 := Lib.hid (HB14.out.read hb)
    replace HW := Lib.hid (belowOn HW.out (Nat.le_refl _) hb)
    have HS19 := Lib.hid (hb.size)
    clear HF hb
    go_wp2
    go_ret
    exact ⟨rfl, HW.out⟩
end Go.Proofs.Ytdgkhimledcfbaa

