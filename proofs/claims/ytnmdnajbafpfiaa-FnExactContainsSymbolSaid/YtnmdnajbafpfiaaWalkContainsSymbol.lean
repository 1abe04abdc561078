/-
  The law of ContainsSymbol, walked: it returns true, and nothing that was there is changed. (Written by wip/tools/mkexact.py over the law's operations.)
-/
import Derived.Test.YtnmdnajbafpfiaaSpecSym
import Derived.Test.YtnmdnajbafpfiaaDemM
import Derived.Test.YtnmdnajbafpfiaaLaws
namespace Go.Proofs.Ytnmdnajbafpfiaa
open Go.RowKit
set_option linter.unusedVariables false
set_option linter.unusedSimpArgs false

set_option maxRecDepth 100000 in
set_option maxHeartbeats 16000000 in
theorem walkContainsSymbol (w : World) (t0 : Tm) (V0 : Value) (A0 : ArgsAt w V0 t0.args) (f0 : t0.fine) (s1 : ByteArray) (ws1 : s1.size ≤ maxLen) :
    Calls Try.prog 7 #[.agg #[.int .i64 t0.kind, .int .i64 t0.num, .string t0.name, V0], .string s1] w fun e w' => e = .returned (.bool true) ∧ Below w.heap.size w w' := by
  obtain ⟨ad0, cap0, rfl⟩ := A0.slice
  have HA0 := Lib.hid (at_args A0)
  clear A0
  have HW : Hid (Below w.heap.size w w) := Lib.hid (Below.refl _ _)
  have hal : Below w.heap.size w (w.alloc (.cells #[.int .i64 t0.kind, .int .i64 t0.num, .string t0.name, .slice ad0 t0.args.length cap0] 63)) := (Below.refl _ _).alloc (Nat.le_refl _) _
  replace HA0 := Lib.hid (HA0.out.read hal)
  replace HW := Lib.hid (belowOn HW.out (Nat.le_refl _) hal)
  have HB2 := Lib.hid (at_box_of w #[.int .i64 t0.kind, .int .i64 t0.num, .string t0.name, .slice ad0 t0.args.length cap0] 63 (w.heap.size) (by simp))
  have HS0 := Lib.hid (show (w.alloc (.cells #[.int .i64 t0.kind, .int .i64 t0.num, .string t0.name, .slice ad0 t0.args.length cap0] 63)).heap.size = w.heap.size + 1 by simp)
  clear hal
  go_enter Try.func7, Try.ntmps7
  by_cases hbig : 1048576 < (s1.size : Int)
  · go_wp2
    go_ret
    exact ⟨rfl, HW.out⟩
  have hZs1 : s1.size ≤ 1048576 := by omega
  obtain ⟨c0a, c0b, c0c, c0d⟩ := HB2.out.cells
  have z0 := HB2.out.le
  have HSZ := Lib.hid (szTerm_any t0 _ 1048576 (w.alloc (.cells #[.int .i64 t0.kind, .int .i64 t0.num, .string t0.name, .slice ad0 t0.args.length cap0] 63)) HA0.out.argsAt f0 (by omega) (by omega))
  go_wp2_with fail
  refine HSZ.out.mono ?_
  rintro e w1 ⟨r0, rfl, hr1, hr2, hr, hb⟩
  clear c0a c0b c0c c0d z0
  clear HSZ
  replace HA0 := Lib.hid (HA0.out.read hb)
  replace HB2 := Lib.hid (HB2.out.read hb)
  replace HW := Lib.hid (belowOn HW.out (Nat.le_refl _) hb)
  have HS1 := Lib.hid (hb.size)
  clear hb
  by_cases hneg : r0 < 0
  · clear hr
    go_wp2
    go_ret
    exact ⟨rfl, HW.out⟩
  have hZt0 : t0.sz ≤ 1048576 := by have := hr (by omega); omega
  replace hr1 : 0 ≤ r0 := by omega
  replace hr2 : r0 ≤ 1048576 := by omega
  clear hr hneg
  have h0r0 := hr1
  have h1r0 := hr2
  clear hr1 hr2
  obtain ⟨c0a, c0b, c0c, c0d⟩ := HB2.out.cells
  have z0 := HB2.out.le
  have HTO := Lib.hid (toTerm_any t0 _ w1 HA0.out.argsAt hZt0)
  go_wp2_with fail
  refine HTO.out.mono ?_
  rintro e w2 ⟨u2, rfl, hn⟩
  clear c0a c0b c0c c0d z0
  have hb := hn.2
  replace HA0 := Lib.hid (HA0.out.read hb)
  replace HB2 := Lib.hid (HB2.out.read hb)
  replace HW := Lib.hid (belowOn HW.out (Nat.le_refl _) hb)
  have HS2 := Lib.hid (hb.size)
  have HU2 := Lib.hid hn.at
  obtain ⟨ad102, cap102, rfl⟩ := hn.1.argsAt.slice
  clear HTO hn hb
  have HF := Lib.hid (specContainsSymbol_any t0 _ s1 w2 HU2.out.argsAt hZt0 (by unfold maxLen; omega))
  go_wp2_with fail
  refine HF.out.mono ?_
  rintro e w3 ⟨rfl, hb⟩
  replace HA0 := Lib.hid (HA0.out.read hb)
  replace HB2 := Lib.hid (HB2.out.read hb)
  replace HU2 := Lib.hid (HU2.out.read hb)
  replace HW := Lib.hid (belowOn HW.out (Nat.le_refl _) hb)
  have HS3 := Lib.hid (hb.size)
  clear HF hb
  obtain ⟨c0a, c0b, c0c, c0d⟩ := HB2.out.cells
  have z0 := HB2.out.le
  have HTO := Lib.hid (toTerm_any t0 _ w3 HA0.out.argsAt hZt0)
  go_wp2_with fail
  refine HTO.out.mono ?_
  rintro e w4 ⟨u4, rfl, hn⟩
  clear c0a c0b c0c c0d z0
  have hb := hn.2
  replace HA0 := Lib.hid (HA0.out.read hb)
  replace HB2 := Lib.hid (HB2.out.read hb)
  replace HU2 := Lib.hid (HU2.out.read hb)
  replace HW := Lib.hid (belowOn HW.out (Nat.le_refl _) hb)
  have HS4 := Lib.hid (hb.size)
  have HU4 := Lib.hid hn.at
  obtain ⟨ad104, cap104, rfl⟩ := hn.1.argsAt.slice
  clear HTO hn hb
  have hal : Below w4.heap.size w4 (w4.alloc (.cells #[.int .i64 t0.kind, .int .i64 t0.num, .string t0.name, .slice ad104 t0.args.length cap104] 28)) := (Below.refl _ _).alloc (Nat.le_refl _) _
  replace HA0 := Lib.hid (HA0.out.read hal)
  replace HB2 := Lib.hid (HB2.out.read hal)
  replace HU2 := Lib.hid (HU2.out.read hal)
  replace HU4 := Lib.hid (HU4.out.read hal)
  replace HW := Lib.hid (belowOn HW.out (Nat.le_refl _) hal)
  have HB7 := Lib.hid (at_box_of w4 #[.int .i64 t0.kind, .int .i64 t0.num, .string t0.name, .slice ad104 t0.args.length cap104] 28 (w4.heap.size) (by simp))
  have HS5 := Lib.hid (show (w4.alloc (.cells #[.int .i64 t0.kind, .int .i64 t0.num, .string t0.name, .slice ad104 t0.args.length cap104] 28)).heap.size = w4.heap.size + 1 by simp)
  clear hal
  obtain ⟨c0a, c0b, c0c, c0d⟩ := HB7.out.cells
  have z0 := HB7.out.le
  have HF := Lib.hid (implContainsSymbol_any t0 _ s1 (w4.alloc (.cells #[.int .i64 t0.kind, .int .i64 t0.num, .string t0.name, .slice ad104 t0.args.length cap104] 28)) HU4.out.argsAt hZt0 (by unfold maxLen; omega))
  go_wp2_with fail
  refine HF.out.mono ?_
  rintro e w5 ⟨rfl, hb⟩
  clear c0a c0b c0c c0d z0
  replace HA0 := Lib.hid (HA0.out.read hb)
  replace HB2 := Lib.hid (HB2.out.read hb)
  replace HU2 := Lib.hid (HU2.out.read hb)
  replace HU4 := Lib.hid (HU4.out.read hb)
  replace HB7 := Lib.hid (HB7.out.read hb)
  replace HW := Lib.hid (belowOn HW.out (Nat.le_refl _) hb)
  have HS6 := Lib.hid (hb.size)
  clear HF hb
  go_upto_region 12 with (fail)
  go_cut [33] from 29 (fun b wx => b = .bool false ∧ Below w5.heap.size w5 wx)
  case first =>
    obtain ⟨c0a, c0b, c0c, c0d⟩ := HB7.out.cells
    have z0 := HB7.out.le
    obtain ⟨c1a, c1b, c1c, c1d⟩ := HB2.out.cells
    have z1 := HB2.out.le
    have hself : Below w5.heap.size w5 w5 := Below.refl _ _
    have hdrew : Below w5.heap.size w5 w5.drew := hself.drew
    have HCE : Hid (∀ W, Below w5.heap.size w5 W → W.cell? ⟨w4.heap.size, 0, none⟩ = some (.int .i64 t0.kind) ∧ W.cell? ⟨w4.heap.size, 1, none⟩ = some (.int .i64 t0.num) ∧ W.cell? ⟨w4.heap.size, 2, none⟩ = some (.string t0.name) ∧ W.cell? ⟨w4.heap.size, 3, none⟩ = some (.slice ad104 t0.args.length cap104) ∧ W.cell? ⟨w.heap.size, 0, none⟩ = some (.int .i64 t0.kind) ∧ W.cell? ⟨w.heap.size, 1, none⟩ = some (.int .i64 t0.num) ∧ W.cell? ⟨w.heap.size, 2, none⟩ = some (.string t0.name) ∧ W.cell? ⟨w.heap.size, 3, none⟩ = some (.slice ad0 t0.args.length cap0)) := Lib.hid fun W hW => by
      obtain ⟨y0a, y0b, y0c, y0d⟩ := (HB7.out.read hW).cells
      obtain ⟨y1a, y1b, y1c, y1d⟩ := (HB2.out.read hW).cells
      exact ⟨y0a, y0b, y0c, y0d, y1a, y1b, y1c, y1d⟩
    have HTR : Hid (∀ a b, Below w5.heap.size w5 a → Below a.heap.size a b → Below w5.heap.size w5 b) := Lib.hid fun a b h1 h2 => belowOn h1 (Nat.le_refl _) h2
    have HTO0 : Hid (∀ W, Below w5.heap.size w5 W → Calls Try.prog 31 #[.agg #[.int .i64 t0.kind, .int .i64 t0.num, .string t0.name, .slice ad0 t0.args.length cap0]] W fun e w' => ∃ u, e = .returned (.agg #[.int .i64 t0.kind, .int .i64 t0.num, .string t0.name, u]) ∧ (∀ W2, Below w'.heap.size w' W2 → ArgsAt W2 u t0.args) ∧ Below W.heap.size W w') := Lib.hid fun W hW =>
      (toTerm_any t0 _ W (HA0.out.read hW).argsAt hZt0).mono fun e w' ⟨u, he, hn⟩ => ⟨u, he, fun W2 h2 => hn.1.argsAt.kept h2, hn.2⟩
    have HEQ : Hid (∀ W u, Below w5.heap.size w5 W → ArgsAt W u t0.args → Calls Try.prog 33 #[.agg #[.int .i64 t0.kind, .int .i64 t0.num, .string t0.name, .slice ad104 t0.args.length cap104], .agg #[.int .i64 t0.kind, .int .i64 t0.num, .string t0.name, u]] W (Yes W)) := Lib.hid fun W u hW hu => eqTerm_any t0 _ _ W (HU4.out.read hW).argsAt hu hZt0
    clear HW HA0 HB2 HU2 HU4 HB7
    go_region_held3 (fun w' => Below w5.heap.size w5 w' ∧ w'.cell? ⟨w4.heap.size, 0, none⟩ = some (.int .i64 t0.kind) ∧ w'.cell? ⟨w4.heap.size, 1, none⟩ = some (.int .i64 t0.num) ∧ w'.cell? ⟨w4.heap.size, 2, none⟩ = some (.string t0.name) ∧ w'.cell? ⟨w4.heap.size, 3, none⟩ = some (.slice ad104 t0.args.length cap104) ∧ w'.cell? ⟨w.heap.size, 0, none⟩ = some (.int .i64 t0.kind) ∧ w'.cell? ⟨w.heap.size, 1, none⟩ = some (.int .i64 t0.num) ∧ w'.cell? ⟨w.heap.size, 2, none⟩ = some (.string t0.name) ∧ w'.cell? ⟨w.heap.size, 3, none⟩ = some (.slice ad0 t0.args.length cap0)) (go_keep)
      (first
        | (go_at_call 31; (with_reducible refine Calls.mono (HTO0.out _ ?_) ?_); (first | assumption | exact belowAlloc (by assumption) _ | exact (belowAlloc (by assumption) _).drew); rintro e wA0 ⟨u0, rfl, hu0, hb0⟩; have HUU0 := Lib.hid hu0; clear hu0; have hB0 := HTR.out _ _ (by first | assumption | exact belowAlloc (by assumption) _ | exact (belowAlloc (by assumption) _).drew) hb0; obtain ⟨k0, k1, k2, k3, k4, k5, k6, k7⟩ := HCE.out _ hB0)
        | (go_at_call 33; (with_reducible refine Calls.mono (HEQ.out _ _ ?_ ?_) ?_); (assumption); (first | exact HUU0.out _ (Below.refl _ _) | exact HUU0.out _ (by assumption)); rintro e w' ⟨rfl, hbz⟩; have hB' := HTR.out _ _ (by assumption) hbz; obtain ⟨k0, k1, k2, k3, k4, k5, k6, k7⟩ := HCE.out _ hB'))
    all_goals (go_wp2_with fail; go_meet; exact ⟨rfl, by assumption⟩)
  case rest =>
    obtain ⟨rfl, hb⟩ := hcut
    obtain ⟨w6, rfl⟩ : ∃ x : World, x = wc := ⟨_, rfl⟩
    replace HA0 := Lib.hid (HA0.out.read hb)
    replace HB2 := Lib.hid (HB2.out.read hb)
    replace HU2 := Lib.hid (HU2.out.read hb)
    replace HU4 := Lib.hid (HU4.out.read hb)
    replace HB7 := Lib.hid (HB7.out.read hb)
    replace HW := Lib.hid (belowOn HW.out (Nat.le_refl _) hb)
    have HS7 := Lib.hid (hb.size)
    clear hb
    go_wp2
    go_ret
    exact ⟨rfl, HW.out⟩
end Go.Proofs.Ytnmdnajbafpfiaa

