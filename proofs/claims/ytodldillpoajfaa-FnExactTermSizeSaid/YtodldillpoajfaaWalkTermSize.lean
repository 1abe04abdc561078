/-
  The law of TermSize, walked: it returns true, and nothing that was there is changed.
-/
import Derived.Test.YtodldillpoajfaaHelp
namespace Go.Proofs.Ytodldillpoajfaa
open Go.RowKit

set_option maxHeartbeats 1600000 in
theorem walkTermSize (w : World) (t : Tm) (V : Value) (hA : ArgsAt w V t.args) (hf : t.fine) :
    Calls Try.prog 6 #[.agg #[.int .i64 t.kind, .int .i64 t.num, .string t.name, V]] w fun e w' => e = .returned (.bool true) ∧ Below w.heap.size w w' := by
  obtain ⟨a, cap, rfl⟩ := hA.slice
  have B0 := Lib.hid ((Below.refl w.heap.size w).alloc (Nat.le_refl _) (.cells #[.int .i64 t.kind, .int .i64 t.num, .string t.name, .slice a t.args.length cap] 43))
  have HK := Lib.hid (boxIn w (.int .i64 t.kind) (.int .i64 t.num) (.string t.name) (.slice a t.args.length cap) 43)
  have HA := Lib.hid hA
  have HSZ := Lib.hid (szTerm_any t _ 1048576 (w.alloc (.cells #[.int .i64 t.kind, .int .i64 t.num, .string t.name, .slice a t.args.length cap] 43)) (hA.kept B0.out) hf (by omega) (by omega))
  clear hA
  go_enter Try.func6, Try.ntmps6
  go_wp2_with fail
  refine HSZ.out.mono ?_
  rintro e w1 ⟨r, rfl, hr1, hr2, hr, hb⟩
  have hq1 : Below (w.heap.size + 1) (w.alloc (.cells #[.int .i64 t.kind, .int .i64 t.num, .string t.name, .slice a t.args.length cap] 43)) w1 := by simpa using hb
  clear hb HSZ
  by_cases hneg : r < 0
  · obtain ⟨h1, _⟩ := HK.out _ hq1
    have H1 := Lib.hid h1
    clear h1 hq1 hr
    go_wp2
    go_ret
    exact ⟨rfl, H1.out⟩
  · have hZ : t.sz ≤ 1048576 := by have := hr (by omega); omega
    clear hr hr1 hr2
    obtain ⟨h1, x0, x1, x2, x3, _⟩ := HK.out _ hq1
    have H1 := Lib.hid h1
    have Q1 := Lib.hid hq1
    have HTO := Lib.hid (toTerm_any t _ w1 (HA.out.kept h1) hZ)
    clear h1 hq1
    go_wp2_with fail
    refine HTO.out.mono ?_
    rintro e w2 ⟨u, rfl, hn⟩
    have Q2 := Lib.hid (Q1.out.trans (hn.2.mono (by have := Q1.out.size; simpa using this)))
    have HSP := Lib.hid (specTermSize_any t u w2 hn.1.argsAt hZ)
    clear hn HTO x0 x1 x2 x3
    go_wp2_with fail
    refine HSP.out.mono ?_
    rintro e w3 ⟨rfl, hb3⟩
    have Q3 := Lib.hid (Q2.out.trans (hb3.mono (by have := Q2.out.size; simpa using this)))
    obtain ⟨h3, x0, x1, x2, x3, _⟩ := HK.out _ Q3.out
    have HTO := Lib.hid (toTerm_any t _ w3 (HA.out.kept h3) hZ)
    clear h3 hb3 HSP
    go_wp2_with fail
    refine HTO.out.mono ?_
    rintro e w4 ⟨u4, rfl, hn⟩
    have Q4 := Lib.hid (Q3.out.trans (hn.2.mono (by have := Q3.out.size; simpa using this)))
    obtain ⟨ua, uc, rfl⟩ := hn.1.argsAt.slice
    have HX := Lib.hid hn.1.argsAt
    have hbx : Below w4.heap.size w4 (w4.alloc (.cells #[.int .i64 t.kind, .int .i64 t.num, .string t.name, .slice ua t.args.length uc] 25)) := (Below.refl _ _).alloc (Nat.le_refl _) _
    have HKX := Lib.hid (boxIn w4 (.int .i64 t.kind) (.int .i64 t.num) (.string t.name) (.slice ua t.args.length uc) 25)
    have HIM := Lib.hid (implTermSize_any t _ _ (HX.out.kept hbx) hZ)
    have BX := Lib.hid hbx
    clear hn HTO x0 x1 x2 x3 hbx
    go_wp2_with fail
    refine HIM.out.mono ?_
    rintro e w5 ⟨rfl, hb5⟩
    have hqx : Below (w4.heap.size + 1) (w4.alloc (.cells #[.int .i64 t.kind, .int .i64 t.num, .string t.name, .slice ua t.args.length uc] 25)) w5 := by simpa using hb5
    have Q5 := Lib.hid (Q4.out.trans (((HKX.out _ hqx).1).mono (by have := Q4.out.size; simpa using this)))
    have QX := Lib.hid hqx
    clear hb5 hqx HIM
    have HCE : Hid (∀ W, Below w5.heap.size w5 W → W.cell? ⟨w.heap.size, 0, none⟩ = some (.int .i64 t.kind) ∧ W.cell? ⟨w.heap.size, 1, none⟩ = some (.int .i64 t.num) ∧ W.cell? ⟨w.heap.size, 2, none⟩ = some (.string t.name) ∧ W.cell? ⟨w.heap.size, 3, none⟩ = some (.slice a t.args.length cap) ∧
        W.cell? ⟨w4.heap.size, 0, none⟩ = some (.int .i64 t.kind) ∧ W.cell? ⟨w4.heap.size, 1, none⟩ = some (.int .i64 t.num) ∧ W.cell? ⟨w4.heap.size, 2, none⟩ = some (.string t.name) ∧ W.cell? ⟨w4.heap.size, 3, none⟩ = some (.slice ua t.args.length uc)) := Lib.hid fun W hW => by
      obtain ⟨_, y0, y1, y2, y3, _⟩ := HK.out _ (Q5.out.trans (hW.mono (by have := Q5.out.size; simpa using this)))
      obtain ⟨_, z0, z1, z2, z3, _⟩ := HKX.out _ (QX.out.trans (hW.mono (by have := QX.out.size; simpa using this)))
      exact ⟨y0, y1, y2, y3, z0, z1, z2, z3⟩
    have HTO : Hid (∀ W, Below w5.heap.size w5 W → Calls Try.prog 27 #[.agg #[.int .i64 t.kind, .int .i64 t.num, .string t.name, .slice a t.args.length cap]] W fun e w' => ∃ u, e = .returned (.agg #[.int .i64 t.kind, .int .i64 t.num, .string t.name, u]) ∧ ArgsAt w' u t.args ∧ Below W.heap.size W w') := Lib.hid fun W hW => by
      obtain ⟨h, _⟩ := HK.out _ (Q5.out.trans (hW.mono (by have := Q5.out.size; simpa using this)))
      exact (toTerm_any t _ W (HA.out.kept h) hZ).mono fun e w' ⟨u, he, hn⟩ => ⟨u, he, hn.1.argsAt, hn.2⟩
    have HEQ : Hid (∀ W u, Below w5.heap.size w5 W → ArgsAt W u t.args → Calls Try.prog 28 #[.agg #[.int .i64 t.kind, .int .i64 t.num, .string t.name, .slice ua t.args.length uc], .agg #[.int .i64 t.kind, .int .i64 t.num, .string t.name, u]] W (Yes W)) := Lib.hid fun W u hW hu => by
      obtain ⟨h, _⟩ := HKX.out _ (QX.out.trans (hW.mono (by have := QX.out.size; simpa using this)))
      exact eqTerm_any t _ _ W (HX.out.kept h) hu hZ
    have HTR : Hid (∀ a b, Below w5.heap.size w5 a → Below a.heap.size a b → Below w5.heap.size w5 b) := Lib.hid fun a b h1 h2 => h1.trans (h2.mono h1.size)
    have HF5 := Lib.hid (HK.out _ Q5.out).1
    have hb0 : Below w5.heap.size w5 w5 := Below.refl _ _
    have hbd : Below w5.heap.size w5 w5.drew := hb0.drew
    obtain ⟨d0, d1, d2, d3, d4, d5, d6, d7⟩ := HCE.out w5 hb0
    clear HA HX HK HKX Q1 Q2 Q3 Q4 Q5 QX BX B0
    generalize t.args = ar at *
    generalize t.kind = tk at *
    generalize t.num = ti at *
    generalize t.name = ts at *
    go_wp2_with fail
    go_region_held3 (fun w' => Below w5.heap.size w5 w' ∧ w'.cell? ⟨w.heap.size, 0, none⟩ = some (.int .i64 tk) ∧ w'.cell? ⟨w.heap.size, 1, none⟩ = some (.int .i64 ti) ∧ w'.cell? ⟨w.heap.size, 2, none⟩ = some (.string ts) ∧ w'.cell? ⟨w.heap.size, 3, none⟩ = some (.slice a ar.length cap) ∧
        w'.cell? ⟨w4.heap.size, 0, none⟩ = some (.int .i64 tk) ∧ w'.cell? ⟨w4.heap.size, 1, none⟩ = some (.int .i64 ti) ∧ w'.cell? ⟨w4.heap.size, 2, none⟩ = some (.string ts) ∧ w'.cell? ⟨w4.heap.size, 3, none⟩ = some (.slice ua ar.length uc)) (go_keep)
      (first
        | (go_at_call 27; refine Calls.mono (HTO.out _ ?_) ?_; (assumption); rintro e w' ⟨u, rfl, hu, hb⟩; have hB' := HTR.out _ _ (by assumption) hb; obtain ⟨k0, k1, k2, k3, k4, k5, k6, k7⟩ := HCE.out _ hB')
        | (go_at_call 28; refine Calls.mono (HEQ.out _ _ ?_ ?_) ?_; (assumption); (assumption); rintro e w' ⟨rfl, hb⟩; have hB' := HTR.out _ _ (by assumption) hb; obtain ⟨k0, k1, k2, k3, k4, k5, k6, k7⟩ := HCE.out _ hB'))
    all_goals (go_wp2; go_ret; exact ⟨rfl, HF5.out.trans ((by assumption : Below w5.heap.size w5 _).mono HF5.out.size)⟩)
end Go.Proofs.Ytodldillpoajfaa
