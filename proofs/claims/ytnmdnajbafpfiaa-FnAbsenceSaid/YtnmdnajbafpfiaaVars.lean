/-
  The variables of a term: the program's appendVars and TermVars.
-/
import Derived.Test.YtnmdnajbafpfiaaVarsP
import Derived.Test.YtnmdnajbafpfiaaAppendV
import Derived.Test.YtnmdnajbafpfiaaSortInts
namespace Go.Proofs.Ytnmdnajbafpfiaa
open Go.RowKit
set_option linter.unusedVariables false
set_option linter.unusedSimpArgs false

open Classical in
noncomputable def varsOf (t : Tm) : List Int := if Ok t then Lib.compact (sorted t.vl) else []

set_option maxRecDepth 100000 in
set_option maxHeartbeats 800000 in
theorem implTermVars_any (t : Tm) (V : Value) (w : World) (hA : ArgsAt w V t.args) (hZ : t.sz ≤ 1048576) :
    Calls Try.prog 87 #[.agg #[.int .i64 t.kind, .int .i64 t.num, .string t.name, V]] w fun e w' => ∃ u, e = .returned u ∧ Row w' w.heap.size 3 u ((varsOf t).map (Value.int .i64)) ∧ Below w.heap.size w w' := by
  obtain ⟨a, cap, rfl⟩ := hA.slice
  have hal : Below w.heap.size w (w.alloc (.cells #[.int .i64 t.kind, .int .i64 t.num, .string t.name, .slice a t.args.length cap] 28)) := (Below.refl _ _).alloc (Nat.le_refl _) _
  have HX := Lib.hid (at_box w #[.int .i64 t.kind, .int .i64 t.num, .string t.name, .slice a t.args.length cap] 28)
  have HO := Lib.hid (implTermOk_any t _ (w.alloc (.cells #[.int .i64 t.kind, .int .i64 t.num, .string t.name, .slice a t.args.length cap] 28)) (hA.kept hal) hZ)
  have HA := Lib.hid hA
  have HW := Lib.hid hal
  have hnz : t.nodes ≤ 1048577 := by have := nodes_sz t; omega
  clear hA hal
  go_enter Try.func87, Try.ntmps87
  go_wp2_with fail
  refine HO.out.mono ?_
  rintro e w1 ⟨rfl, hb⟩
  replace HX := Lib.hid (HX.out.read hb)
  replace HW := Lib.hid (HW.out.trans (hb.mono HW.out.size))
  clear hb HO
  cases hok : okB t with
  | false =>
    have HV : Hid (varsOf t = []) := Lib.hid (by rw [varsOf, if_neg (okB_false.1 hok)])
    clear hok
    go_wp2
    go_ret
    exact ⟨_, rfl, by rw [HV.out]; exact Row.nil _ _ _, HW.out⟩
  | true =>
    have HV : Hid (varsOf t = Lib.compact (sorted t.vl)) := Lib.hid (by rw [varsOf, if_pos (okB_true.1 hok)])
    have hn5 : t.nodes ≤ 5000 := (okB_true.1 hok).1
    have hvl := vl_len t
    clear hok
    have HC := Lib.hid (appendVars_any (t.nodes + 1) t _ w w.heap.size (.slice none 0 0) [] w1 (by omega) HA.out (Nat.le_refl _) HW.out HW.out.size (Row.nil _ _ _) (by simp; omega) hZ)
    obtain ⟨c0, c1, c2, c3⟩ := HX.out.cells
    go_wp2_with fail
    refine HC.out.mono ?_
    rintro e w2 ⟨u, rfl, hr, hb⟩
    have HW2 := Lib.hid (HW.out.trans hb)
    have HS := Lib.hid (sortInts_any u w.heap.size ([] ++ t.vl) w2 hr (by simp; omega))
    clear hr hb HC c0 c1 c2 c3
    go_wp2_with fail
    refine HS.out.mono ?_
    rintro e w3 ⟨rfl, hr, hb⟩
    have HW3 := Lib.hid (HW2.out.trans hb)
    have hsl : (sorted ([] ++ t.vl)).length = ([] ++ t.vl).length := List.length_mergeSort _
    have HK := Lib.hid (compactInts_any u w.heap.size (sorted ([] ++ t.vl)) w3 hr (by rw [hsl]; simp; omega))
    clear hr hb HS hsl
    go_wp2_with fail
    refine HK.out.mono ?_
    rintro e w4 ⟨u4, rfl, hr, hb⟩
    have HW4 := Lib.hid (HW3.out.trans hb)
    have HR := Lib.hid hr
    clear hr hb HK
    go_wp2
    go_ret
    exact ⟨_, rfl, by rw [HV.out]; exact HR.out, HW4.out⟩
end Go.Proofs.Ytnmdnajbafpfiaa

