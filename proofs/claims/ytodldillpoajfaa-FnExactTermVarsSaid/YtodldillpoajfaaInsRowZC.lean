/-
  The model's l02Insert on an empty row without room.
-/
import Derived.Test.YtodldillpoajfaaInsert
namespace Go.Proofs.Ytodldillpoajfaa
open Go.RowKit
set_option linter.unusedVariables false
set_option linter.unusedSimpArgs false

set_option maxRecDepth 100000 in
set_option maxHeartbeats 1600000 in
theorem insert_ZC (g : Nat) (n : Int) (w : World) :
    Calls Try.prog 87 #[.slice (some ⟨g, 0, none⟩) 0 0, .int .i64 n] w fun e w' => ∃ u, e = .returned u ∧ Row w' w.heap.size 3 u [.int .i64 n] ∧ Below w.heap.size w w' := by
  obtain ⟨i0, hi, hz0, hz1, hz2⟩ := info_parts infoInt
  have HII := Lib.hid (And.intro hi (And.intro hz0 (And.intro hz1 hz2)))
  clear hi hz0 hz1 hz2
  have HS := Lib.hid (row_start (w := w) (e := 3) (Nat.le_refl _))
  have HB := Lib.hid ((Below.refl w.heap.size w).alloc (Nat.le_refl _) (.cells #[] 3))
  go_enter Try.func87, Try.ntmps87
  go_wp2
  refine wp_loop_rounds 1 ?_
  rw [rounds_succ]
  go_upto_region 6 with (fail)
  go_wp2_with (first
    | (at_builtin; refine append_part rfl _ _ 47 rfl w.heap.size 3 i0 _ 8 Try.underlying47 HII.out.1 HII.out.2.1 HII.out.2.2.1 HII.out.2.2.2 rfl (by decide) _ _ rfl HS.out (some ⟨g, 0, none⟩) 0 0 rfl [] rfl (fun h => by cases h) (fun ad h j u hu => by simp at hu) (fun u h => by simp at h) (by simp) (by simp) ?_; intro v1 w1 hown1 hb1; have HO1 := Lib.hid hown1; have HB1 := Lib.hid (HB.out.trans hb1); have hs1 := HB1.out.size; clear hown1 hb1 HS)
    | (at_builtin; refine append_one rfl _ _ 47 rfl w.heap.size 3 i0 _ 8 Try.underlying47 HII.out.1 HII.out.2.1 HII.out.2.2.1 HII.out.2.2.2 rfl (by decide) _ _ rfl HO1.out (.int .i64 n) rfl rfl (by simp) hs1 ?_; intro v2 w2 hown2 hb2; have HO2 := Lib.hid hown2; have HB2 := Lib.hid (HB1.out.trans hb2); have hs2 := HB2.out.size; clear hown2 hb2 HO1)
    | (at_builtin; refine append_part rfl _ _ 47 rfl w.heap.size 3 i0 _ 8 Try.underlying47 HII.out.1 HII.out.2.1 HII.out.2.2.1 HII.out.2.2.2 rfl (by decide) _ _ rfl HO2.out (some ⟨g, 0, none⟩) 0 0 rfl [] rfl (fun h => by cases h) (fun ad h j u hu => by simp at hu) (fun u h => by simp at h) (by simp) hs2 ?_; intro v3 w3 hown3 hb3; have HO3 := Lib.hid hown3; have HB3 := Lib.hid (HB2.out.trans hb3); clear hown3 hb3 HO2))
  go_ret
  exact ⟨_, rfl, by have h := HO3.out; simpa using h, HB3.out⟩
end Go.Proofs.Ytodldillpoajfaa
