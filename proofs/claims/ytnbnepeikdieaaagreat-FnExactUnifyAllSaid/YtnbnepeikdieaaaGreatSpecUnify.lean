/-
  The model's Unify, l05Join, JoinSubst.
-/
import Derived.Test.YtnbnepeikdieaaaGreatSpecAll
import Derived.Test.YtnbnepeikdieaaaGreatUnifyJ
namespace Go.Proofs.YtnbnepeikdieaaaGreat
open Go.RowKit
set_option linter.unusedVariables false
set_option linter.unusedSimpArgs false

set_option maxRecDepth 100000 in
set_option maxHeartbeats 1000000 in
theorem specUnify_any (s : List Bd) (Vs : Value) (a : Tm) (Va : Value) (b : Tm) (Vb : Value) (w : World) (hA : ListS bdE w Any Vs s) (hZ : szB s ≤ 1048576) (ha : ArgsAt w Va a.args) (hZa : a.sz ≤ 1048576) (hb : ArgsAt w Vb b.args) (hZb : b.sz ≤ 1048576) :
    Calls Tryz.prog 7 #[Vs, .agg #[.int .i64 a.kind, .int .i64 a.num, .string a.name, Va], .agg #[.int .i64 b.kind, .int .i64 b.num, .string b.name, Vb]] w (OldB2 (unL s a b) (unB s a b) w) := by
  obtain ⟨sa, sc, rfl⟩ := hA.slice
  obtain ⟨aa, ac, rfl⟩ := ha.slice
  obtain ⟨ba, bc, rfl⟩ := hb.slice
  have hB : Below w.heap.size w ((((w.alloc (.cells #[.int .i64 a.kind, .int .i64 a.num, .string a.name, .slice aa a.args.length ac] 34)).alloc (.cells #[.int .i64 b.kind, .int .i64 b.num, .string b.name, .slice ba b.args.length bc] 34)).alloc (.cells #[.int .i64 a.kind, .int .i64 a.num, .string a.name, .slice aa a.args.length ac] 34)).alloc (.cells #[.int .i64 b.kind, .int .i64 b.num, .string b.name, .slice ba b.args.length bc] 34)) := belowAlloc (belowAlloc (belowAlloc (belowAlloc (Below.refl _ _) _) _) _) _
  have h3 : ((((w.alloc (.cells #[.int .i64 a.kind, .int .i64 a.num, .string a.name, .slice aa a.args.length ac] 34)).alloc (.cells #[.int .i64 b.kind, .int .i64 b.num, .string b.name, .slice ba b.args.length bc] 34)).alloc (.cells #[.int .i64 a.kind, .int .i64 a.num, .string a.name, .slice aa a.args.length ac] 34)).alloc (.cells #[.int .i64 b.kind, .int .i64 b.num, .string b.name, .slice ba b.args.length bc] 34)).heap[w.heap.size + 1 + 1]? = some (.cells #[.int .i64 a.kind, .int .i64 a.num, .string a.name, .slice aa a.args.length ac] 34) := by
    rw [Below.heap_alloc _ _ _ (by simp)]
    have := heap_new ((w.alloc (.cells #[.int .i64 a.kind, .int .i64 a.num, .string a.name, .slice aa a.args.length ac] 34)).alloc (.cells #[.int .i64 b.kind, .int .i64 b.num, .string b.name, .slice ba b.args.length bc] 34)) (.cells #[.int .i64 a.kind, .int .i64 a.num, .string a.name, .slice aa a.args.length ac] 34)
    simpa using this
  have h4 : ((((w.alloc (.cells #[.int .i64 a.kind, .int .i64 a.num, .string a.name, .slice aa a.args.length ac] 34)).alloc (.cells #[.int .i64 b.kind, .int .i64 b.num, .string b.name, .slice ba b.args.length bc] 34)).alloc (.cells #[.int .i64 a.kind, .int .i64 a.num, .string a.name, .slice aa a.args.length ac] 34)).alloc (.cells #[.int .i64 b.kind, .int .i64 b.num, .string b.name, .slice ba b.args.length bc] 34)).heap[w.heap.size + 1 + 1 + 1]? = some (.cells #[.int .i64 b.kind, .int .i64 b.num, .string b.name, .slice ba b.args.length bc] 34) := by
    have := heap_new (((w.alloc (.cells #[.int .i64 a.kind, .int .i64 a.num, .string a.name, .slice aa a.args.length ac] 34)).alloc (.cells #[.int .i64 b.kind, .int .i64 b.num, .string b.name, .slice ba b.args.length bc] 34)).alloc (.cells #[.int .i64 a.kind, .int .i64 a.num, .string a.name, .slice aa a.args.length ac] 34)) (.cells #[.int .i64 b.kind, .int .i64 b.num, .string b.name, .slice ba b.args.length bc] 34)
    simpa using this
  have HC := Lib.hid (specUnifyAll_b s _ [a] _ [b] _ _ (hA.kept hB) hZ (argsAt_one h3 (ha.kept hB)) (by rw [szL, szL]; omega) (by simp) (argsAt_one h4 (hb.kept hB)) (by rw [szL, szL]; omega))
  have HB := Lib.hid hB
  clear hA ha hb hB h3 h4
  go_enter Tryz.func7, Tryz.ntmps7
  go_wp2_with fail
  refine HC.out.mono ?_
  rintro e w1 ⟨V, rfl, hV, hb⟩
  have HE : Hid (OldB2 (unL s a b) (unB s a b) w (.returned (.tuple #[V, .bool (uaB s [a] [b])])) w1) := Lib.hid ⟨V, rfl, hV, belowOn HB.out (Nat.le_refl _) hb⟩
  clear hV hb HC
  go_wp2
  go_ret2
  exact HE.out
theorem js_each (s t : List Bd) : EachB (jsL s t) := by
  by_cases h : SubstP s ∧ SubstP t
  · rw [(js_yes h).1]
    rcases mu_subst (s := s) (E := eqnsB t) with e | e
    · rw [e]; exact ⟨Nat.zero_le _, fun b hb => by simp at hb⟩
    · exact e.each
  · rw [(js_no h).1]; exact ⟨Nat.zero_le _, fun b hb => by simp at hb⟩
theorem js_nk (s t : List Bd) : nkB (jsL s t) ≤ 4294967296 := by
  by_cases h : SubstP s ∧ SubstP t
  · rw [(js_yes h).1]
    rcases mu_subst (s := s) (E := eqnsB t) with e | e
    · rw [e]; exact Nat.zero_le _
    · exact e.nk
  · rw [(js_no h).1]; exact Nat.zero_le _
theorem js_false {s t : List Bd} (h : jsB s t = false) : jsL s t = [] := by
  by_cases hp : SubstP s ∧ SubstP t
  · rw [(js_yes hp).2] at h
    rw [(js_yes hp).1]
    exact (mu_no (mu_false hp.1 (eqns_ok hp.2) h)).1
  · exact (js_no hp).1
theorem rowT_start {w : World} {lo : Nat} (hl : lo ≤ w.heap.size) : RowT (w.alloc (.cells #[] 34)) lo (.slice (some ⟨w.heap.size, 0, none⟩) 0 0) [] :=
  ⟨[], rfl, ⟨by simp [cellsL], .inr ⟨w.heap.size, 0, #[], rfl, hl, heap_new w _, Nat.le_refl _, Nat.zero_le _, by simp, by simp [cellsL]⟩⟩, fun j p hj => by simp at hj⟩

end Go.Proofs.YtnbnepeikdieaaaGreat

