/-
  The order of terms: the contracts of the program's compare and of the model's l02Cmp, and of CompareTerms on both sides.
-/
import Derived.Test.YtokndpmoamjbfaaDoorOrd
namespace Go.Proofs.YtokndpmoamjbfaaDoor
open Go.RowKit
set_option linter.unusedVariables false
set_option linter.unusedSimpArgs false

theorem belowAlloc {w w' : World} (h : Below w.heap.size w w') (o : Obj) : Below w.heap.size w (w'.alloc o) := h.alloc h.size o
theorem cmp_of_num {t u : Tm} (h : ¬ cmpN t u = 0) : t.cmp u = cmpN t u := by rw [cmp_eq, if_pos h]
theorem cmp_of_args {t u : Tm} (h : cmpN t u = 0) : t.cmp u = cmpL t.args u.args := by rw [cmp_eq, if_neg (by omega)]
theorem cmpL_one {t u : Tm} {l m : List Tm} (h : ¬ t.cmp u = 0) : cmpL (t :: l) (u :: m) = t.cmp u := by rw [cmpL, if_pos h]
theorem cmpL_two {t u : Tm} {l m : List Tm} (h : t.cmp u = 0) : cmpL (t :: l) (u :: m) = cmpL l m := by rw [cmpL, if_neg (by omega)]
theorem cmpL_last {t u : Tm} : cmpL [t] [u] = t.cmp u := by
  rw [cmpL]
  split
  · rfl
  · rw [cmpL]; omega
theorem cmpN_kind {t u : Tm} (h : cmpN t u = 0) : t.kind = u.kind := by
  unfold cmpN or3 at h
  have : cmpI t.kind u.kind = 0 := by
    by_cases h1 : cmpI t.kind u.kind = 0
    · exact h1
    · rw [if_pos h1] at h; exact h
  unfold cmpI at this
  split at this
  · omega
  · split at this <;> omega
theorem Fit.pair {t : Tm} (h : Fit t) (hk : t.kind = 4) : ∃ a b, t.args = [a, b] := by
  rcases h with ⟨h, _⟩ | ⟨h, _⟩ | ⟨h, _⟩ | ⟨h, _⟩ | ⟨_, _, _, h⟩
  · rw [hk] at h; cases h
  · rw [hk] at h; cases h
  · rw [hk] at h; cases h
  · rw [hk] at h; cases h
  · exact two_of h
theorem Fit.atom {t : Tm} (h : Fit t) (hk : ¬ t.kind = 4) : t.args = [] := by
  rcases h with ⟨_, _, _, h⟩ | ⟨_, _, _, h⟩ | ⟨_, _, _, h⟩ | ⟨_, _, _, h⟩ | ⟨h, _⟩
  · exact h
  · exact h
  · exact h
  · exact h
  · exact absurd h hk
/-- A pair's two parts, where they lie. -/
theorem ArgsAt.two {w : World} {a : Option Addr} {n cap : Nat} {l : List Tm} {x y : Tm} (h : ArgsAt w (.slice a n cap) l) (hl : l = [x, y]) :
    ∃ g off u1 u2 v1 v2, a = some ⟨g, off, none⟩ ∧ g < w.heap.size ∧ n = 2 ∧
      (∀ W, Below w.heap.size w W → W.cell? ⟨g, off, none⟩ = some (.int .i64 x.kind) ∧ W.cell? ⟨g, off + 1, none⟩ = some (.int .i64 x.num) ∧ W.cell? ⟨g, off + 2, none⟩ = some (.string x.name) ∧ W.cell? ⟨g, off + 3, none⟩ = some (.slice u1 x.args.length u2)) ∧
      (∀ W, Below w.heap.size w W → W.cell? ⟨g, off + 4, none⟩ = some (.int .i64 y.kind) ∧ W.cell? ⟨g, off + 4 + 1, none⟩ = some (.int .i64 y.num) ∧ W.cell? ⟨g, off + 4 + 2, none⟩ = some (.string y.name) ∧ W.cell? ⟨g, off + 4 + 3, none⟩ = some (.slice v1 y.args.length v2)) ∧
      ArgsAt w (.slice u1 x.args.length u2) x.args ∧ ArgsAt w (.slice v1 y.args.length v2) y.args := by
  obtain ⟨g, off, u1, u2, rfl, hg, hn, hc, hx⟩ := h.elem (k := 0) (x := x) (by rw [hl]; rfl)
  obtain ⟨g', off', v1, v2, he, hg', hn', hc', hy⟩ := h.elem (k := 1) (x := y) (by rw [hl]; rfl)
  simp only [Option.some.injEq, Addr.mk.injEq, and_true] at he
  obtain ⟨rfl, rfl⟩ := he
  refine ⟨g, off, u1, u2, v1, v2, rfl, hg, by rw [hn, hl]; rfl, fun W hW => ?_, fun W hW => ?_, hx, hy⟩
  · have := hc W hW
    simpa using this
  · have := hc' W hW
    simpa using this

end Go.Proofs.YtokndpmoamjbfaaDoor

