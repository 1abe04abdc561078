/-
  The model's Unify, l05Join, JoinSubst.
-/
import Derived.Test.YtbbgiefnmihmdaaGreatSpecAll
import Derived.Test.YtbbgiefnmihmdaaGreatUnifyJ
namespace Go.Proofs.YtbbgiefnmihmdaaGreat
open Go.RowKit
set_option linter.unusedVariables false
set_option linter.unusedSimpArgs false

theorem js_each (s t : List Bd) : EachB (jsL s t) := by
  by_cases h : SubstP s ∧ SubstP t
  · rw [(js_yes h).1]
    rcases mu_subst (s := s) (E := eqnsB t) with e | e
    · rw [e]; exact ⟨Nat.zero_le _, fun b hb => by simp at hb⟩
    · exact e.each
  · rw [(js_no h).1]; exact ⟨Nat.zero_le _, fun b hb => by simp at hb⟩
theorem js_nk (s t : List Bd) : nkB (jsL s t) ≤ 4294967296 := by
  by_cases h : SubstP s ∧ SubstP t
  · rw [(js_yes h).1]
    rcases mu_subst (s := s) (E := eqnsB t) with e | e
    · rw [e]; exact Nat.zero_le _
    · exact e.nk
  · rw [(js_no h).1]; exact Nat.zero_le _
theorem js_false {s t : List Bd} (h : jsB s t = false) : jsL s t = [] := by
  by_cases hp : SubstP s ∧ SubstP t
  · rw [(js_yes hp).2] at h
    rw [(js_yes hp).1]
    exact (mu_no (mu_false hp.1 (eqns_ok hp.2) h)).1
  · exact (js_no hp).1
theorem rowT_start {w : World} {lo : Nat} (hl : lo ≤ w.heap.size) : RowT (w.alloc (.cells #[] 27)) lo (.slice (some ⟨w.heap.size, 0, none⟩) 0 0) [] :=
  ⟨[], rfl, ⟨by simp [cellsL], .inr ⟨w.heap.size, 0, #[], rfl, hl, heap_new w _, Nat.le_refl _, Nat.zero_le _, by simp, by simp [cellsL]⟩⟩, fun j p hj => by simp at hj⟩

end Go.Proofs.YtbbgiefnmihmdaaGreat

