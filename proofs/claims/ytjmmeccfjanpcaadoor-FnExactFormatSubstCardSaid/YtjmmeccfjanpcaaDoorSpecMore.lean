/-
  The model's l02Same, MoreGeneral.
-/
import Derived.Test.YtjmmeccfjanpcaaDoorSpecLookup
namespace Go.Proofs.YtjmmeccfjanpcaaDoor
open Go.RowKit
set_option linter.unusedVariables false
set_option linter.unusedSimpArgs false

def varTm (v : Int) : Tm := .mk 1 v ⟨#[]⟩ []
/-- The equation of one binding holds under t. -/
def EqnP (t : List Bd) (b : Bd) : Prop := (putT t (varTm b.v)).nodes ≤ 5000 ∧ (putT t b.t).nodes ≤ 5000 ∧ ((putT t (varTm b.v)).cmp (putT t b.t) == 0) = true
def MoreP (s t : List Bd) : Prop := SubstP s ∧ SubstP t ∧ ∀ b ∈ s, EqnP t b
open Classical in
noncomputable def moreB (s t : List Bd) : Bool := decide (MoreP s t)
open Classical in
theorem more_true {s t : List Bd} : moreB s t = true ↔ MoreP s t := by simp [moreB]
open Classical in
theorem more_false {s t : List Bd} : moreB s t = false ↔ ¬ MoreP s t := by simp [moreB]
theorem varTm_ok {v : Int} (h : 0 ≤ v ∧ v ≤ 100000) : Ok (varTm v) := ⟨by rw [nodes_eq]; show 1 + nodesL [] ≤ 5000; rw [nodesL_nil]; decide, .var v h.1 h.2⟩

end Go.Proofs.YtjmmeccfjanpcaaDoor

