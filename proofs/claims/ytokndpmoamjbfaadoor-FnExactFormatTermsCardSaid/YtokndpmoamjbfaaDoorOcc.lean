/-
  How often a variable occurs: the contracts of l02Occurs, OccursIn (model), occurrences, OccursIn (program).
-/
import Derived.Test.YtokndpmoamjbfaaDoorAt
namespace Go.Proofs.YtokndpmoamjbfaaDoor
open Go.RowKit
set_option linter.unusedVariables false

mutual
def Tm.occ (v : Int) : Tm → Nat | .mk k i _ l => if k = 1 ∧ i = v then 1 else occL v l
def occL (v : Int) : List Tm → Nat | [] => 0 | t :: l => t.occ v + occL v l
end
theorem occ_eq (v : Int) (t : Tm) : t.occ v = if t.kind = 1 ∧ t.num = v then 1 else occL v t.args := by cases t; rw [Tm.occ]; rfl
theorem occL_nil (v : Int) : occL v [] = 0 := by rw [occL]
theorem occL_append (v : Int) (a b : List Tm) : occL v (a ++ b) = occL v a + occL v b := by
  induction a with
  | nil => simp [occL]
  | cons t l ih => simp only [List.cons_append, occL, ih]; omega
theorem occ_take (v : Int) {l : List Tm} {j : Nat} {t : Tm} (h : l[j]? = some t) : occL v (l.take (j + 1)) = occL v (l.take j) + t.occ v := by
  rw [take_snoc h, occL_append]; simp [occL]
mutual
theorem occ_nodes (v : Int) : ∀ t : Tm, t.occ v ≤ t.nodes
  | .mk k i _ l => by rw [Tm.occ, Tm.nodes]; have := occL_nodes v l; split <;> omega
theorem occL_nodes (v : Int) : ∀ l : List Tm, occL v l ≤ nodesL l
  | [] => by rw [occL]; omega
  | t :: l => by rw [occL, nodesL]; have := occ_nodes v t; have := occL_nodes v l; omega
end
theorem occ_take_le' (v : Int) (l : List Tm) (j : Nat) : occL v (l.take j) ≤ occL v l := by
  conv => rhs; rw [← List.take_append_drop j l]
  rw [occL_append]; omega
theorem occ_take_le (v : Int) (l : List Tm) (j : Nat) : occL v (l.take j) ≤ nodesL l := by have := occL_nodes v (l.take j); have := nodes_take_le l j; omega

noncomputable def occB (v : Int) (t : Tm) : Bool := okB t && decide (0 < t.occ v)

theorem fit_var {t : Tm} (h : Fit t) (h1 : t.kind = 1) : t.args = [] := by
  rcases h with ⟨h, _⟩ | ⟨_, _, _, h⟩ | ⟨h, _⟩ | ⟨h, _⟩ | ⟨h, _⟩
  · rw [h1] at h; cases h
  · exact h
  · rw [h1] at h; cases h
  · rw [h1] at h; cases h
  · rw [h1] at h; cases h

end Go.Proofs.YtokndpmoamjbfaaDoor

