/-
  The variables of a term: plain.
-/
import Derived.Test.YtjmmeccfjanpcaaDoorCmps
namespace Go.Proofs.YtjmmeccfjanpcaaDoor
open Go.RowKit
set_option linter.unusedVariables false
set_option linter.unusedSimpArgs false

mutual
def Tm.vl : Tm → List Int | .mk k i _ l => if k = 1 then [i] else vlL l
def vlL : List Tm → List Int | [] => [] | t :: l => t.vl ++ vlL l
end
theorem vl_eq (t : Tm) : t.vl = if t.kind = 1 then [t.num] else vlL t.args := by cases t; rw [Tm.vl]; rfl
theorem vlL_nil : vlL [] = [] := by rw [vlL]
theorem vlL_append (a b : List Tm) : vlL (a ++ b) = vlL a ++ vlL b := by
  induction a with
  | nil => simp [vlL]
  | cons t l ih => simp only [List.cons_append, vlL, ih, List.append_assoc]
theorem vl_take {l : List Tm} {j : Nat} {t : Tm} (h : l[j]? = some t) : vlL (l.take (j + 1)) = vlL (l.take j) ++ t.vl := by
  rw [take_snoc h, vlL_append]; simp [vlL]
mutual
theorem vl_len : ∀ t : Tm, t.vl.length ≤ t.nodes
  | .mk k i _ l => by rw [Tm.vl, Tm.nodes]; have := vlL_len l; split <;> simp <;> omega
theorem vlL_len : ∀ l : List Tm, (vlL l).length ≤ nodesL l
  | [] => by rw [vlL]; simp
  | t :: l => by rw [vlL, nodesL, List.length_append]; have := vl_len t; have := vlL_len l; omega
end
end Go.Proofs.YtjmmeccfjanpcaaDoor

