/-
  The model's l02AllOk; lists as terms: plain.
-/
import Derived.Test.YtnbnepeikdieaabGreatPuts
namespace Go.Proofs.YtnbnepeikdieaabGreat
open Go.RowKit
set_option linter.unusedVariables false
set_option linter.unusedSimpArgs false

theorem sz_in {l : List Tm} {k : Nat} {x : Tm} (h : l[k]? = some x) : x.sz ≤ szL l := by
  have := sz_at h
  omega

/-- A list's term. -/
def listT : List Tm → Tm → Tm | [], t => t | x :: l, t => .mk 4 0 ⟨#[]⟩ [x, listT l t]
theorem listT_nil (t : Tm) : listT [] t = t := rfl
theorem listT_cons (x : Tm) (l : List Tm) (t : Tm) : listT (x :: l) t = .mk 4 0 ⟨#[]⟩ [x, listT l t] := rfl
theorem listT_nodes (l : List Tm) (t : Tm) : (listT l t).nodes = l.length + nodesL l + t.nodes := by
  induction l with
  | nil => simp [listT, nodesL]
  | cons x l ih => rw [listT, nodes_two, ih, nodesL, List.length_cons]; omega
theorem listT_good {l : List Tm} {t : Tm} (hl : ∀ x ∈ l, Good x) (ht : Good t) : Good (listT l t) := by
  induction l with
  | nil => exact ht
  | cons x l ih => exact .pair _ _ (hl x (by simp)) (ih fun y hy => hl y (by simp [hy]))
theorem listT_sz (l : List Tm) (t : Tm) : (listT l t).sz ≤ 13 * l.length + szL l + t.sz := by
  induction l with
  | nil => simp [listT, szL]
  | cons x l ih =>
    have e : (⟨#[]⟩ : ByteArray).size = 0 := rfl
    simp only [listT, Tm.sz, szL, List.length_cons, e]
    omega
end Go.Proofs.YtnbnepeikdieaabGreat

