/-
  The contracts of the laws' helpers on slices of integers: eqIntS, markIntS, heldIntS.
-/
import Derived.Test.YtokndpmoamjbfaaInfo
import Derived.WalkLawsBesides
import Derived.Deep.QuietTactic
import Derived.BigQuiet
namespace Go.Proofs.Ytokndpmoamjbfaa
open Go.RowKit

/-- The marks of integers. -/
def markI (k n : Nat) : List Value := (List.range n).map fun i => .int .i64 ((k + i : Nat) : Int)
theorem markI_length (k n : Nat) : (markI k n).length = n := by simp [markI]
theorem markI_at (k n j : Nat) (h : j < n) : (markI k n)[j]? = some (.int .i64 ((k + j : Nat) : Int)) := by simp [markI, h]
theorem markI_of {k n : Nat} {ys : List Value} (hl : ys.length = n) (h : ∀ i, i < n → ys[i]? = some (.int .i64 ((k + i : Nat) : Int))) : ys = markI k n := by
  apply List.ext_getElem?
  intro i
  by_cases hi : i < n
  · rw [h i hi, markI_at k n i hi]
  · rw [List.getElem?_eq_none (by omega), List.getElem?_eq_none (by rw [markI_length]; omega)]

end Go.Proofs.Ytokndpmoamjbfaa

