/-
  The contract of the model's count of nodes, l02Count.
-/
import Derived.Test.YtokndpmoamjbfaaEq
namespace Go.Proofs.Ytokndpmoamjbfaa
open Go.RowKit

/-- The number of nodes, or some number above the most if it is above the most. -/
def CountP (t : Tm) (most : Int) (w : World) (e : Ending) (w' : World) : Prop :=
  ∃ c : Nat, e = .returned (.int .i64 c) ∧ 1 ≤ c ∧ c ≤ t.nodes ∧ ((t.nodes : Int) ≤ most → c = t.nodes) ∧ (most < t.nodes → most < c) ∧ Below w.heap.size w w'

end Go.Proofs.Ytokndpmoamjbfaa

