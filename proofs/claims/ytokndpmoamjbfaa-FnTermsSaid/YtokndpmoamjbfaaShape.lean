/-
  The contract of the model's test of a term's form, l02Shape.
-/
import Derived.Test.YtokndpmoamjbfaaCount
import Derived.Test.YtokndpmoamjbfaaFit
namespace Go.Proofs.Ytokndpmoamjbfaa
open Go.RowKit

def ShapeP (t : Tm) (w : World) (e : Ending) (w' : World) : Prop := ∃ b, e = .returned (.bool b) ∧ (b = true ↔ Good t) ∧ Below w.heap.size w w'

end Go.Proofs.Ytokndpmoamjbfaa

