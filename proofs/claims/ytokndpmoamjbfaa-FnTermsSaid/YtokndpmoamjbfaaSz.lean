/-
  The contracts of the laws' helpers that measure a term: szTerm, szTermS.
-/
import Derived.Test.YtokndpmoamjbfaaForm
import Derived.Test.YtokndpmoamjbfaaInfo
import Derived.Test.YtokndpmoamjbfaaRows
import Derived.WalkKit
import Derived.ProofKit
import Derived.LoopTactic
import Derived.Lib.Hide
namespace Go.Proofs.Ytokndpmoamjbfaa
open Go.RowKit

def SzP (n : Nat) (left : Int) (w : World) (e : Ending) (w' : World) : Prop :=
  ∃ r : Int, e = .returned (.int .i64 r) ∧ -1 ≤ r ∧ r ≤ left ∧ (0 ≤ r → r = left - n) ∧ Below w.heap.size w w'

end Go.Proofs.Ytokndpmoamjbfaa

