/-
  The contracts of the laws' helpers that compare terms that are alike: eqTerm, eqTermS.
-/
import Derived.Test.YtokndpmoamjbfaaTo
import Derived.WalkLawsBesides
import Derived.Deep.QuietTactic
import Derived.BigQuiet
import Derived.Deep.RegionWith
import Derived.Deep.RegionHeld3
namespace Go.Proofs.Ytokndpmoamjbfaa
open Go.RowKit

def Yes (w : World) (e : Ending) (w' : World) : Prop := e = .returned (.bool true) ∧ Below w.heap.size w w'

end Go.Proofs.Ytokndpmoamjbfaa

