/-
  Marks looked for again: heldTermS, heldTerm; markTerm.
-/
import Derived.Test.YtokndpmoamjbfaaMarks
namespace Go.Proofs.Ytokndpmoamjbfaa
open Go.RowKit
set_option linter.unusedVariables false
set_option linter.unusedSimpArgs false

end Go.Proofs.Ytokndpmoamjbfaa

