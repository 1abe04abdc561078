/-
  The model's l02Put: a variable replaced, what it is replaced by shared.
-/
import Derived.Test.YtokndpmoamjbfaaShare
namespace Go.Proofs.Ytokndpmoamjbfaa
open Go.RowKit
set_option linter.unusedVariables false
set_option linter.unusedSimpArgs false

end Go.Proofs.Ytokndpmoamjbfaa

