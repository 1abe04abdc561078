/-
  The model's l04Put: all variables replaced at once, what they are replaced by shared.
-/
import Derived.Test.YtjmmeccfjanpcaaDoorSpecGet
import Derived.Test.YtjmmeccfjanpcaaDoorPuts
namespace Go.Proofs.YtjmmeccfjanpcaaDoor
open Go.RowKit
set_option linter.unusedVariables false
set_option linter.unusedSimpArgs false

end Go.Proofs.YtjmmeccfjanpcaaDoor

