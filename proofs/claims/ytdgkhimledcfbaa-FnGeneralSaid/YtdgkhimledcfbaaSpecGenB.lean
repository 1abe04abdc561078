/-
  The model's l06Gen of pairs. (Written by wip/tools/gen_specgen.py.)
-/
import Derived.Test.YtdgkhimledcfbaaSpecGen
namespace Go.Proofs.Ytdgkhimledcfbaa
open Go.RowKit
set_option linter.unusedVariables false
set_option linter.unusedSimpArgs false

end Go.Proofs.Ytdgkhimledcfbaa

