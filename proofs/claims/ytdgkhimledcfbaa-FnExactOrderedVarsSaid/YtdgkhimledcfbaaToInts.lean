/-
  The contract of the laws' helper toIntS.
-/
import Derived.Test.YtdgkhimledcfbaaBase
import Derived.WalkLawsBesides
import Derived.Deep.QuietTactic
import Derived.BigQuiet
namespace Go.Proofs.Ytdgkhimledcfbaa
open Go.RowKit

end Go.Proofs.Ytdgkhimledcfbaa

