/-
  The contract of spec.Tokens: it answers the tokens of the text, or none.
-/
import Derived.Test.YtlnncdadiepnmaaGreatDoorTokens
namespace Go.Proofs.YtlnncdadiepnmaaGreatDoor
open Go.RowKit

end Go.Proofs.YtlnncdadiepnmaaGreatDoor

