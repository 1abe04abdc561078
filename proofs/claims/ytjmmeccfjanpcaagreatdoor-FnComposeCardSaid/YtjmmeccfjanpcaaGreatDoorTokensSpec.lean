/-
  The contract of spec.Tokens: it answers the tokens of the text, or none.
-/
import Derived.Test.YtjmmeccfjanpcaaGreatDoorTokens
namespace Go.Proofs.YtjmmeccfjanpcaaGreatDoor
open Go.RowKit

end Go.Proofs.YtjmmeccfjanpcaaGreatDoor

