/-
  The contract of spec.Tokens: it answers the tokens of the text, or none.
-/
import Derived.Test.YtnbnepeikdieaaaGreatDoorTokens
namespace Go.Proofs.YtnbnepeikdieaaaGreatDoor
open Go.RowKit

end Go.Proofs.YtnbnepeikdieaaaGreatDoor

