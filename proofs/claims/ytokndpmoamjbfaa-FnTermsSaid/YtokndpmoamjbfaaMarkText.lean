/-
  The marks of the laws: 'markText'.
-/
import Derived.Test.YtokndpmoamjbfaaInfo
import Derived.ProofKit
import Derived.WalkLawsBesides
import Derived.Deep.QuietTactic
import Derived.BigQuiet
import Derived.Deep.RegionWith
import Derived.Deep.RegionHeld3
namespace Go.Proofs.Ytokndpmoamjbfaa
open Go.RowKit

def markGo : Nat → Nat → ByteArray → ByteArray
  | 0, _, out => out
  | b + 1, k, out => if k = 0 then out else markGo b (k / 10) (⟨#[UInt8.ofNat (48 + k % 10)]⟩ ++ out)

end Go.Proofs.Ytokndpmoamjbfaa

