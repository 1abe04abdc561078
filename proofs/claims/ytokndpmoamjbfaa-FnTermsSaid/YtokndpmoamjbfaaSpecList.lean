/-
  The model's l02List.
-/
import Derived.Test.YtokndpmoamjbfaaListOk
import Derived.Test.YtokndpmoamjbfaaItems
namespace Go.Proofs.Ytokndpmoamjbfaa
open Go.RowKit
set_option linter.unusedVariables false
set_option linter.unusedSimpArgs false

def offB (B : Nat) (k : Nat) : Prop := k < B ∨ B + 1 + 1 ≤ k
end Go.Proofs.Ytokndpmoamjbfaa

