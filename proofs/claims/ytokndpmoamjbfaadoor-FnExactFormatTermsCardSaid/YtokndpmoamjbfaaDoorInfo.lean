/-
  What the program's table says of the element types: zero, cells, bytes.
-/
import Derived.Test.YtokndpmoamjbfaaDoorOwn
import Derived.Test.YtokndpmoamjbfaaDoorRows
import Derived.WalkKit
import Derived.ProofKit
namespace Go.Proofs.YtokndpmoamjbfaaDoor
open Go.RowKit

theorem infoString : (Tryd.prog.info? 9).map (fun i => (i.zero, i.size, i.bytes)) = some (some (.string ⟨#[]⟩), 1, 16) := by kernel_rfl
theorem infoByte : (Tryd.prog.info? 5).map (fun i => (i.zero, i.size, i.bytes)) = some (some (.int .u8 0), 1, 1) := by kernel_rfl
end Go.Proofs.YtokndpmoamjbfaaDoor

