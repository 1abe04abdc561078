/-
  What the program's table says of the element types: zero, cells, bytes.
-/
import Derived.Test.YtokndpmoamjbfaaOwn
import Derived.Test.YtokndpmoamjbfaaRows
import Derived.WalkKit
import Derived.ProofKit
namespace Go.Proofs.Ytokndpmoamjbfaa
open Go.RowKit

theorem infoString : (Try.prog.info? 9).map (fun i => (i.zero, i.size, i.bytes)) = some (some (.string ⟨#[]⟩), 1, 16) := by kernel_rfl
theorem infoInt : (Try.prog.info? 3).map (fun i => (i.zero, i.size, i.bytes)) = some (some (.int .i64 0), 1, 8) := by kernel_rfl
theorem infoByte : (Try.prog.info? 5).map (fun i => (i.zero, i.size, i.bytes)) = some (some (.int .u8 0), 1, 1) := by kernel_rfl
end Go.Proofs.Ytokndpmoamjbfaa

