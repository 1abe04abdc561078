/-
  What the rows' listed tables give: the powers of ten that strconv reads; and a world that holds the listed tables.
-/
import Derived.Test.YtnbnepeikdieaaaGreatDoorBase
import Derived.Test.YtnbnepeikdieaaaGreatDoorShelf
import Derived.Test.YtnbnepeikdieaaaGreatDoorRows
import Derived.ProofKit
import Derived.Lib.LaidTab
import Derived.LaidSub
import Derived.Lib.AppendIntMem
namespace Go.Proofs.YtnbnepeikdieaaaGreatDoor
open Go.RowKit

/-- The table of the powers of ten holds what it held at the start. -/
def Tab (w : World) : Prop := Lib.TabIs Tryz.prog w "internal/strconv.uint64pow10" .u64 Lib.pow10Tab
theorem gTab : Tryz.prog.globalNamed "internal/strconv.uint64pow10" = some 2 := by kernel_rfl
theorem Tab.kept {w w' : World} (h : Tab w) (hb : Below w.heap.size w w') : Tab w' := by
  unfold Tab Lib.TabIs at h ⊢
  refine var?_below hb gTab ?_ h
  unfold World.var? at h
  rw [gTab] at h
  simp only [Option.bind_some] at h
  split at h
  · rename_i hg
    exact (Array.getElem?_eq_some_iff.1 hg).1
  · cases h
theorem gTabType : (Tryz.prog.globals[2]?).map (·.type) = some 152 := by kernel_rfl
theorem cellsTab : Tryz.prog.cellsOf 152 = 20 := by kernel_rfl
theorem cellsU64 : Tryz.prog.cellsOf 106 = 1 := by kernel_rfl
theorem Tab_of (l : List (String × DataW Unit)) (hl : l.filter (fun x => x.1 == "internal/strconv.uint64pow10") = [("internal/strconv.uint64pow10", Lib.tabData .u64 Lib.pow10Tab)]) {W : World} (h : laidMetH Tryz.prog l W) : Tab W := by
  have h1 := laidMetH.filter (fun x => x.1 == "internal/strconv.uint64pow10") h
  rw [hl] at h1
  exact Lib.tabIs_of_head (rest := []) gTab gTabType Tryz.underlying152 Tryz.underlying106 cellsU64 cellsTab h1

/-- The numbers of a datum. -/
def nums : DataW Unit → List Value
  | .agg l => l.flatMap fun
    | .lit (.int k n) => [.int k n]
    | .agg l => l.flatMap fun
      | .lit (.int k n) => [.int k n]
      | _ => []
    | _ => []
  | _ => []
/-- A block of cells with other cells in it. -/
def relay (cs : List Value) : Obj → Obj
  | .cells _ t frozen => .cells cs.toArray t frozen
  | o => o
/-- A world that holds the three plain tables. -/
noncomputable def laidWorld (os : Os) : World :=
  { World.holding Tryz.prog os ⟨#[], #[], []⟩ with heap := (((World.holding Tryz.prog os ⟨#[], #[], []⟩).heap.modify 2 (relay (nums Rows.laid_internal_strconv_uint64pow10))).modify 3 (relay (nums Rows.laid_math_bits_deBruijn32tab))).modify 4 (relay (nums Rows.laid_math_bits_deBruijn64tab)) }
end Go.Proofs.YtnbnepeikdieaaaGreatDoor

