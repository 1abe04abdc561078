/-
  The laws' helpers over one term: szTerm, toTerm, eqTerm; the boxes in which terms lie.
-/
import Derived.Test.YtokndpmoamjbfaaShapes
namespace Go.Proofs.Ytokndpmoamjbfaa
open Go.RowKit

/-- What a box of four cells, laid in a world, holds in every world behind it. -/
def BoxIn (w : World) (x0 x1 x2 x3 : Value) (e : TypeId) : Prop := ∀ W, Below (w.heap.size + 1) (w.alloc (.cells #[x0, x1, x2, x3] e)) W →
  Below w.heap.size w W ∧ W.cell? ⟨w.heap.size, 0, none⟩ = some x0 ∧ W.cell? ⟨w.heap.size, 1, none⟩ = some x1 ∧ W.cell? ⟨w.heap.size, 2, none⟩ = some x2 ∧ W.cell? ⟨w.heap.size, 3, none⟩ = some x3 ∧ ∀ j, W.frozen? ⟨w.heap.size, j, none⟩ = false
theorem boxIn (w : World) (x0 x1 x2 x3 : Value) (e : TypeId) : BoxIn w x0 x1 x2 x3 e := fun W hW => by
  have h := (hW.block w.heap.size (by omega)).trans (heap_new w _)
  obtain ⟨c0, c1, c2, c3, f⟩ := box_cells h
  exact ⟨((Below.refl _ _).alloc (Nat.le_refl _) _).trans (hW.mono (by omega)), c0, c1, c2, c3, f⟩
end Go.Proofs.Ytokndpmoamjbfaa

