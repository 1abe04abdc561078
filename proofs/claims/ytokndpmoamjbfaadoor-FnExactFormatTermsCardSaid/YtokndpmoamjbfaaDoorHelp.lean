/-
  The laws' helpers over one term: szTerm, toTerm, eqTerm; the boxes in which terms lie.
-/
import Derived.Test.YtokndpmoamjbfaaDoorShapes
namespace Go.Proofs.YtokndpmoamjbfaaDoor
open Go.RowKit

theorem szTerm_any (t : Tm) (V : Value) (left : Int) (w : World) (hA : ArgsAt w V t.args) (hf : t.fine) (h0 : 0 ≤ left) (h1 : left ≤ 1048576) :
    Calls Tryd.prog 15 #[.agg #[.int .i64 t.kind, .int .i64 t.num, .string t.name, V], .int .i64 left] w (SzP t.sz left w) := by
  rw [fine_eq] at hf
  rw [sz_eq]
  exact szTerm_of t.kind t.num t.name V (szL t.args) left w hf.1 h0 h1 (Lib.hid fun W L hW l0 l1 => szTerms_any (nodesL t.args) t.args V L W (Nat.le_refl _) (hA.kept hW) hf.2.2 hf.2.1 l0 l1)
theorem szTermL_any (l : List Tm) (V : Value) (left : Int) (w : World) (hA : ArgsAt w V l) (hf : fineL l) (hl : l.length ≤ maxLen) (h0 : 0 ≤ left) (h1 : left ≤ 1048576) :
    Calls Tryd.prog 22 #[V, .int .i64 left] w (SzP (szL l) left w) := szTerms_any (nodesL l) l V left w (Nat.le_refl _) hA hf hl h0 h1
theorem toTermL_any (l : List Tm) (V : Value) (w : World) (hA : ArgsAt w V l) (hZ : szL l ≤ 1048576) :
    Calls Tryd.prog 24 #[V] w fun e w' => ∃ u, e = .returned u ∧ NewTree l w u w' :=
  toTerms_any (nodesL l + 1) l V w (Nat.lt_succ_self _) hA (by have := length_szL l; omega) hZ
theorem toTerm_any (t : Tm) (V : Value) (w : World) (hA : ArgsAt w V t.args) (hZ : t.sz ≤ 1048576) :
    Calls Tryd.prog 17 #[.agg #[.int .i64 t.kind, .int .i64 t.num, .string t.name, V]] w fun e w' => ∃ u, e = .returned (.agg #[.int .i64 t.kind, .int .i64 t.num, .string t.name, u]) ∧ NewTree t.args w u w' :=
  toTerm_of t.kind t.num t.name V t.args w (Lib.hid fun W hW => toTermL_any t.args V W (hA.kept hW) (by have := sz_eq t; omega))
theorem eqTermL_any (l : List Tm) (V V' : Value) (w : World) (hA : ArgsAt w V l) (hA' : ArgsAt w V' l) (hZ : szL l ≤ 1048576) :
    Calls Tryd.prog 25 #[V, V'] w (Yes w) := eqTerms_any (nodesL l + 1) l V V' w (Nat.lt_succ_self _) hA hA' hZ
theorem eqTerm_any (t : Tm) (V V' : Value) (w : World) (hA : ArgsAt w V t.args) (hA' : ArgsAt w V' t.args) (hZ : t.sz ≤ 1048576) :
    Calls Tryd.prog 18 #[.agg #[.int .i64 t.kind, .int .i64 t.num, .string t.name, V], .agg #[.int .i64 t.kind, .int .i64 t.num, .string t.name, V']] w (Yes w) :=
  eqTerm_of t.kind t.num t.name V V' w (Lib.hid fun W hW => eqTermL_any t.args V V' W (hA.kept hW) (hA'.kept hW) (by have := sz_eq t; omega))

/-- What a box of four cells, laid in a world, holds in every world behind it. -/
def BoxIn (w : World) (x0 x1 x2 x3 : Value) (e : TypeId) : Prop := ∀ W, Below (w.heap.size + 1) (w.alloc (.cells #[x0, x1, x2, x3] e)) W →
  Below w.heap.size w W ∧ W.cell? ⟨w.heap.size, 0, none⟩ = some x0 ∧ W.cell? ⟨w.heap.size, 1, none⟩ = some x1 ∧ W.cell? ⟨w.heap.size, 2, none⟩ = some x2 ∧ W.cell? ⟨w.heap.size, 3, none⟩ = some x3 ∧ ∀ j, W.frozen? ⟨w.heap.size, j, none⟩ = false
theorem boxIn (w : World) (x0 x1 x2 x3 : Value) (e : TypeId) : BoxIn w x0 x1 x2 x3 e := fun W hW => by
  have h := (hW.block w.heap.size (by omega)).trans (heap_new w _)
  obtain ⟨c0, c1, c2, c3, f⟩ := box_cells h
  exact ⟨((Below.refl _ _).alloc (Nat.le_refl _) _).trans (hW.mono (by omega)), c0, c1, c2, c3, f⟩
end Go.Proofs.YtokndpmoamjbfaaDoor

