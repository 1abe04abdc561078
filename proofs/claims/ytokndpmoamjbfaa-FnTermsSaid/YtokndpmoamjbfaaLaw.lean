/-
  Helpers of the laws' walks: structs that a region lays and fills.
-/
import Derived.Test.YtokndpmoamjbfaaReplace
import Derived.Test.YtokndpmoamjbfaaHeld
namespace Go.Proofs.Ytokndpmoamjbfaa
open Go.RowKit
set_option linter.unusedVariables false

theorem at_box_in {w : World} {b : Nat} {xs : Array Value} {e : TypeId} (h : w.heap[b]? = some (.cells xs e)) : At w b (b + 1) (BoxP b xs e) := ⟨h, stays_box b xs e, (Array.getElem?_eq_some_iff.1 h).1⟩
theorem nl_bd {t : Tm} (h : t.sz ≤ 1048576) : nodesL t.args ≤ 1048576 := by have h1 := nodesL_sz t.args; have h2 := sz_eq t; omega
theorem box_after {W0 W w' : World} {o : Obj} (h0 : Below W0.heap.size W0 W) (hb : Below (W.alloc o).heap.size (W.alloc o) w') : w'.heap[W.heap.size]? = some o ∧ W0.heap.size ≤ W.heap.size := ⟨(hb.block _ (by simp)).trans (heap_new W o), h0.size⟩
theorem box_after_drew {W0 W w' : World} {o : Obj} (h0 : Below W0.heap.size W0 W) (hb : Below (W.alloc o).drew.heap.size (W.alloc o).drew w') : w'.heap[W.heap.size]? = some o ∧ W0.heap.size ≤ W.heap.size :=
  ⟨(hb.block W.heap.size (show W.heap.size < (W.alloc o).heap.size by simp)).trans (heap_new W o), h0.size⟩
theorem box_keep {W0 w w' : World} {B : Nat} {o : Obj} (h : w.heap[B]? = some o ∧ W0.heap.size ≤ B) (hb : Below w.heap.size w w') : w'.heap[B]? = some o ∧ W0.heap.size ≤ B :=
  ⟨(hb.block B (Array.getElem?_eq_some_iff.1 h.1).1).trans h.1, h.2⟩
theorem alloc_lt {W w' : World} {o : Obj} (hb : Below (W.alloc o).heap.size (W.alloc o) w') : W.heap.size < (W.alloc o).heap.size := by simp
theorem block_lt {W0 w w' : World} {B : Nat} {o : Obj} (h : w.heap[B]? = some o ∧ W0.heap.size ≤ B) (hb : Below w.heap.size w w') : B < w.heap.size := (Array.getElem?_eq_some_iff.1 h.1).1

/-- A region has laid a struct of four cells and filled it with an answer. -/
def Struct2 (W0 : World) (r : Tm) (c : Bool) (p b : Value) (wx : World) : Prop :=
  ∃ (B : Nat) (a : Option Addr) (k : Nat), p = .pointer (some ⟨B, 0, none⟩) ∧ b = .bool c ∧ wx.heap[B]? = some (.cells #[.int .i64 r.kind, .int .i64 r.num, .string r.name, .slice a r.args.length k] 25) ∧ W0.heap.size ≤ B ∧
    ArgsAt wx (.slice a r.args.length k) r.args ∧ Below W0.heap.size W0 wx
theorem struct2_late {W0 wS : World} {r : Tm} {c : Bool} {C : Nat → Prop} {a : Option Addr} {k : Nat} (hu : ArgsS wS C (.slice a r.args.length k) r.args) (hb : Below W0.heap.size W0 wS) :
    Struct2 W0 r c (.pointer (some ⟨wS.heap.size, 0, none⟩)) (.bool c) (wS.alloc (.cells #[.int .i64 r.kind, .int .i64 r.num, .string r.name, .slice a r.args.length k] 25)) :=
  ⟨_, a, k, rfl, rfl, heap_new _ _, hb.size, (hu.kept ((Below.refl _ _).alloc (Nat.le_refl _) _)).at, belowAlloc hb _⟩
theorem struct2_early {W0 wS : World} {r : Tm} {c : Bool} {lo hi B : Nat} {a : Option Addr} {k : Nat} {x0 x1 x2 x3 : Value} (hx : wS.heap[B]? = some (Obj.cells #[x0, x1, x2, x3] 25) ∧ W0.heap.size ≤ B) (hl : B < lo)
    (hu : ArgsS wS (iv lo hi) (.slice a r.args.length k) r.args) (hb : Below W0.heap.size W0 wS) :
    Struct2 W0 r c (.pointer (some ⟨B, 0, none⟩)) (.bool c) ((((wS.setCell ⟨B, 0, none⟩ (.int .i64 r.kind)).setCell ⟨B, 1, none⟩ (.int .i64 r.num)).setCell ⟨B, 2, none⟩ (.string r.name)).setCell ⟨B, 3, none⟩ (.slice a r.args.length k)) := by
  have h0 := heap_setCell_same wS B 0 _ 25 (.int .i64 r.kind) hx.1
  have h1 := heap_setCell_same _ B 1 _ 25 (.int .i64 r.num) h0
  have h2 := heap_setCell_same _ B 2 _ 25 (.string r.name) h1
  have h3 := heap_setCell_same _ B 3 _ 25 (.slice a r.args.length k) h2
  have one : ∀ (W : World) (j : Nat) (u : Value), Only (fun k => k = B) W (W.setCell ⟨B, j, none⟩ u) := fun W j u => ⟨rfl, rfl, rfl, by simp, fun k _ hk => Below.heap_setCell _ _ _ _ hk⟩
  have ho := (((one wS 0 (.int .i64 r.kind)).trans (one _ 1 (.int .i64 r.num))).trans (one _ 2 (.string r.name))).trans (one _ 3 (.slice a r.args.length k))
  exact ⟨B, a, k, rfl, rfl, h3, hx.2, (hu.frame ho.size fun j hj hjs => ho.block j hjs (fun e => by unfold iv at hj; omega)).at, hb.trans (ho.below (fun j hj => by have := hx.2; omega) hb.size)⟩
end Go.Proofs.Ytokndpmoamjbfaa

