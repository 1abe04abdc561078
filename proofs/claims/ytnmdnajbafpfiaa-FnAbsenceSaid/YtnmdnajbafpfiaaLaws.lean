/-
  The marks of the laws: 'markText'.
  The contracts of the laws' helpers on slices of integers: eqIntS, markIntS, heldIntS.
  Marks written into a tree that a call owns, and looked for again: markTermS, markTerm, heldTermS, heldTerm.
  Marks looked for again: heldTermS, heldTerm; markTerm.
  Helpers of the laws' walks: structs that a region lays and fills.
-/
import Derived.Test.YtnmdnajbafpfiaaBase
import Derived.ProofKit
import Derived.WalkLawsBesides
import Derived.Deep.QuietTactic
import Derived.BigQuiet
import Derived.Deep.RegionWith
import Derived.Deep.RegionHeld3
import Derived.Test.YtnmdnajbafpfiaaFits
import Derived.Test.YtnmdnajbafpfiaaPuts
namespace Go.Proofs.Ytnmdnajbafpfiaa
open Go.RowKit

def markGo : Nat → Nat → ByteArray → ByteArray
  | 0, _, out => out
  | b + 1, k, out => if k = 0 then out else markGo b (k / 10) (⟨#[UInt8.ofNat (48 + k % 10)]⟩ ++ out)

end Go.Proofs.Ytnmdnajbafpfiaa

namespace Go.Proofs.Ytnmdnajbafpfiaa
open Go.RowKit

/-- The marks of integers. -/
def markI (k n : Nat) : List Value := (List.range n).map fun i => .int .i64 ((k + i : Nat) : Int)
theorem markI_length (k n : Nat) : (markI k n).length = n := by simp [markI]
theorem markI_at (k n j : Nat) (h : j < n) : (markI k n)[j]? = some (.int .i64 ((k + j : Nat) : Int)) := by simp [markI, h]
theorem markI_of {k n : Nat} {ys : List Value} (hl : ys.length = n) (h : ∀ i, i < n → ys[i]? = some (.int .i64 ((k + i : Nat) : Int))) : ys = markI k n := by
  apply List.ext_getElem?
  intro i
  by_cases hi : i < n
  · rw [h i hi, markI_at k n i hi]
  · rw [List.getElem?_eq_none (by omega), List.getElem?_eq_none (by rw [markI_length]; omega)]

end Go.Proofs.Ytnmdnajbafpfiaa

namespace Go.Proofs.Ytnmdnajbafpfiaa
open Go.RowKit
set_option linter.unusedVariables false
set_option linter.unusedSimpArgs false

def mtx (x : Int) : ByteArray := ⟨#[109]⟩ ++ markGo x.toNat x.toNat ⟨#[]⟩
mutual
def markT (k : Int) : Tm → Tm | .mk _ _ _ l => .mk k (k + 1) (mtx (k + 1 + 1)) (markL (k + 1 + 1 + 1) l)
def markL (k : Int) : List Tm → List Tm | [] => [] | t :: l => markT k t :: markL (k + 3 * (t.nodes : Int)) l
end
theorem markT_eq (k : Int) (t : Tm) : markT k t = .mk k (k + 1) (mtx (k + 1 + 1)) (markL (k + 1 + 1 + 1) t.args) := by cases t; rw [markT]; rfl
theorem markL_nil (k : Int) : markL k [] = [] := by rw [markL]
theorem markL_cons (k : Int) (t : Tm) (l : List Tm) : markL k (t :: l) = markT k t :: markL (k + 3 * (t.nodes : Int)) l := by rw [markL]
theorem markL_length (k : Int) (l : List Tm) : (markL k l).length = l.length := by
  induction l generalizing k with
  | nil => rw [markL_nil]
  | cons t l ih => rw [markL_cons, List.length_cons, ih, List.length_cons]
theorem markL_append (k : Int) (a b : List Tm) : markL k (a ++ b) = markL k a ++ markL (k + 3 * (nodesL a : Int)) b := by
  induction a generalizing k with
  | nil => rw [markL_nil, nodesL_nil]; simp
  | cons t l ih =>
    rw [List.cons_append, markL_cons, markL_cons, ih, nodesL, List.cons_append]
    congr 3
    push_cast
    omega
theorem nodesL_len (l : List Tm) : l.length ≤ nodesL l := by
  induction l with
  | nil => simp
  | cons t l ih => rw [nodesL, List.length_cons]; have := nodes_pos t; omega
theorem markL_take {k : Int} {l : List Tm} {j : Nat} {x : Tm} (h : l[j]? = some x) : markL k (l.take (j + 1)) = markL k (l.take j) ++ [markT (k + 3 * (nodesL (l.take j) : Int)) x] := by
  rw [take_snoc h, markL_append, markL_cons, markL_nil]
theorem markL_at {k : Int} {l : List Tm} {j : Nat} {x : Tm} (h : l[j]? = some x) : (markL k l)[j]? = some (markT (k + 3 * (nodesL (l.take j) : Int)) x) := by
  have hl : j < l.length := (List.getElem?_eq_some_iff.1 h).1
  have e : markL k l = markL k (l.take (j + 1)) ++ markL (k + 3 * (nodesL (l.take (j + 1)) : Int)) (l.drop (j + 1)) := by rw [← markL_append, List.take_append_drop]
  rw [e, List.getElem?_append_left (by rw [markL_length, List.length_take]; omega), markL_take h, List.getElem?_append_right (by rw [markL_length, List.length_take]; omega)]
  rw [markL_length, List.length_take, show j - min j l.length = 0 from by omega]
  rfl
/-- A list marked as far as j. -/
def mixL (k : Int) (l : List Tm) (j : Nat) : List Tm := markL k (l.take j) ++ l.drop j
theorem mixL_zero (k : Int) (l : List Tm) : mixL k l 0 = l := by simp [mixL, markL_nil]
theorem mixL_end (k : Int) (l : List Tm) : mixL k l l.length = markL k l := by simp [mixL]
theorem mixL_length {k : Int} {l : List Tm} {j : Nat} (h : j ≤ l.length) : (mixL k l j).length = l.length := by
  unfold mixL; rw [List.length_append, markL_length, List.length_take, List.length_drop]; omega
theorem mixL_at {k : Int} {l : List Tm} {j : Nat} {x : Tm} (h : l[j]? = some x) : (mixL k l j)[j]? = some x := by
  have hl : j < l.length := (List.getElem?_eq_some_iff.1 h).1
  unfold mixL
  rw [List.getElem?_append_right (by rw [markL_length, List.length_take]; omega), markL_length, List.length_take, show j - min j l.length = 0 from by omega, List.getElem?_drop]
  exact h
theorem mixL_set {k : Int} {l : List Tm} {j : Nat} {x : Tm} (h : l[j]? = some x) : (mixL k l j).set j (markT (k + 3 * (nodesL (l.take j) : Int)) x) = mixL k l (j + 1) := by
  have hl : j < l.length := (List.getElem?_eq_some_iff.1 h).1
  unfold mixL
  rw [List.set_append_right _ _ (by rw [markL_length, List.length_take]; omega), markL_length, List.length_take, show j - min j l.length = 0 from by omega, markL_take h, List.append_assoc]
  congr 1
  obtain ⟨_, hx⟩ := List.getElem?_eq_some_iff.1 h
  rw [List.drop_eq_getElem_cons hl, List.set_cons_zero]
  rfl

/-- The first two cells of an element written. -/
theorem Own.two {w : World} {e : TypeId} {S : Nat → Prop} {g n cap : Nat} {l : List Tm} (h : Own w e S (.slice (some ⟨g, 0, none⟩) n cap) l) {j : Nat} {x : Tm} (hj : l[j]? = some x) (k1 k2 : Int) :
    Only S w ((w.setCell ⟨g, j * 4, none⟩ (.int .i64 k1)).setCell ⟨g, j * 4 + 1, none⟩ (.int .i64 k2)) ∧
      Own ((w.setCell ⟨g, j * 4, none⟩ (.int .i64 k1)).setCell ⟨g, j * 4 + 1, none⟩ (.int .i64 k2)) e S (.slice (some ⟨g, 0, none⟩) n cap) (l.set j (.mk k1 k2 x.name x.args)) := by
  have hjl : j < l.length := (List.getElem?_eq_some_iff.1 hj).1
  obtain ⟨g0, cap0, V0, C0, hv0, hS0, _, _, _, _, _, _, _, _, k0, _, _, _, _⟩ := h.at hj
  simp only [Value.slice.injEq, Option.some.injEq, Addr.mk.injEq] at hv0
  obtain ⟨⟨rfl, _⟩, _, rfl⟩ := hv0
  obtain ⟨g1, o1⟩ := k0 k1
  obtain ⟨g', cap', V1, C1, hv1, hS1, _, _, _, _, _, _, _, _, _, k1', _, _, _⟩ := o1.at (t := .mk k1 x.num x.name x.args) (j := j) (by rw [List.getElem?_set_self hjl])
  simp only [Value.slice.injEq, Option.some.injEq, Addr.mk.injEq] at hv1
  obtain ⟨⟨rfl, _⟩, _, rfl⟩ := hv1
  obtain ⟨g2, o2⟩ := k1' k2
  rw [List.set_set] at o2
  exact ⟨(Only.of_grown g1 hS0).trans (Only.of_grown g2 hS0), o2⟩
/-- The third cell of an element written; its child. -/
theorem Own.third {w : World} {e : TypeId} {S : Nat → Prop} {g n cap : Nat} {l : List Tm} (h : Own w e S (.slice (some ⟨g, 0, none⟩) n cap) l) {j : Nat} {x : Tm} (hj : l[j]? = some x) (s : ByteArray) :
    Only S w (w.setCell ⟨g, j * 4 + 2, none⟩ (.string s)) ∧ ∃ (a : Option Addr) (c : Nat) (C : Nat → Prop), w.cell? ⟨g, j * 4 + 3, none⟩ = some (.slice a x.args.length c) ∧ (∀ k, C k → S k) ∧
      Own (w.setCell ⟨g, j * 4 + 2, none⟩ (.string s)) e C (.slice a x.args.length c) x.args ∧
      ∀ w' bs, Own w' e C (.slice a x.args.length c) bs → Only C (w.setCell ⟨g, j * 4 + 2, none⟩ (.string s)) w' → Own w' e S (.slice (some ⟨g, 0, none⟩) n cap) (l.set j (.mk x.kind x.num s bs)) := by
  have hjl : j < l.length := (List.getElem?_eq_some_iff.1 hj).1
  obtain ⟨g0, cap0, V0, C0, hv0, hS0, _, _, _, _, _, _, d3, _, _, _, k2, _, _⟩ := h.at hj
  simp only [Value.slice.injEq, Option.some.injEq, Addr.mk.injEq] at hv0
  obtain ⟨⟨rfl, _⟩, _, rfl⟩ := hv0
  obtain ⟨g1, o1⟩ := k2 s
  obtain ⟨g', cap', V1, C1, hv1, hS1, hC1, _, _, _, _, _, e3, hch, _, _, _, hx, _⟩ := o1.at (t := .mk x.kind x.num s x.args) (j := j) (by rw [List.getElem?_set_self hjl])
  simp only [Value.slice.injEq, Option.some.injEq, Addr.mk.injEq] at hv1
  obtain ⟨⟨rfl, _⟩, _, rfl⟩ := hv1
  have hV : V0 = V1 := by
    have h3 : (w.setCell ⟨g, j * 4 + 2, none⟩ (.string s)).cell? ⟨g, j * 4 + 3, none⟩ = w.cell? ⟨g, j * 4 + 3, none⟩ := World.cell?_setCell_other _ _ _ _ (by simp)
    have h4 := (h3.symm.trans e3).symm.trans d3
    exact (Option.some.inj h4).symm
  subst hV
  have hch' : Own (w.setCell ⟨g, j * 4 + 2, none⟩ (.string s)) e C1 V0 x.args := hch
  obtain ⟨a, c, hVa⟩ := hch'.argsAt.slice
  subst hVa
  refine ⟨Only.of_grown g1 hS0, a, c, C1, d3, fun k hk => (hC1 k hk).1, hch', fun w' bs h1 h2 => ?_⟩
  have := hx w' bs h1 h2
  rw [List.set_set] at this
  exact this

end Go.Proofs.Ytnmdnajbafpfiaa

namespace Go.Proofs.Ytnmdnajbafpfiaa
open Go.RowKit
set_option linter.unusedVariables false
set_option linter.unusedSimpArgs false

end Go.Proofs.Ytnmdnajbafpfiaa

namespace Go.Proofs.Ytnmdnajbafpfiaa
open Go.RowKit
set_option linter.unusedVariables false

theorem at_box_in {w : World} {b : Nat} {xs : Array Value} {e : TypeId} (h : w.heap[b]? = some (.cells xs e)) : At w b (b + 1) (BoxP b xs e) := ⟨h, stays_box b xs e, (Array.getElem?_eq_some_iff.1 h).1⟩
theorem nl_bd {t : Tm} (h : t.sz ≤ 1048576) : nodesL t.args ≤ 1048576 := by have h1 := nodesL_sz t.args; have h2 := sz_eq t; omega
theorem box_after {W0 W w' : World} {o : Obj} (h0 : Below W0.heap.size W0 W) (hb : Below (W.alloc o).heap.size (W.alloc o) w') : w'.heap[W.heap.size]? = some o ∧ W0.heap.size ≤ W.heap.size := ⟨(hb.block _ (by simp)).trans (heap_new W o), h0.size⟩
theorem box_after_drew {W0 W w' : World} {o : Obj} (h0 : Below W0.heap.size W0 W) (hb : Below (W.alloc o).drew.heap.size (W.alloc o).drew w') : w'.heap[W.heap.size]? = some o ∧ W0.heap.size ≤ W.heap.size :=
  ⟨(hb.block W.heap.size (show W.heap.size < (W.alloc o).heap.size by simp)).trans (heap_new W o), h0.size⟩
theorem box_keep {W0 w w' : World} {B : Nat} {o : Obj} (h : w.heap[B]? = some o ∧ W0.heap.size ≤ B) (hb : Below w.heap.size w w') : w'.heap[B]? = some o ∧ W0.heap.size ≤ B :=
  ⟨(hb.block B (Array.getElem?_eq_some_iff.1 h.1).1).trans h.1, h.2⟩
theorem alloc_lt {W w' : World} {o : Obj} (hb : Below (W.alloc o).heap.size (W.alloc o) w') : W.heap.size < (W.alloc o).heap.size := by simp
theorem block_lt {W0 w w' : World} {B : Nat} {o : Obj} (h : w.heap[B]? = some o ∧ W0.heap.size ≤ B) (hb : Below w.heap.size w w') : B < w.heap.size := (Array.getElem?_eq_some_iff.1 h.1).1

/-- A region has laid a struct of four cells and filled it with an answer. -/
def Struct2 (W0 : World) (r : Tm) (c : Bool) (p b : Value) (wx : World) : Prop :=
  ∃ (B : Nat) (a : Option Addr) (k : Nat), p = .pointer (some ⟨B, 0, none⟩) ∧ b = .bool c ∧ wx.heap[B]? = some (.cells #[.int .i64 r.kind, .int .i64 r.num, .string r.name, .slice a r.args.length k] 28) ∧ W0.heap.size ≤ B ∧
    ArgsAt wx (.slice a r.args.length k) r.args ∧ Below W0.heap.size W0 wx
theorem struct2_late {W0 wS : World} {r : Tm} {c : Bool} {C : Nat → Prop} {a : Option Addr} {k : Nat} (hu : ArgsS wS C (.slice a r.args.length k) r.args) (hb : Below W0.heap.size W0 wS) :
    Struct2 W0 r c (.pointer (some ⟨wS.heap.size, 0, none⟩)) (.bool c) (wS.alloc (.cells #[.int .i64 r.kind, .int .i64 r.num, .string r.name, .slice a r.args.length k] 28)) :=
  ⟨_, a, k, rfl, rfl, heap_new _ _, hb.size, (hu.kept ((Below.refl _ _).alloc (Nat.le_refl _) _)).at, belowAlloc hb _⟩
theorem struct2_early {W0 wS : World} {r : Tm} {c : Bool} {lo hi B : Nat} {a : Option Addr} {k : Nat} {x0 x1 x2 x3 : Value} (hx : wS.heap[B]? = some (Obj.cells #[x0, x1, x2, x3] 28) ∧ W0.heap.size ≤ B) (hl : B < lo)
    (hu : ArgsS wS (iv lo hi) (.slice a r.args.length k) r.args) (hb : Below W0.heap.size W0 wS) :
    Struct2 W0 r c (.pointer (some ⟨B, 0, none⟩)) (.bool c) ((((wS.setCell ⟨B, 0, none⟩ (.int .i64 r.kind)).setCell ⟨B, 1, none⟩ (.int .i64 r.num)).setCell ⟨B, 2, none⟩ (.string r.name)).setCell ⟨B, 3, none⟩ (.slice a r.args.length k)) := by
  have h0 := heap_setCell_same wS B 0 _ 28 (.int .i64 r.kind) hx.1
  have h1 := heap_setCell_same _ B 1 _ 28 (.int .i64 r.num) h0
  have h2 := heap_setCell_same _ B 2 _ 28 (.string r.name) h1
  have h3 := heap_setCell_same _ B 3 _ 28 (.slice a r.args.length k) h2
  have one : ∀ (W : World) (j : Nat) (u : Value), Only (fun k => k = B) W (W.setCell ⟨B, j, none⟩ u) := fun W j u => ⟨rfl, rfl, rfl, by simp, fun k _ hk => Below.heap_setCell _ _ _ _ hk⟩
  have ho := (((one wS 0 (.int .i64 r.kind)).trans (one _ 1 (.int .i64 r.num))).trans (one _ 2 (.string r.name))).trans (one _ 3 (.slice a r.args.length k))
  exact ⟨B, a, k, rfl, rfl, h3, hx.2, (hu.frame ho.size fun j hj hjs => ho.block j hjs (fun e => by unfold iv at hj; omega)).at, hb.trans (ho.below (fun j hj => by have := hx.2; omega) hb.size)⟩
end Go.Proofs.Ytnmdnajbafpfiaa

