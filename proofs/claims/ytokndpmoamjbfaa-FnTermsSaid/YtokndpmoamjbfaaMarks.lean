/-
  Marks written into a tree that a call owns, and looked for again: markTermS, markTerm, heldTermS, heldTerm.
-/
import Derived.Test.YtokndpmoamjbfaaAt
import Derived.Test.YtokndpmoamjbfaaMarkText
import Derived.Test.YtokndpmoamjbfaaIntRows
namespace Go.Proofs.Ytokndpmoamjbfaa
open Go.RowKit
set_option linter.unusedVariables false
set_option linter.unusedSimpArgs false

def mtx (x : Int) : ByteArray := ⟨#[109]⟩ ++ markGo x.toNat x.toNat ⟨#[]⟩
mutual
def markT (k : Int) : Tm → Tm | .mk _ _ _ l => .mk k (k + 1) (mtx (k + 1 + 1)) (markL (k + 1 + 1 + 1) l)
def markL (k : Int) : List Tm → List Tm | [] => [] | t :: l => markT k t :: markL (k + 3 * (t.nodes : Int)) l
end
theorem markT_eq (k : Int) (t : Tm) : markT k t = .mk k (k + 1) (mtx (k + 1 + 1)) (markL (k + 1 + 1 + 1) t.args) := by cases t; rw [markT]; rfl
theorem markL_nil (k : Int) : markL k [] = [] := by rw [markL]
theorem markL_cons (k : Int) (t : Tm) (l : List Tm) : markL k (t :: l) = markT k t :: markL (k + 3 * (t.nodes : Int)) l := by rw [markL]
theorem markL_length (k : Int) (l : List Tm) : (markL k l).length = l.length := by
  induction l generalizing k with
  | nil => rw [markL_nil]
  | cons t l ih => rw [markL_cons, List.length_cons, ih, List.length_cons]
theorem markL_append (k : Int) (a b : List Tm) : markL k (a ++ b) = markL k a ++ markL (k + 3 * (nodesL a : Int)) b := by
  induction a generalizing k with
  | nil => rw [markL_nil, nodesL_nil]; simp
  | cons t l ih =>
    rw [List.cons_append, markL_cons, markL_cons, ih, nodesL, List.cons_append]
    congr 3
    push_cast
    omega
theorem nodesL_len (l : List Tm) : l.length ≤ nodesL l := by
  induction l with
  | nil => simp
  | cons t l ih => rw [nodesL, List.length_cons]; have := nodes_pos t; omega
theorem markL_take {k : Int} {l : List Tm} {j : Nat} {x : Tm} (h : l[j]? = some x) : markL k (l.take (j + 1)) = markL k (l.take j) ++ [markT (k + 3 * (nodesL (l.take j) : Int)) x] := by
  rw [take_snoc h, markL_append, markL_cons, markL_nil]
theorem markL_at {k : Int} {l : List Tm} {j : Nat} {x : Tm} (h : l[j]? = some x) : (markL k l)[j]? = some (markT (k + 3 * (nodesL (l.take j) : Int)) x) := by
  have hl : j < l.length := (List.getElem?_eq_some_iff.1 h).1
  have e : markL k l = markL k (l.take (j + 1)) ++ markL (k + 3 * (nodesL (l.take (j + 1)) : Int)) (l.drop (j + 1)) := by rw [← markL_append, List.take_append_drop]
  rw [e, List.getElem?_append_left (by rw [markL_length, List.length_take]; omega), markL_take h, List.getElem?_append_right (by rw [markL_length, List.length_take]; omega)]
  rw [markL_length, List.length_take, show j - min j l.length = 0 from by omega]
  rfl
/-- A list marked as far as j. -/
def mixL (k : Int) (l : List Tm) (j : Nat) : List Tm := markL k (l.take j) ++ l.drop j
theorem mixL_zero (k : Int) (l : List Tm) : mixL k l 0 = l := by simp [mixL, markL_nil]
theorem mixL_end (k : Int) (l : List Tm) : mixL k l l.length = markL k l := by simp [mixL]
theorem mixL_length {k : Int} {l : List Tm} {j : Nat} (h : j ≤ l.length) : (mixL k l j).length = l.length := by
  unfold mixL; rw [List.length_append, markL_length, List.length_take, List.length_drop]; omega
theorem mixL_at {k : Int} {l : List Tm} {j : Nat} {x : Tm} (h : l[j]? = some x) : (mixL k l j)[j]? = some x := by
  have hl : j < l.length := (List.getElem?_eq_some_iff.1 h).1
  unfold mixL
  rw [List.getElem?_append_right (by rw [markL_length, List.length_take]; omega), markL_length, List.length_take, show j - min j l.length = 0 from by omega, List.getElem?_drop]
  exact h
theorem mixL_set {k : Int} {l : List Tm} {j : Nat} {x : Tm} (h : l[j]? = some x) : (mixL k l j).set j (markT (k + 3 * (nodesL (l.take j) : Int)) x) = mixL k l (j + 1) := by
  have hl : j < l.length := (List.getElem?_eq_some_iff.1 h).1
  unfold mixL
  rw [List.set_append_right _ _ (by rw [markL_length, List.length_take]; omega), markL_length, List.length_take, show j - min j l.length = 0 from by omega, markL_take h, List.append_assoc]
  congr 1
  obtain ⟨_, hx⟩ := List.getElem?_eq_some_iff.1 h
  rw [List.drop_eq_getElem_cons hl, List.set_cons_zero]
  rfl

/-- The first two cells of an element written. -/
theorem Own.two {w : World} {e : TypeId} {S : Nat → Prop} {g n cap : Nat} {l : List Tm} (h : Own w e S (.slice (some ⟨g, 0, none⟩) n cap) l) {j : Nat} {x : Tm} (hj : l[j]? = some x) (k1 k2 : Int) :
    Only S w ((w.setCell ⟨g, j * 4, none⟩ (.int .i64 k1)).setCell ⟨g, j * 4 + 1, none⟩ (.int .i64 k2)) ∧
      Own ((w.setCell ⟨g, j * 4, none⟩ (.int .i64 k1)).setCell ⟨g, j * 4 + 1, none⟩ (.int .i64 k2)) e S (.slice (some ⟨g, 0, none⟩) n cap) (l.set j (.mk k1 k2 x.name x.args)) := by
  have hjl : j < l.length := (List.getElem?_eq_some_iff.1 hj).1
  obtain ⟨g0, cap0, V0, C0, hv0, hS0, _, _, _, _, _, _, _, _, k0, _, _, _, _⟩ := h.at hj
  simp only [Value.slice.injEq, Option.some.injEq, Addr.mk.injEq] at hv0
  obtain ⟨⟨rfl, _⟩, _, rfl⟩ := hv0
  obtain ⟨g1, o1⟩ := k0 k1
  obtain ⟨g', cap', V1, C1, hv1, hS1, _, _, _, _, _, _, _, _, _, k1', _, _, _⟩ := o1.at (t := .mk k1 x.num x.name x.args) (j := j) (by rw [List.getElem?_set_self hjl])
  simp only [Value.slice.injEq, Option.some.injEq, Addr.mk.injEq] at hv1
  obtain ⟨⟨rfl, _⟩, _, rfl⟩ := hv1
  obtain ⟨g2, o2⟩ := k1' k2
  rw [List.set_set] at o2
  exact ⟨(Only.of_grown g1 hS0).trans (Only.of_grown g2 hS0), o2⟩
/-- The third cell of an element written; its child. -/
theorem Own.third {w : World} {e : TypeId} {S : Nat → Prop} {g n cap : Nat} {l : List Tm} (h : Own w e S (.slice (some ⟨g, 0, none⟩) n cap) l) {j : Nat} {x : Tm} (hj : l[j]? = some x) (s : ByteArray) :
    Only S w (w.setCell ⟨g, j * 4 + 2, none⟩ (.string s)) ∧ ∃ (a : Option Addr) (c : Nat) (C : Nat → Prop), w.cell? ⟨g, j * 4 + 3, none⟩ = some (.slice a x.args.length c) ∧ (∀ k, C k → S k) ∧
      Own (w.setCell ⟨g, j * 4 + 2, none⟩ (.string s)) e C (.slice a x.args.length c) x.args ∧
      ∀ w' bs, Own w' e C (.slice a x.args.length c) bs → Only C (w.setCell ⟨g, j * 4 + 2, none⟩ (.string s)) w' → Own w' e S (.slice (some ⟨g, 0, none⟩) n cap) (l.set j (.mk x.kind x.num s bs)) := by
  have hjl : j < l.length := (List.getElem?_eq_some_iff.1 hj).1
  obtain ⟨g0, cap0, V0, C0, hv0, hS0, _, _, _, _, _, _, d3, _, _, _, k2, _, _⟩ := h.at hj
  simp only [Value.slice.injEq, Option.some.injEq, Addr.mk.injEq] at hv0
  obtain ⟨⟨rfl, _⟩, _, rfl⟩ := hv0
  obtain ⟨g1, o1⟩ := k2 s
  obtain ⟨g', cap', V1, C1, hv1, hS1, hC1, _, _, _, _, _, e3, hch, _, _, _, hx, _⟩ := o1.at (t := .mk x.kind x.num s x.args) (j := j) (by rw [List.getElem?_set_self hjl])
  simp only [Value.slice.injEq, Option.some.injEq, Addr.mk.injEq] at hv1
  obtain ⟨⟨rfl, _⟩, _, rfl⟩ := hv1
  have hV : V0 = V1 := by
    have h3 : (w.setCell ⟨g, j * 4 + 2, none⟩ (.string s)).cell? ⟨g, j * 4 + 3, none⟩ = w.cell? ⟨g, j * 4 + 3, none⟩ := World.cell?_setCell_other _ _ _ _ (by simp)
    have h4 := (h3.symm.trans e3).symm.trans d3
    exact (Option.some.inj h4).symm
  subst hV
  have hch' : Own (w.setCell ⟨g, j * 4 + 2, none⟩ (.string s)) e C1 V0 x.args := hch
  obtain ⟨a, c, hVa⟩ := hch'.argsAt.slice
  subst hVa
  refine ⟨Only.of_grown g1 hS0, a, c, C1, d3, fun k hk => (hC1 k hk).1, hch', fun w' bs h1 h2 => ?_⟩
  have := hx w' bs h1 h2
  rw [List.set_set] at this
  exact this

end Go.Proofs.Ytokndpmoamjbfaa

