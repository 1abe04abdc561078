/-
  Terms as trees: their sizes, their form, their marks; what a slice of terms reads as in memory; trees that a call owns. Over whatever program.
-/
import Derived.Test.YtokndpmoamjbfaaOwn
namespace Go.Proofs.Ytokndpmoamjbfaa
open Go.RowKit

inductive Tm where
  | mk (k i : Int) (s : ByteArray) (l : List Tm)

def Tm.kind : Tm → Int | .mk k _ _ _ => k
def Tm.num : Tm → Int | .mk _ i _ _ => i
def Tm.name : Tm → ByteArray | .mk _ _ s _ => s
def Tm.args : Tm → List Tm | .mk _ _ _ l => l
theorem Tm.eta (t : Tm) : Tm.mk t.kind t.num t.name t.args = t := by cases t; rfl

mutual
def Tm.nodes : Tm → Nat | .mk _ _ _ l => 1 + nodesL l
def nodesL : List Tm → Nat | [] => 0 | t :: l => t.nodes + nodesL l
end
mutual
def Tm.sz : Tm → Nat | .mk _ _ s l => s.size + szL l
def szL : List Tm → Nat | [] => 0 | t :: l => 1 + t.sz + szL l
end
mutual
def Tm.fine : Tm → Prop | .mk _ _ s l => s.size ≤ maxLen ∧ l.length ≤ maxLen ∧ fineL l
def fineL : List Tm → Prop | [] => True | t :: l => t.fine ∧ fineL l
end

theorem nodes_eq (t : Tm) : t.nodes = 1 + nodesL t.args := by cases t; rw [Tm.nodes]; rfl
theorem sz_eq (t : Tm) : t.sz = t.name.size + szL t.args := by cases t; rw [Tm.sz]; rfl
theorem fine_eq (t : Tm) : t.fine = (t.name.size ≤ maxLen ∧ t.args.length ≤ maxLen ∧ fineL t.args) := by cases t; rw [Tm.fine]; rfl
theorem nodesL_append (a b : List Tm) : nodesL (a ++ b) = nodesL a + nodesL b := by
  induction a with
  | nil => simp [nodesL]
  | cons t l ih => simp only [List.cons_append, nodesL, ih]; omega
theorem szL_append (a b : List Tm) : szL (a ++ b) = szL a + szL b := by
  induction a with
  | nil => simp [szL]
  | cons t l ih => simp only [List.cons_append, szL, ih]; omega
theorem take_snoc {l : List Tm} {j : Nat} {t : Tm} (h : l[j]? = some t) : l.take (j + 1) = l.take j ++ [t] := by
  rw [List.take_add_one, h]; rfl
theorem nodes_take {l : List Tm} {j : Nat} {t : Tm} (h : l[j]? = some t) : nodesL (l.take (j + 1)) = nodesL (l.take j) + t.nodes := by
  rw [take_snoc h, nodesL_append]; simp [nodesL]
theorem sz_take {l : List Tm} {j : Nat} {t : Tm} (h : l[j]? = some t) : szL (l.take (j + 1)) = szL (l.take j) + (1 + t.sz) := by
  rw [take_snoc h, szL_append]; simp [szL]
theorem nodes_take_le (l : List Tm) (j : Nat) : nodesL (l.take j) ≤ nodesL l := by
  conv => rhs; rw [← List.take_append_drop j l]
  rw [nodesL_append]; omega
theorem sz_take_le (l : List Tm) (j : Nat) : szL (l.take j) ≤ szL l := by
  conv => rhs; rw [← List.take_append_drop j l]
  rw [szL_append]; omega
theorem nodes_take_at {l : List Tm} {j : Nat} {t : Tm} (h : l[j]? = some t) : nodesL (l.take j) + t.nodes ≤ nodesL l := by
  rw [← nodes_take h]; exact nodes_take_le l _
theorem nodes_at {l : List Tm} {j : Nat} {t : Tm} (h : l[j]? = some t) : t.nodes ≤ nodesL l := by have := nodes_take_at h; omega
theorem sz_at {l : List Tm} {j : Nat} {t : Tm} (h : l[j]? = some t) : szL (l.take j) + (1 + t.sz) ≤ szL l := by
  rw [← sz_take h]; exact sz_take_le l _
theorem nodes_pos (t : Tm) : 1 ≤ t.nodes := by rw [nodes_eq]; omega
theorem length_szL (l : List Tm) : l.length ≤ szL l := by
  induction l with
  | nil => simp [szL]
  | cons t l ih => simp only [List.length_cons, szL]; omega
theorem szL_len (l : List Tm) (j : Nat) : j ≤ l.length → szL (l.take j) ≥ j := by
  intro h
  have := length_szL (l.take j)
  simp at this; omega
mutual
theorem nodes_sz : ∀ t : Tm, t.nodes ≤ 1 + t.sz
  | .mk _ _ _ l => by rw [Tm.nodes, Tm.sz]; have := nodesL_sz l; omega
theorem nodesL_sz : ∀ l : List Tm, nodesL l ≤ szL l
  | [] => by simp [nodesL]
  | t :: l => by rw [nodesL, szL]; have := nodes_sz t; have := nodesL_sz l; omega
end
theorem fine_at {l : List Tm} (h : fineL l) {j : Nat} {t : Tm} (hj : l[j]? = some t) : t.fine := by
  induction l generalizing j with
  | nil => simp at hj
  | cons x l ih =>
    rw [fineL] at h
    cases j with
    | zero => simp at hj; subst hj; exact h.1
    | succ j => exact ih h.2 (by simpa using hj)
theorem nodesL_nil : nodesL [] = 0 := by rw [nodesL]
theorem szL_nil : szL [] = 0 := by rw [szL]

/-- The four cells of a term whose list of arguments is the slice V. -/
def cells4 (t : Tm) (V : Value) : List Value := [.int .i64 t.kind, .int .i64 t.num, .string t.name, V]
def tmV (t : Tm) (V : Value) : Value := .agg (cells4 t V).toArray

/-- What a slice reads as: a list of terms, wherever it lies. -/
inductive ArgsAt (w : World) : Value → List Tm → Prop
  | nil (a : Option Addr) (cap : Nat) : ArgsAt w (.slice a 0 cap) []
  | row (g off n cap : Nat) (V : Nat → Value) (l : List Tm) (hn : n = l.length) (hg : g < w.heap.size)
      (hc : ∀ j t, l[j]? = some t → ∀ i v, (cells4 t (V j))[i]? = some v → w.cell? ⟨g, off + (j * 4 + i), none⟩ = some v)
      (hr : ∀ j t, l[j]? = some t → ArgsAt w (V j) t.args) : ArgsAt w (.slice (some ⟨g, off, none⟩) n cap) l

theorem ArgsAt.keep {w w' : World} (hs : w.heap.size ≤ w'.heap.size) {v : Value} {l : List Tm} (h : ArgsAt w v l) (hb : ∀ k, k < w.heap.size → w'.heap[k]? = w.heap[k]?) : ArgsAt w' v l := by
  induction h with
  | nil a cap => exact .nil a cap
  | row g off n cap V l hn hg hc hr ih =>
    exact .row g off n cap V l hn (Nat.lt_of_lt_of_le hg hs) (fun j t hj i v hv => (World.cell?_of_block (a := ⟨g, off + (j * 4 + i), none⟩) (hb g hg)).trans (hc j t hj i v hv)) ih
theorem ArgsAt.kept {w w' : World} {v : Value} {l : List Tm} (h : ArgsAt w v l) (hb : Below w.heap.size w w') : ArgsAt w' v l := h.keep hb.size hb.block
theorem ArgsAt.kept' {w w' : World} {B : Nat} {v : Value} {l : List Tm} (h : ArgsAt w v l) (hb : Below B w w') (hB : w.heap.size ≤ B) : ArgsAt w' v l := h.kept (hb.mono hB)

/-- The slice of arguments: its length, and each element's cells. -/
theorem ArgsAt.slice {w : World} {v : Value} {l : List Tm} (h : ArgsAt w v l) : ∃ a cap, v = .slice a l.length cap := by
  cases h with
  | nil a cap => exact ⟨a, cap, rfl⟩
  | row g off n cap V l hn hg hc hr => subst hn; exact ⟨_, cap, rfl⟩
theorem ArgsAt.parts {w : World} {v : Value} {l : List Tm} (h : ArgsAt w v l) (hne : l ≠ []) :
    ∃ (g off cap : Nat) (V : Nat → Value), v = .slice (some ⟨g, off, none⟩) l.length cap ∧ g < w.heap.size ∧
      (∀ j t, l[j]? = some t → w.cell? ⟨g, off + j * 4, none⟩ = some (.int .i64 t.kind) ∧ w.cell? ⟨g, off + j * 4 + 1, none⟩ = some (.int .i64 t.num) ∧ w.cell? ⟨g, off + j * 4 + 2, none⟩ = some (.string t.name) ∧ w.cell? ⟨g, off + j * 4 + 3, none⟩ = some (V j)) ∧
      ∀ j t, l[j]? = some t → ArgsAt w (V j) t.args := by
  cases h with
  | nil a cap => exact absurd rfl hne
  | row g off n cap V l hn hg hc hr =>
    subst hn
    exact ⟨g, off, cap, V, rfl, hg, fun j t hj => ⟨hc j t hj 0 _ rfl, hc j t hj 1 _ rfl, hc j t hj 2 _ rfl, hc j t hj 3 _ rfl⟩, hr⟩

/-- The cells of a list of terms with their slices. -/
def cellsL (L : List (Tm × Value)) : List Value := L.flatMap fun p => cells4 p.1 p.2
theorem cellsL_length (L : List (Tm × Value)) : (cellsL L).length = L.length * 4 := by
  induction L with
  | nil => rfl
  | cons p L ih => simp [cellsL, cells4] at ih ⊢; omega
theorem cellsL_append (L M : List (Tm × Value)) : cellsL (L ++ M) = cellsL L ++ cellsL M := by simp [cellsL]
theorem cellsL_at {L : List (Tm × Value)} {j : Nat} {p : Tm × Value} (hj : L[j]? = some p) {i : Nat} {v : Value} (hi : (cells4 p.1 p.2)[i]? = some v) : (cellsL L)[j * 4 + i]? = some v := by
  have hi4 : i < 4 := by have := (List.getElem?_eq_some_iff.1 hi).1; simpa [cells4] using this
  induction L generalizing j with
  | nil => simp at hj
  | cons x L ih =>
    have e : cellsL (x :: L) = cells4 x.1 x.2 ++ cellsL L := by simp [cellsL]
    rw [e]
    cases j with
    | zero =>
      simp at hj; subst hj
      rw [List.getElem?_append_left (by simp [cells4]; omega)]
      simpa using hi
    | succ j =>
      rw [List.getElem?_append_right (by simp [cells4]; omega)]
      have : (j + 1) * 4 + i - (cells4 x.1 x.2).length = j * 4 + i := by simp [cells4]; omega
      rw [this]
      exact ih (by simpa using hj)
theorem cellsL_set {L : List (Tm × Value)} {j : Nat} {p : Tm × Value} (hj : L[j]? = some p) {i : Nat} (hi : i < 4) {q : Tm × Value} {u : Value} (hq : cells4 q.1 q.2 = (cells4 p.1 p.2).set i u) : (cellsL L).set (j * 4 + i) u = cellsL (L.set j q) := by
  induction L generalizing j with
  | nil => simp at hj
  | cons x L ih =>
    have e : ∀ (x : Tm × Value) L, cellsL (x :: L) = cells4 x.1 x.2 ++ cellsL L := fun x L => by simp [cellsL]
    cases j with
    | zero =>
      simp at hj; subst hj
      rw [List.set_cons_zero, e, e, hq, List.set_append_left _ _ (by simp [cells4]; omega)]
      simp
    | succ j =>
      rw [List.set_cons_succ, e, e, List.set_append_right _ _ (by simp [cells4]; omega)]
      have : (j + 1) * 4 + i - (cells4 x.1 x.2).length = j * 4 + i := by simp [cells4]; omega
      rw [this, ih (by simpa using hj)]
end Go.Proofs.Ytokndpmoamjbfaa

