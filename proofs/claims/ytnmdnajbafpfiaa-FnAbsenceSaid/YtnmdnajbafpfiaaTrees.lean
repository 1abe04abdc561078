/-
  Terms as trees: their sizes, their form, their marks; what a slice of terms reads as in memory; trees that a call owns. Over whatever program.
  Trees that a call owns: no two nodes' lists in one block; what else is laid or written leaves them; a node's cell written, a child's tree written. Over whatever program.
  The form that a term has to have: 'Good'; one node's form: 'Fit'. Over whatever program.
  The contracts of the laws' helpers that measure a term: szTerm, szTermS.
  The contracts of the laws' helpers that copy a term into the program's type: toTerm, toTermS.
  The contracts of the laws' helpers that compare terms that are alike: eqTerm, eqTermS.
-/
import Derived.Test.YtnmdnajbafpfiaaBase
import Derived.Test.YtnmdnajbafpfiaaRows
import Derived.WalkKit
import Derived.ProofKit
import Derived.LoopTactic
import Derived.Lib.Hide
import Derived.Handy
import Derived.WalkLawsBesides
import Derived.Deep.QuietTactic
import Derived.BigQuiet
import Derived.Deep.RegionWith
import Derived.Deep.RegionHeld3
namespace Go.Proofs.Ytnmdnajbafpfiaa
open Go.RowKit

inductive Tm where
  | mk (k i : Int) (s : ByteArray) (l : List Tm)

def Tm.kind : Tm → Int | .mk k _ _ _ => k
def Tm.num : Tm → Int | .mk _ i _ _ => i
def Tm.name : Tm → ByteArray | .mk _ _ s _ => s
def Tm.args : Tm → List Tm | .mk _ _ _ l => l
theorem Tm.eta (t : Tm) : Tm.mk t.kind t.num t.name t.args = t := by cases t; rfl

mutual
def Tm.nodes : Tm → Nat | .mk _ _ _ l => 1 + nodesL l
def nodesL : List Tm → Nat | [] => 0 | t :: l => t.nodes + nodesL l
end
mutual
def Tm.sz : Tm → Nat | .mk _ _ s l => s.size + szL l
def szL : List Tm → Nat | [] => 0 | t :: l => 1 + t.sz + szL l
end
mutual
def Tm.fine : Tm → Prop | .mk _ _ s l => s.size ≤ maxLen ∧ l.length ≤ maxLen ∧ fineL l
def fineL : List Tm → Prop | [] => True | t :: l => t.fine ∧ fineL l
end

theorem nodes_eq (t : Tm) : t.nodes = 1 + nodesL t.args := by cases t; rw [Tm.nodes]; rfl
theorem sz_eq (t : Tm) : t.sz = t.name.size + szL t.args := by cases t; rw [Tm.sz]; rfl
theorem fine_eq (t : Tm) : t.fine = (t.name.size ≤ maxLen ∧ t.args.length ≤ maxLen ∧ fineL t.args) := by cases t; rw [Tm.fine]; rfl
theorem nodesL_append (a b : List Tm) : nodesL (a ++ b) = nodesL a + nodesL b := by
  induction a with
  | nil => simp [nodesL]
  | cons t l ih => simp only [List.cons_append, nodesL, ih]; omega
theorem szL_append (a b : List Tm) : szL (a ++ b) = szL a + szL b := by
  induction a with
  | nil => simp [szL]
  | cons t l ih => simp only [List.cons_append, szL, ih]; omega
theorem take_snoc {l : List Tm} {j : Nat} {t : Tm} (h : l[j]? = some t) : l.take (j + 1) = l.take j ++ [t] := by
  rw [List.take_add_one, h]; rfl
theorem nodes_take {l : List Tm} {j : Nat} {t : Tm} (h : l[j]? = some t) : nodesL (l.take (j + 1)) = nodesL (l.take j) + t.nodes := by
  rw [take_snoc h, nodesL_append]; simp [nodesL]
theorem sz_take {l : List Tm} {j : Nat} {t : Tm} (h : l[j]? = some t) : szL (l.take (j + 1)) = szL (l.take j) + (1 + t.sz) := by
  rw [take_snoc h, szL_append]; simp [szL]
theorem nodes_take_le (l : List Tm) (j : Nat) : nodesL (l.take j) ≤ nodesL l := by
  conv => rhs; rw [← List.take_append_drop j l]
  rw [nodesL_append]; omega
theorem sz_take_le (l : List Tm) (j : Nat) : szL (l.take j) ≤ szL l := by
  conv => rhs; rw [← List.take_append_drop j l]
  rw [szL_append]; omega
theorem nodes_take_at {l : List Tm} {j : Nat} {t : Tm} (h : l[j]? = some t) : nodesL (l.take j) + t.nodes ≤ nodesL l := by
  rw [← nodes_take h]; exact nodes_take_le l _
theorem nodes_at {l : List Tm} {j : Nat} {t : Tm} (h : l[j]? = some t) : t.nodes ≤ nodesL l := by have := nodes_take_at h; omega
theorem sz_at {l : List Tm} {j : Nat} {t : Tm} (h : l[j]? = some t) : szL (l.take j) + (1 + t.sz) ≤ szL l := by
  rw [← sz_take h]; exact sz_take_le l _
theorem nodes_pos (t : Tm) : 1 ≤ t.nodes := by rw [nodes_eq]; omega
theorem length_szL (l : List Tm) : l.length ≤ szL l := by
  induction l with
  | nil => simp [szL]
  | cons t l ih => simp only [List.length_cons, szL]; omega
theorem szL_len (l : List Tm) (j : Nat) : j ≤ l.length → szL (l.take j) ≥ j := by
  intro h
  have := length_szL (l.take j)
  simp at this; omega
mutual
theorem nodes_sz : ∀ t : Tm, t.nodes ≤ 1 + t.sz
  | .mk _ _ _ l => by rw [Tm.nodes, Tm.sz]; have := nodesL_sz l; omega
theorem nodesL_sz : ∀ l : List Tm, nodesL l ≤ szL l
  | [] => by simp [nodesL]
  | t :: l => by rw [nodesL, szL]; have := nodes_sz t; have := nodesL_sz l; omega
end
theorem fine_at {l : List Tm} (h : fineL l) {j : Nat} {t : Tm} (hj : l[j]? = some t) : t.fine := by
  induction l generalizing j with
  | nil => simp at hj
  | cons x l ih =>
    rw [fineL] at h
    cases j with
    | zero => simp at hj; subst hj; exact h.1
    | succ j => exact ih h.2 (by simpa using hj)
theorem nodesL_nil : nodesL [] = 0 := by rw [nodesL]
theorem szL_nil : szL [] = 0 := by rw [szL]

/-- The four cells of a term whose list of arguments is the slice V. -/
def cells4 (t : Tm) (V : Value) : List Value := [.int .i64 t.kind, .int .i64 t.num, .string t.name, V]
def tmV (t : Tm) (V : Value) : Value := .agg (cells4 t V).toArray

/-- What a slice reads as: a list of terms, wherever it lies. -/
inductive ArgsAt (w : World) : Value → List Tm → Prop
  | nil (a : Option Addr) (cap : Nat) : ArgsAt w (.slice a 0 cap) []
  | row (g off n cap : Nat) (V : Nat → Value) (l : List Tm) (hn : n = l.length) (hg : g < w.heap.size)
      (hc : ∀ j t, l[j]? = some t → ∀ i v, (cells4 t (V j))[i]? = some v → w.cell? ⟨g, off + (j * 4 + i), none⟩ = some v)
      (hr : ∀ j t, l[j]? = some t → ArgsAt w (V j) t.args) : ArgsAt w (.slice (some ⟨g, off, none⟩) n cap) l

theorem ArgsAt.keep {w w' : World} (hs : w.heap.size ≤ w'.heap.size) {v : Value} {l : List Tm} (h : ArgsAt w v l) (hb : ∀ k, k < w.heap.size → w'.heap[k]? = w.heap[k]?) : ArgsAt w' v l := by
  induction h with
  | nil a cap => exact .nil a cap
  | row g off n cap V l hn hg hc hr ih =>
    exact .row g off n cap V l hn (Nat.lt_of_lt_of_le hg hs) (fun j t hj i v hv => (World.cell?_of_block (a := ⟨g, off + (j * 4 + i), none⟩) (hb g hg)).trans (hc j t hj i v hv)) ih
theorem ArgsAt.kept {w w' : World} {v : Value} {l : List Tm} (h : ArgsAt w v l) (hb : Below w.heap.size w w') : ArgsAt w' v l := h.keep hb.size hb.block
theorem ArgsAt.kept' {w w' : World} {B : Nat} {v : Value} {l : List Tm} (h : ArgsAt w v l) (hb : Below B w w') (hB : w.heap.size ≤ B) : ArgsAt w' v l := h.kept (hb.mono hB)

/-- The slice of arguments: its length, and each element's cells. -/
theorem ArgsAt.slice {w : World} {v : Value} {l : List Tm} (h : ArgsAt w v l) : ∃ a cap, v = .slice a l.length cap := by
  cases h with
  | nil a cap => exact ⟨a, cap, rfl⟩
  | row g off n cap V l hn hg hc hr => subst hn; exact ⟨_, cap, rfl⟩
theorem ArgsAt.parts {w : World} {v : Value} {l : List Tm} (h : ArgsAt w v l) (hne : l ≠ []) :
    ∃ (g off cap : Nat) (V : Nat → Value), v = .slice (some ⟨g, off, none⟩) l.length cap ∧ g < w.heap.size ∧
      (∀ j t, l[j]? = some t → w.cell? ⟨g, off + j * 4, none⟩ = some (.int .i64 t.kind) ∧ w.cell? ⟨g, off + j * 4 + 1, none⟩ = some (.int .i64 t.num) ∧ w.cell? ⟨g, off + j * 4 + 2, none⟩ = some (.string t.name) ∧ w.cell? ⟨g, off + j * 4 + 3, none⟩ = some (V j)) ∧
      ∀ j t, l[j]? = some t → ArgsAt w (V j) t.args := by
  cases h with
  | nil a cap => exact absurd rfl hne
  | row g off n cap V l hn hg hc hr =>
    subst hn
    exact ⟨g, off, cap, V, rfl, hg, fun j t hj => ⟨hc j t hj 0 _ rfl, hc j t hj 1 _ rfl, hc j t hj 2 _ rfl, hc j t hj 3 _ rfl⟩, hr⟩

/-- The cells of a list of terms with their slices. -/
def cellsL (L : List (Tm × Value)) : List Value := L.flatMap fun p => cells4 p.1 p.2
theorem cellsL_length (L : List (Tm × Value)) : (cellsL L).length = L.length * 4 := by
  induction L with
  | nil => rfl
  | cons p L ih => simp [cellsL, cells4] at ih ⊢; omega
theorem cellsL_append (L M : List (Tm × Value)) : cellsL (L ++ M) = cellsL L ++ cellsL M := by simp [cellsL]
theorem cellsL_at {L : List (Tm × Value)} {j : Nat} {p : Tm × Value} (hj : L[j]? = some p) {i : Nat} {v : Value} (hi : (cells4 p.1 p.2)[i]? = some v) : (cellsL L)[j * 4 + i]? = some v := by
  have hi4 : i < 4 := by have := (List.getElem?_eq_some_iff.1 hi).1; simpa [cells4] using this
  induction L generalizing j with
  | nil => simp at hj
  | cons x L ih =>
    have e : cellsL (x :: L) = cells4 x.1 x.2 ++ cellsL L := by simp [cellsL]
    rw [e]
    cases j with
    | zero =>
      simp at hj; subst hj
      rw [List.getElem?_append_left (by simp [cells4]; omega)]
      simpa using hi
    | succ j =>
      rw [List.getElem?_append_right (by simp [cells4]; omega)]
      have : (j + 1) * 4 + i - (cells4 x.1 x.2).length = j * 4 + i := by simp [cells4]; omega
      rw [this]
      exact ih (by simpa using hj)
theorem cellsL_set {L : List (Tm × Value)} {j : Nat} {p : Tm × Value} (hj : L[j]? = some p) {i : Nat} (hi : i < 4) {q : Tm × Value} {u : Value} (hq : cells4 q.1 q.2 = (cells4 p.1 p.2).set i u) : (cellsL L).set (j * 4 + i) u = cellsL (L.set j q) := by
  induction L generalizing j with
  | nil => simp at hj
  | cons x L ih =>
    have e : ∀ (x : Tm × Value) L, cellsL (x :: L) = cells4 x.1 x.2 ++ cellsL L := fun x L => by simp [cellsL]
    cases j with
    | zero =>
      simp at hj; subst hj
      rw [List.set_cons_zero, e, e, hq, List.set_append_left _ _ (by simp [cells4]; omega)]
      simp
    | succ j =>
      rw [List.set_cons_succ, e, e, List.set_append_right _ _ (by simp [cells4]; omega)]
      have : (j + 1) * 4 + i - (cells4 x.1 x.2).length = j * 4 + i := by simp [cells4]; omega
      rw [this, ih (by simpa using hj)]
end Go.Proofs.Ytnmdnajbafpfiaa

namespace Go.Proofs.Ytnmdnajbafpfiaa
open Go.RowKit

inductive Own (w : World) (e : TypeId) : (Nat → Prop) → Value → List Tm → Prop
  | nil (S : Nat → Prop) : Own w e S (.slice none 0 0) []
  | row (S : Nat → Prop) (g n cap : Nat) (L : List (Tm × Value)) (C : Nat → Nat → Prop) (l : List Tm) (hl : l = L.map Prod.fst) (hn : n = L.length) (hg : S g)
      (hown : w.ownsRow 0 e 4 (.slice (some ⟨g, 0, none⟩) n cap) n (cellsL L)) (hr : ∀ j p, L[j]? = some p → Own w e (C j) p.2 p.1.args)
      (hC : ∀ j k, j < n → C j k → S k ∧ k ≠ g) (hd : ∀ i j k, i < n → j < n → C i k → C j k → i = j) : Own w e S (.slice (some ⟨g, 0, none⟩) n cap) l

theorem row_hit {w : World} {e : TypeId} {g n cap : Nat} {xs : List Value} (h : w.ownsRow 0 e 4 (.slice (some ⟨g, 0, none⟩) n cap) n xs) : g < w.heap.size := (World.ownsRow.lt h g rfl).2
theorem row_moved {w w' : World} {e : TypeId} {g n cap : Nat} {xs : List Value} (h : w.ownsRow 0 e 4 (.slice (some ⟨g, 0, none⟩) n cap) n xs) (hb : w'.heap[g]? = w.heap[g]?) : w'.ownsRow 0 e 4 (.slice (some ⟨g, 0, none⟩) n cap) n xs := by
  refine ⟨h.1, ?_⟩
  rcases h.2 with hn | ⟨g', cap', cur, he, h1, h2, h3⟩
  · exact .inl hn
  · refine .inr ⟨g', cap', cur, he, h1, ?_, h3⟩
    simp only [Value.slice.injEq, Option.some.injEq, Addr.mk.injEq] at he
    obtain ⟨⟨rfl, _⟩, _⟩ := he
    rw [hb]; exact h2

theorem Own.sub {w : World} {e : TypeId} {S S' : Nat → Prop} {v : Value} {l : List Tm} (h : Own w e S v l) (hS : ∀ k, S k → S' k) : Own w e S' v l := by
  cases h with
  | nil S => exact .nil S'
  | row S g n cap L C l hl hn hg hown hr hC hd => exact .row S' g n cap L C l hl hn (hS g hg) hown hr (fun j k hj hk => ⟨hS k (hC j k hj hk).1, (hC j k hj hk).2⟩) hd

theorem Own.frame {w w' : World} {e : TypeId} {S : Nat → Prop} {v : Value} {l : List Tm} (h : Own w e S v l) (hb : ∀ k, S k → k < w.heap.size → w'.heap[k]? = w.heap[k]?) : Own w' e S v l := by
  induction h with
  | nil S => exact .nil S
  | row S g n cap L C l hl hn hg hown hr hC hd ih =>
    refine .row S g n cap L C l hl hn hg (row_moved hown (hb g hg (row_hit hown))) (fun j p hj => ih j p hj fun k hk hks => hb k (hC j k ?_ hk).1 hks) hC hd
    have := (List.getElem?_eq_some_iff.1 hj).1; omega
theorem Own.kept {w w' : World} {e : TypeId} {S : Nat → Prop} {v : Value} {l : List Tm} (h : Own w e S v l) (hb : Below w.heap.size w w') : Own w' e S v l := h.frame fun k _ hk => hb.block k hk
theorem Own.kept' {w w' : World} {B : Nat} {e : TypeId} {S : Nat → Prop} {v : Value} {l : List Tm} (h : Own w e S v l) (hb : Below B w w') (hS : ∀ k, S k → k < B) : Own w' e S v l := h.frame fun k hk _ => hb.block k (hS k hk)

theorem Own.argsAt {w : World} {e : TypeId} {S : Nat → Prop} {v : Value} {l : List Tm} (h : Own w e S v l) : ArgsAt w v l := by
  induction h with
  | nil S => exact .nil none 0
  | row S g n cap L C l hl hn hg hown hr hC hd ih =>
    subst hl
    refine .row g 0 n cap (fun j => match L[j]? with | some p => p.2 | none => .bool false) _ (by simpa using hn) (row_hit hown) ?_ ?_
    · intro j t hj i v hv
      rw [List.getElem?_map] at hj
      obtain ⟨p, hp, rfl⟩ := Option.map_eq_some_iff.1 hj
      rw [hp] at hv
      have hi4 : i < 4 := by have := (List.getElem?_eq_some_iff.1 hv).1; simpa [cells4] using this
      have hjn : j < n := by have := (List.getElem?_eq_some_iff.1 hp).1; omega
      rw [Nat.zero_add, World.ownsRow.cellAt hown _ (by omega)]
      exact cellsL_at hp hv
    · intro j t hj
      rw [List.getElem?_map] at hj
      obtain ⟨p, hp, rfl⟩ := Option.map_eq_some_iff.1 hj
      rw [hp]
      exact ih j p hp

/-- Only blocks of S are written; new ones may be laid. -/
structure Only (S : Nat → Prop) (w w' : World) : Prop where
  os : w'.os = w.os
  tape : w'.tape = w.tape
  output : w'.output = w.output
  size : w.heap.size ≤ w'.heap.size
  block : ∀ k, k < w.heap.size → ¬ S k → w'.heap[k]? = w.heap[k]?
theorem Only.refl (S : Nat → Prop) (w : World) : Only S w w := ⟨rfl, rfl, rfl, Nat.le_refl _, fun _ _ _ => rfl⟩
theorem Only.trans {S : Nat → Prop} {a b c : World} (h : Only S a b) (k : Only S b c) : Only S a c :=
  ⟨k.os.trans h.os, k.tape.trans h.tape, k.output.trans h.output, Nat.le_trans h.size k.size, fun i hi hS => (k.block i (Nat.lt_of_lt_of_le hi h.size) hS).trans (h.block i hi hS)⟩
theorem Only.sub {S S' : Nat → Prop} {w w' : World} (h : Only S w w') (hS : ∀ k, S k → S' k) : Only S' w w' := ⟨h.os, h.tape, h.output, h.size, fun k hk hn => h.block k hk fun x => hn (hS k x)⟩
theorem Only.of_below {S : Nat → Prop} {w w' : World} (h : Below w.heap.size w w') : Only S w w' := ⟨h.os, h.tape, h.output, h.size, fun k hk _ => h.block k hk⟩
theorem Only.below {S : Nat → Prop} {B : Nat} {w w' : World} (h : Only S w w') (hS : ∀ k, S k → B ≤ k) (hB : B ≤ w.heap.size) : Below B w w' := ⟨h.os, h.tape, h.output, h.size, fun k hk => h.block k (by omega) fun x => by have := hS k x; omega⟩
theorem Only.of_grown {S : Nat → Prop} {g : Nat} {w w' : World} (h : w.grownBy w' (some g)) (hS : S g) : Only S w w' := ⟨h.os, h.tape, h.output, h.size, fun k hk hn => h.block k hk fun x => by cases x; exact hn hS⟩
theorem Own.only {w w' : World} {e : TypeId} {S S' : Nat → Prop} {v : Value} {l : List Tm} (h : Own w e S v l) (hb : Only S' w w') (hS : ∀ k, S k → ¬ S' k) : Own w' e S v l := h.frame fun k hk hks => hb.block k hks (hS k hk)

/-- The parts of a tree that is not empty, at one place: the root's block, the element's cells, the child; how one of the element's first three cells is written; how the child is exchanged. -/
theorem Own.at {w : World} {e : TypeId} {S : Nat → Prop} {v : Value} {l : List Tm} (h : Own w e S v l) {j : Nat} {t : Tm} (hj : l[j]? = some t) :
    ∃ (g cap : Nat) (V : Value) (C : Nat → Prop), v = .slice (some ⟨g, 0, none⟩) l.length cap ∧ S g ∧ (∀ k, C k → S k ∧ k ≠ g) ∧ g < w.heap.size ∧ (∀ i, w.frozen? ⟨g, i, none⟩ = false) ∧
      w.cell? ⟨g, j * 4, none⟩ = some (.int .i64 t.kind) ∧ w.cell? ⟨g, j * 4 + 1, none⟩ = some (.int .i64 t.num) ∧ w.cell? ⟨g, j * 4 + 2, none⟩ = some (.string t.name) ∧ w.cell? ⟨g, j * 4 + 3, none⟩ = some V ∧
      Own w e C V t.args ∧
      (∀ k, w.grownBy (w.setCell ⟨g, j * 4, none⟩ (.int .i64 k)) (some g) ∧ Own (w.setCell ⟨g, j * 4, none⟩ (.int .i64 k)) e S v (l.set j (.mk k t.num t.name t.args))) ∧
      (∀ k, w.grownBy (w.setCell ⟨g, j * 4 + 1, none⟩ (.int .i64 k)) (some g) ∧ Own (w.setCell ⟨g, j * 4 + 1, none⟩ (.int .i64 k)) e S v (l.set j (.mk t.kind k t.name t.args))) ∧
      (∀ s, w.grownBy (w.setCell ⟨g, j * 4 + 2, none⟩ (.string s)) (some g) ∧ Own (w.setCell ⟨g, j * 4 + 2, none⟩ (.string s)) e S v (l.set j (.mk t.kind t.num s t.args))) ∧
      (∀ w' zs, Own w' e C V zs → Only C w w' → Own w' e S v (l.set j (.mk t.kind t.num t.name zs))) ∧
      ∀ u S' zs, Own w e S' u zs → (∀ k, S' k → ¬ S k) → w.grownBy (w.setCell ⟨g, j * 4 + 3, none⟩ u) (some g) ∧ Own (w.setCell ⟨g, j * 4 + 3, none⟩ u) e (fun k => S k ∨ S' k) v (l.set j (.mk t.kind t.num t.name zs)) := by
  cases h with
  | nil S => simp at hj
  | row S g n cap L C l hl hn hg hown hr hC hd =>
    subst hl
    subst hn
    rw [List.getElem?_map] at hj
    obtain ⟨p, hp, rfl⟩ := Option.map_eq_some_iff.1 hj
    have hjn : j < L.length := (List.getElem?_eq_some_iff.1 hp).1
    have cell : ∀ i v, (cells4 p.1 p.2)[i]? = some v → w.cell? ⟨g, j * 4 + i, none⟩ = some v := by
      intro i v hv
      have hi4 : i < 4 := by have := (List.getElem?_eq_some_iff.1 hv).1; simpa [cells4] using this
      rw [World.ownsRow.cellAt hown _ (by omega)]
      exact cellsL_at hp hv
    have hset : ∀ (q : Tm) (i : Nat) (u : Value), i < 4 → q.args = p.1.args → cells4 q p.2 = (cells4 p.1 p.2).set i u →
        w.grownBy (w.setCell ⟨g, j * 4 + i, none⟩ u) (some g) ∧ Own (w.setCell ⟨g, j * 4 + i, none⟩ u) e S (.slice (some ⟨g, 0, none⟩) L.length cap) ((L.map Prod.fst).set j q) := by
      intro q i u hi ha hq
      obtain ⟨h1, h2⟩ := World.ownsRow.stored hown (j * 4 + i) u
      refine ⟨h2, .row S g L.length cap (L.set j (q, p.2)) C _ (by rw [List.map_set]) (by simp) hg ?_ ?_ hC hd⟩
      · rw [cellsL_set hp hi (q := (q, p.2)) hq] at h1
        exact h1
      · intro i' p' hp'
        have hf : Own (w.setCell ⟨g, j * 4 + i, none⟩ u) e (C i') p'.2 p'.1.args := by
          by_cases hij : i' = j
          · subst hij
            rw [List.getElem?_set_self hjn] at hp'
            simp only [Option.some.injEq] at hp'
            subst hp'
            show Own _ e (C i') p.2 q.args
            rw [ha]
            exact (hr i' p hp).frame fun k hk hks => h2.block k hks fun x => (hC i' k hjn hk).2 (by cases x; rfl)
          · rw [List.getElem?_set_ne (fun x => hij x.symm)] at hp'
            have hi' : i' < L.length := (List.getElem?_eq_some_iff.1 hp').1
            exact (hr i' p' hp').frame fun k hk hks => h2.block k hks fun x => (hC i' k hi' hk).2 (by cases x; rfl)
        exact hf
    refine ⟨g, cap, p.2, C j, by rw [List.length_map], hg, fun k hk => hC j k hjn hk, row_hit hown, fun i => World.ownsRow.frozenAt hown i, cell 0 _ rfl, cell 1 _ rfl, cell 2 _ rfl, cell 3 _ rfl, hr j p hp, ?_, ?_, ?_, ?_, ?_⟩
    · intro k
      exact hset (.mk k p.1.num p.1.name p.1.args) 0 (.int .i64 k) (by omega) rfl rfl
    · intro k
      exact hset (.mk p.1.kind k p.1.name p.1.args) 1 (.int .i64 k) (by omega) rfl rfl
    · intro s
      exact hset (.mk p.1.kind p.1.num s p.1.args) 2 (.string s) (by omega) rfl rfl
    · intro w' zs ho hb
      have hgh : w'.heap[g]? = w.heap[g]? := hb.block g (row_hit hown) fun x => (hC j g hjn x).2 rfl
      refine .row S g L.length cap (L.set j (.mk p.1.kind p.1.num p.1.name zs, p.2)) C _ (by rw [List.map_set]) (by simp) hg ?_ ?_ hC hd
      · have h1 := row_moved hown hgh
        have e1 : cellsL (L.set j (.mk p.1.kind p.1.num p.1.name zs, p.2)) = cellsL L := by
          rw [← cellsL_set hp (i := 0) (by omega) (q := (.mk p.1.kind p.1.num p.1.name zs, p.2)) (u := .int .i64 p.1.kind) rfl]
          apply List.ext_getElem?
          intro m
          by_cases hm : m = j * 4 + 0
          · subst hm
            rw [List.getElem?_set_self (by rw [cellsL_length]; omega)]
            exact (cellsL_at hp rfl).symm
          · rw [List.getElem?_set_ne (fun x => hm x.symm)]
        rw [e1]; exact h1
      · intro i' p' hp'
        by_cases hij : i' = j
        · subst hij
          rw [List.getElem?_set_self hjn] at hp'
          simp only [Option.some.injEq] at hp'
          subst hp'
          exact ho
        · rw [List.getElem?_set_ne (fun x => hij x.symm)] at hp'
          have hi' : i' < L.length := (List.getElem?_eq_some_iff.1 hp').1
          exact (hr i' p' hp').frame fun k hk hks => hb.block k hks fun x => hij (hd i' j k hi' hjn hk x)
    · intro u S' zs hu hdis
      obtain ⟨h1, h2⟩ := World.ownsRow.stored hown (j * 4 + 3) u
      refine ⟨h2, .row _ g L.length cap (L.set j (.mk p.1.kind p.1.num p.1.name zs, u)) (fun i k => if i = j then S' k else C i k) _ (by rw [List.map_set]) (by simp) (.inl hg) ?_ ?_ ?_ ?_⟩
      · rw [cellsL_set hp (i := 3) (by omega) (q := (.mk p.1.kind p.1.num p.1.name zs, u)) rfl] at h1
        exact h1
      · intro i' p' hp'
        by_cases hij : i' = j
        · subst hij
          rw [List.getElem?_set_self hjn] at hp'
          simp only [Option.some.injEq] at hp'
          subst hp'
          simp only [if_pos]
          exact hu.frame fun k hk hks => h2.block k hks fun x => hdis k hk (by cases x; exact hg)
        · rw [List.getElem?_set_ne (fun x => hij x.symm)] at hp'
          have hi' : i' < L.length := (List.getElem?_eq_some_iff.1 hp').1
          simp only [if_neg hij]
          exact (hr i' p' hp').frame fun k hk hks => h2.block k hks fun x => (hC i' k hi' hk).2 (by cases x; rfl)
      · intro i k hi hk
        by_cases hij : i = j
        · simp only [hij, if_pos] at hk
          exact ⟨.inr hk, fun x => hdis k hk (by subst x; exact hg)⟩
        · simp only [if_neg hij] at hk
          exact ⟨.inl (hC i k hi hk).1, (hC i k hi hk).2⟩
      · intro i i' k hi hi' hk hk'
        by_cases hij : i = j
        · by_cases hij' : i' = j
          · omega
          · simp only [hij, if_pos] at hk
            simp only [if_neg hij'] at hk'
            exact absurd (hC i' k hi' hk').1 (hdis k hk)
        · simp only [if_neg hij] at hk
          by_cases hij' : i' = j
          · simp only [hij', if_pos] at hk'
            exact absurd (hC i k hi hk).1 (hdis k hk')
          · simp only [if_neg hij'] at hk'
            exact hd i i' k hi hi' hk hk'

/-- A whole element put into a tree, its child a tree apart. -/
theorem Own.put {w : World} {e : TypeId} {S S' : Nat → Prop} {g n cap : Nat} {l : List Tm} (h : Own w e S (.slice (some ⟨g, 0, none⟩) n cap) l) {j : Nat} {x t : Tm} (hj : l[j]? = some x) {u : Value} (hu : Own w e S' u t.args) (hd : ∀ k, S' k → ¬ S k) :
    Only S w ((((w.setCell ⟨g, j * 4, none⟩ (.int .i64 t.kind)).setCell ⟨g, j * 4 + 1, none⟩ (.int .i64 t.num)).setCell ⟨g, j * 4 + 2, none⟩ (.string t.name)).setCell ⟨g, j * 4 + 3, none⟩ u) ∧
      Own ((((w.setCell ⟨g, j * 4, none⟩ (.int .i64 t.kind)).setCell ⟨g, j * 4 + 1, none⟩ (.int .i64 t.num)).setCell ⟨g, j * 4 + 2, none⟩ (.string t.name)).setCell ⟨g, j * 4 + 3, none⟩ u) e (fun k => S k ∨ S' k) (.slice (some ⟨g, 0, none⟩) n cap) (l.set j t) := by
  have hjl : j < l.length := (List.getElem?_eq_some_iff.1 hj).1
  obtain ⟨g0, cap0, V0, C0, hv0, hS0, _, _, _, _, _, _, _, _, k0, _, _, _, _⟩ := h.at hj
  simp only [Value.slice.injEq, Option.some.injEq, Addr.mk.injEq] at hv0
  obtain ⟨⟨rfl, _⟩, _, rfl⟩ := hv0
  obtain ⟨g1, o1⟩ := k0 t.kind
  obtain ⟨g', cap', V1, C1, hv1, hS1, _, _, _, _, _, _, _, _, _, k1, _, _, _⟩ := o1.at (t := .mk t.kind x.num x.name x.args) (j := j) (by rw [List.getElem?_set_self hjl])
  simp only [Value.slice.injEq, Option.some.injEq, Addr.mk.injEq] at hv1
  obtain ⟨⟨rfl, _⟩, _, rfl⟩ := hv1
  obtain ⟨g2, o2⟩ := k1 t.num
  rw [List.set_set] at o2
  obtain ⟨g', cap', V2, C2, hv2, hS2, _, _, _, _, _, _, _, _, _, _, k2, _, _⟩ := o2.at (t := .mk t.kind t.num x.name x.args) (j := j) (by rw [List.getElem?_set_self hjl]; rfl)
  simp only [Value.slice.injEq, Option.some.injEq, Addr.mk.injEq] at hv2
  obtain ⟨⟨rfl, _⟩, _, rfl⟩ := hv2
  obtain ⟨g3, o3⟩ := k2 t.name
  rw [List.set_set] at o3
  obtain ⟨g', cap', V3, C3, hv3, hS3, _, _, _, _, _, _, _, _, _, _, _, _, k3⟩ := o3.at (t := .mk t.kind t.num t.name x.args) (j := j) (by rw [List.getElem?_set_self hjl]; rfl)
  simp only [Value.slice.injEq, Option.some.injEq, Addr.mk.injEq] at hv3
  obtain ⟨⟨rfl, _⟩, _, rfl⟩ := hv3
  have hu1 := hu.frame (w' := w.setCell ⟨g, j * 4, none⟩ (.int .i64 t.kind)) fun k hk hks => g1.block k hks fun x => hd k hk (by cases x; exact hS0)
  have hu2 := hu1.frame (w' := (w.setCell ⟨g, j * 4, none⟩ (.int .i64 t.kind)).setCell ⟨g, j * 4 + 1, none⟩ (.int .i64 t.num)) fun k hk hks => g2.block k hks fun x => hd k hk (by cases x; exact hS0)
  have hu3 := hu2.frame (w' := ((w.setCell ⟨g, j * 4, none⟩ (.int .i64 t.kind)).setCell ⟨g, j * 4 + 1, none⟩ (.int .i64 t.num)).setCell ⟨g, j * 4 + 2, none⟩ (.string t.name)) fun k hk hks => g3.block k hks fun x => hd k hk (by cases x; exact hS0)
  obtain ⟨g4, o4⟩ := k3 u S' t.args hu3 hd
  refine ⟨(((Only.of_grown g1 hS0).trans (Only.of_grown g2 hS0)).trans (Only.of_grown g3 hS0)).trans (Only.of_grown g4 hS0), ?_⟩
  rw [List.set_set] at o4
  have o5 : Own ((((w.setCell ⟨g, j * 4, none⟩ (.int .i64 t.kind)).setCell ⟨g, j * 4 + 1, none⟩ (.int .i64 t.num)).setCell ⟨g, j * 4 + 2, none⟩ (.string t.name)).setCell ⟨g, j * 4 + 3, none⟩ u) e (fun k => S k ∨ S' k) (.slice (some ⟨g, 0, none⟩) n cap) (l.set j (.mk t.kind t.num t.name t.args)) := o4
  rw [t.eta] at o5
  exact o5
end Go.Proofs.Ytnmdnajbafpfiaa

namespace Go.Proofs.Ytnmdnajbafpfiaa
open Go.RowKit

inductive Good : Tm → Prop
  | nil : Good (.mk 0 0 ⟨#[]⟩ [])
  | var (i : Int) (h0 : 0 ≤ i) (h1 : i ≤ 100000) : Good (.mk 1 i ⟨#[]⟩ [])
  | sym (s : ByteArray) (h : isName s = true) : Good (.mk 2 0 s [])
  | int (i : Int) (h0 : -1000000000 ≤ i) (h1 : i ≤ 1000000000) : Good (.mk 3 i ⟨#[]⟩ [])
  | pair (a b : Tm) (ha : Good a) (hb : Good b) : Good (.mk 4 0 ⟨#[]⟩ [a, b])

/-- One node's form. -/
def Fit (t : Tm) : Prop :=
  (t.kind = 0 ∧ t.num = 0 ∧ t.name = ⟨#[]⟩ ∧ t.args = []) ∨ (t.kind = 1 ∧ (0 ≤ t.num ∧ t.num ≤ 100000) ∧ t.name = ⟨#[]⟩ ∧ t.args = []) ∨ (t.kind = 2 ∧ t.num = 0 ∧ isName t.name = true ∧ t.args = []) ∨
  (t.kind = 3 ∧ (-1000000000 ≤ t.num ∧ t.num ≤ 1000000000) ∧ t.name = ⟨#[]⟩ ∧ t.args = []) ∨ (t.kind = 4 ∧ t.num = 0 ∧ t.name = ⟨#[]⟩ ∧ t.args.length = 2)

theorem Good.fit {t : Tm} (h : Good t) : Fit t := by
  cases h with
  | nil => exact .inl ⟨rfl, rfl, rfl, rfl⟩
  | var i h0 h1 => exact .inr (.inl ⟨rfl, ⟨h0, h1⟩, rfl, rfl⟩)
  | sym s h => exact .inr (.inr (.inl ⟨rfl, rfl, h, rfl⟩))
  | int i h0 h1 => exact .inr (.inr (.inr (.inl ⟨rfl, ⟨h0, h1⟩, rfl, rfl⟩)))
  | pair a b ha hb => exact .inr (.inr (.inr (.inr ⟨rfl, rfl, rfl, rfl⟩)))
theorem Good.each {t : Tm} (h : Good t) {j : Nat} {x : Tm} (hj : t.args[j]? = some x) : Good x := by
  cases h with
  | pair a b ha hb =>
    match j, hj with
    | 0, hj => simp [Tm.args] at hj; subst hj; exact ha
    | 1, hj => simp [Tm.args] at hj; subst hj; exact hb
    | j + 2, hj => simp [Tm.args] at hj
  | _ => simp [Tm.args] at hj
theorem good_of {t : Tm} (h : Fit t) (hx : ∀ (j : Nat) (x : Tm), t.args[j]? = some x → Good x) : Good t := by
  obtain ⟨k, i, s, l⟩ := t
  simp only [Fit, Tm.kind, Tm.num, Tm.name, Tm.args] at h hx
  rcases h with ⟨rfl, rfl, rfl, rfl⟩ | ⟨rfl, ⟨h0, h1⟩, rfl, rfl⟩ | ⟨rfl, rfl, h, rfl⟩ | ⟨rfl, ⟨h0, h1⟩, rfl, rfl⟩ | ⟨rfl, rfl, rfl, hl⟩
  · exact .nil
  · exact .var i h0 h1
  · exact .sym s h
  · exact .int i h0 h1
  · match l, hl with
    | [a, b], _ => exact .pair a b (hx 0 a rfl) (hx 1 b rfl)
theorem good_two {t : Tm} {a b : Tm} (h : Fit t) (hl : t.args = [a, b]) : Good t ↔ Good a ∧ Good b := by
  constructor
  · intro hg
    exact ⟨hg.each (j := 0) (by rw [hl]; rfl), hg.each (j := 1) (by rw [hl]; rfl)⟩
  · intro ⟨ha, hb⟩
    refine good_of h fun j x hj => ?_
    rw [hl] at hj
    match j, hj with
    | 0, hj => simp at hj; subst hj; exact ha
    | 1, hj => simp at hj; subst hj; exact hb
    | j + 2, hj => simp at hj
theorem good_none {t : Tm} (hl : t.args = []) : Good t ↔ Fit t := ⟨Good.fit, fun h => good_of h fun j x hj => by rw [hl] at hj; simp at hj⟩

/-- What a term of the right form is, from outside: five cases. -/
theorem Fit.name_size {t : Tm} (h : Fit t) : t.name.size ≤ 12 := by
  have hs : ∀ s : ByteArray, isName s = true → s.size ≤ 12 := by
    intro s hs
    by_cases hx : 1 ≤ s.size ∧ s.size ≤ 12
    · exact hx.2
    · rw [isName_short hx] at hs; cases hs
  rcases h with ⟨_, _, h, _⟩ | ⟨_, _, h, _⟩ | ⟨_, _, h, _⟩ | ⟨_, _, h, _⟩ | ⟨_, _, h, _⟩
  · rw [h]; exact Nat.zero_le _
  · rw [h]; exact Nat.zero_le _
  · exact hs _ h
  · rw [h]; exact Nat.zero_le _
  · rw [h]; exact Nat.zero_le _

/-- A term that is valid: of the right form and not too large. -/
def Ok (t : Tm) : Prop := t.nodes ≤ 5000 ∧ Good t
open Classical in
noncomputable def okB (t : Tm) : Bool := decide (Ok t)
theorem okB_true {t : Tm} : okB t = true ↔ Ok t := by simp [okB]
theorem okB_false {t : Tm} : okB t = false ↔ ¬ Ok t := by simp [okB]
open Classical in
noncomputable def sizeOf' (t : Tm) : Int := if Ok t then t.nodes else -1
end Go.Proofs.Ytnmdnajbafpfiaa

namespace Go.Proofs.Ytnmdnajbafpfiaa
open Go.RowKit

def SzP (n : Nat) (left : Int) (w : World) (e : Ending) (w' : World) : Prop :=
  ∃ r : Int, e = .returned (.int .i64 r) ∧ -1 ≤ r ∧ r ≤ left ∧ (0 ≤ r → r = left - n) ∧ Below w.heap.size w w'

set_option maxHeartbeats 400000 in
theorem szTerm_of (k i : Int) (s : ByteArray) (V : Value) (n : Nat) (left : Int) (w : World) (hs : s.size ≤ maxLen) (h0 : 0 ≤ left) (h1 : left ≤ 1048576)
    (HR : Hid (∀ W L, Below w.heap.size w W → 0 ≤ L → L ≤ 1048576 → Calls Try.prog 59 #[V, .int .i64 L] W (SzP n L W))) :
    Calls Try.prog 30 #[.agg #[.int .i64 k, .int .i64 i, .string s, V], .int .i64 left] w (SzP (s.size + n) left w) := by
  unfold maxLen at hs
  have B0 := Lib.hid ((Below.refl w.heap.size w).alloc (Nat.le_refl _) (.cells #[.int .i64 k, .int .i64 i, .string s, V] 63))
  by_cases hneg : left - s.size < 0
  · go_enter Try.func30, Try.ntmps30
    go_wp2
    go_ret
    exact ⟨-1, rfl, by omega, by omega, fun x => by omega, B0.out⟩
  · go_enter Try.func30, Try.ntmps30
    go_wp2_with fail
    refine (HR.out _ (left - s.size) B0.out (by omega) (by omega)).mono ?_
    rintro e w' ⟨r, rfl, hr1, hr2, hr, hb⟩
    have HB := Lib.hid (B0.out.trans (hb.mono (by simp)))
    clear hb
    by_cases hn : r < 0
    · go_wp2
      go_ret
      exact ⟨-1, rfl, by omega, by omega, fun x => by omega, HB.out⟩
    · go_wp2
      go_ret
      exact ⟨r, rfl, by omega, by omega, fun x => by have := hr x; omega, HB.out⟩

set_option maxHeartbeats 400000 in
theorem szTerms_any (N : Nat) : ∀ (l : List Tm) (V : Value) (left : Int) (w : World), nodesL l ≤ N → ArgsAt w V l → fineL l → l.length ≤ maxLen → 0 ≤ left → left ≤ 1048576 →
    Calls Try.prog 59 #[V, .int .i64 left] w (SzP (szL l) left w) := by
  induction N with
  | zero =>
    intro l V left w hN hA hF hL h0 h1
    have : l = [] := by
      cases l with
      | nil => rfl
      | cons t l => rw [nodesL] at hN; have := nodes_pos t; omega
    subst this
    obtain ⟨a, cap, rfl⟩ := hA.slice
    go_enter Try.func59, Try.ntmps59
    go_wp2
    refine wp_loop_rounds 1 ?_
    rw [rounds_succ]
    go_wp2
    go_ret
    exact ⟨left, rfl, by omega, by omega, fun _ => by rw [szL_nil]; omega, Below.refl _ _⟩
  | succ N ih =>
    intro l V left w hN hA hF hL h0 h1
    unfold maxLen at hL
    obtain ⟨a, cap, rfl⟩ := hA.slice
    have HA := Lib.hid hA
    have HF := Lib.hid hF
    have HI := Lib.hid ih
    clear hA hF ih
    by_cases hneg : left - l.length < 0
    · go_enter Try.func59, Try.ntmps59
      go_wp2
      go_ret
      exact ⟨-1, rfl, by omega, by omega, fun x => by omega, Below.refl _ _⟩
    · go_enter Try.func59, Try.ntmps59
      go_wp2
      go_loopw [1, 5] (fun lv i wr => ∃ (k : Nat) (r : Int), k ≤ l.length ∧ i = .int .i64 k ∧ lv = .int .i64 r ∧ 0 ≤ r ∧ r ≤ left ∧ r = left - l.length - (szL (l.take k) - k) ∧ Below w.heap.size w wr) (fun _ i _ => l.length - (intOf i).toNat)
      case atStart => exact ⟨0, left - l.length, Nat.zero_le _, rfl, by go_num, by omega, by omega, by simp [szL_nil], Below.refl _ _⟩
      case round =>
        obtain ⟨k, r, hk, rfl, rfl, hr0, hr1, hr, hb⟩ := hrel
        have HB := Lib.hid hb
        have HR := Lib.hid hr
        clear hb hr
        by_cases hlt : k < l.length
        · obtain ⟨t, ht⟩ : ∃ t, l[k]? = some t := ⟨_, List.getElem?_eq_getElem hlt⟩
          obtain ⟨g, off, cap', V, hv, hg, hc, hch⟩ := HA.out.parts (by intro e; subst e; simp at hlt)
          simp only [Value.slice.injEq] at hv
          obtain ⟨rfl, _, rfl⟩ := hv
          obtain ⟨c0, c1, c2, c3⟩ := hc k t ht
          have d0 := (HB.out.cell (p := ⟨g, off + k * 4, none⟩) hg).trans c0
          have d1 := (HB.out.cell (p := ⟨g, off + k * 4 + 1, none⟩) hg).trans c1
          have d2 := (HB.out.cell (p := ⟨g, off + k * 4 + 2, none⟩) hg).trans c2
          have d3 := (HB.out.cell (p := ⟨g, off + k * 4 + 3, none⟩) hg).trans c3
          have HT := Lib.hid ht
          have HC := Lib.hid (hch k t ht)
          clear hc hch c0 c1 c2 c3 ht
          have hN' : nodesL t.args ≤ N := by have := nodes_at HT.out; rw [nodes_eq] at this; omega
          have hft := fine_at HF.out HT.out
          rw [fine_eq] at hft
          have HN := Lib.hid hft.2.1
          have HG := Lib.hid hft.2.2
          have hs := hft.1
          have HSZ := Lib.hid (sz_at HT.out)
          have HST := Lib.hid (sz_take HT.out)
          clear hft
          have HSE := Lib.hid (sz_eq t)
          go_wp2_with fail
          refine (szTerm_of t.kind t.num t.name (V k) (szL t.args) r wr hs hr0 (by omega) (Lib.hid fun W L bW l0 l1 => HI.out t.args (V k) L W hN' (HC.out.kept (HB.out.trans (bW.mono HB.out.size))) HG.out HN.out l0 l1)).mono ?_
          rintro e w' ⟨q, rfl, hq1, hq2, hq, hb⟩
          have HQ := Lib.hid hq
          have HB2 := Lib.hid (HB.out.trans (hb.mono HB.out.size))
          clear hq hb
          by_cases hn : q < 0
          · go_wp2
            go_ret
            have := HSZ.out
            have := HSE.out
            exact ⟨-1, rfl, by omega, by omega, fun x => by omega, HB2.out⟩
          · go_wp2
            go_roundw
            case rel =>
              have h1 := HQ.out (by omega)
              have h2 := HR.out
              have h3 := HST.out
              have h4 := HSE.out
              exact ⟨k + 1, q, by omega, by go_num, rfl, by omega, by omega, by rw [h3]; omega, HB2.out⟩
            case measure => simp [intOf]; omega
        · go_wp2
          go_ret
          obtain rfl : k = l.length := by omega
          have := HR.out
          rw [List.take_length] at this
          exact ⟨r, rfl, by omega, by omega, fun _ => by have := length_szL l; omega, HB.out⟩
end Go.Proofs.Ytnmdnajbafpfiaa

namespace Go.Proofs.Ytnmdnajbafpfiaa
open Go.RowKit

theorem heap_new (w : World) (o : Obj) : (w.alloc o).heap[w.heap.size]? = some o := by
  show (w.heap.push o)[w.heap.size]? = _
  simp
theorem heap3_1 (w : World) (o1 o2 o3 : Obj) : (((w.alloc o1).alloc o2).alloc o3).heap[w.heap.size + 1]? = some o2 := by
  refine (Below.heap_alloc _ _ _ (by simp)).trans ?_
  have := heap_new (w.alloc o1) o2
  rwa [show (w.alloc o1).heap.size = w.heap.size + 1 from by simp] at this
theorem heap3_2 (w : World) (o1 o2 o3 : Obj) : (((w.alloc o1).alloc o2).alloc o3).heap[w.heap.size + 1 + 1]? = some o3 := by
  have := heap_new ((w.alloc o1).alloc o2) o3
  rwa [show ((w.alloc o1).alloc o2).heap.size = w.heap.size + 1 + 1 from by simp] at this
theorem box_cells {w : World} {b : Nat} {e : TypeId} {x0 x1 x2 x3 : Value} (h : w.heap[b]? = some (Obj.cells #[x0, x1, x2, x3] e)) :
    w.cell? ⟨b, 0, none⟩ = some x0 ∧ w.cell? ⟨b, 1, none⟩ = some x1 ∧ w.cell? ⟨b, 2, none⟩ = some x2 ∧ w.cell? ⟨b, 3, none⟩ = some x3 ∧ ∀ j, w.frozen? ⟨b, j, none⟩ = false :=
  ⟨cell_of_row w b 0 _ _ _ h, cell_of_row w b 1 _ _ _ h, cell_of_row w b 2 _ _ _ h, cell_of_row w b 3 _ _ _ h, fun j => frozen_of_row w b j _ _ h⟩
/-- The return of a struct of four cells that has just been stored into the result's variable. -/
theorem bodyPost_four {P : Program} {fn : Func} {R : Ending → World → Prop} {a : Act} {w : World} {p : Tmp} {ty e : TypeId} {b : Nat} {x0 x1 x2 x3 y0 y1 y2 y3 : Value} {d : TypeDesc} (h : fn.results = #[.cell p ty]) (hp : a.tmps.getD p undef = .pointer (some ⟨b, 0, none⟩)) (hd : a.defers = [])
    (hu : P.underlying ty = some d) (hdd : (match d with | .struct _ | .array _ _ => true | _ => false) = true) (hi : (P.info? ty).map (·.size) = some 4) (hb : w.heap[b]? = some (Obj.cells #[x0, x1, x2, x3] e))
    (hR : ∀ w', Only (fun k => k = b) w w' → R (.returned (.agg #[y0, y1, y2, y3])) w') :
    bodyPost P fn R .ret a ((((w.setCell ⟨b, 0, none⟩ y0).setCell ⟨b, 1, none⟩ y1).setCell ⟨b, 2, none⟩ y2).setCell ⟨b, 3, none⟩ y3) := by
  have h0 := heap_setCell_same w b 0 _ e y0 hb
  have h1 := heap_setCell_same _ b 1 _ e y1 h0
  have h2 := heap_setCell_same _ b 2 _ e y2 h1
  have h3 := heap_setCell_same _ b 3 _ e y3 h2
  refine bodyPost_ret (results_cell_row h _ _ b e #[y0, y1, y2, y3] (0, 0) d hp h3 hu hdd hi) hd (hR _ ?_)
  have one : ∀ (W : World) (j : Nat) (u : Value), Only (fun k => k = b) W (W.setCell ⟨b, j, none⟩ u) := fun W j u => ⟨rfl, rfl, rfl, by simp, fun k _ hk => Below.heap_setCell _ _ _ _ hk⟩
  exact (((one _ _ _).trans (one _ _ _)).trans (one _ _ _)).trans (one _ _ _)
def iv (a b : Nat) (k : Nat) : Prop := a ≤ k ∧ k < b
theorem infoTerm : (Try.prog.info? 28).map (fun i => (i.zero, i.size, i.bytes)) = some (some (.agg #[.int .i64 0, .int .i64 0, .string ⟨#[]⟩, .slice none 0 0]), 4, 56) := by kernel_rfl

/-- The answer is a new tree of the call's own. -/
def NewTree (l : List Tm) (w : World) (u : Value) (w' : World) : Prop := Own w' 28 (iv w.heap.size w'.heap.size) u l ∧ Below w.heap.size w w'

theorem NewTree.after {l : List Tm} {w W w1 w' : World} {u : Value} (h : NewTree l W u w1) (hW : Below w.heap.size w W) (ho : Only (iv w.heap.size W.heap.size) w1 w') : NewTree l w u w' := by
  obtain ⟨h1, h2⟩ := h
  have h3 := h2.size
  have h4 := hW.size
  refine ⟨(h1.only ho fun k hk hx => by unfold iv at hk hx; omega).sub fun k hk => ?_, (hW.trans (h2.mono h4)).trans (ho.below (fun k hk => hk.1) (by omega))⟩
  unfold iv at hk ⊢
  have := ho.size
  omega
theorem only_setCell (w : World) (a : Addr) (u : Value) : Only (fun k => k = a.block) w (w.setCell a u) := ⟨rfl, rfl, rfl, by simp, fun k _ hk => Below.heap_setCell _ _ _ _ hk⟩

set_option maxHeartbeats 400000 in
theorem toTerm_of (k i : Int) (s : ByteArray) (V : Value) (l : List Tm) (w : World)
    (HR : Hid (∀ W, Below w.heap.size w W → Calls Try.prog 60 #[V] W fun e w' => ∃ u, e = .returned u ∧ NewTree l W u w')) :
    Calls Try.prog 31 #[.agg #[.int .i64 k, .int .i64 i, .string s, V]] w fun e w' => ∃ u, e = .returned (.agg #[.int .i64 k, .int .i64 i, .string s, u]) ∧ NewTree l w u w' := by
  go_enter Try.func31, Try.ntmps31
  go_wp2_with fail
  refine (HR.out _ ((((Below.refl _ _).alloc (Nat.le_refl _) _).alloc (by simp) _).alloc (by simp; omega) _)).mono ?_
  rintro e w1 ⟨u, rfl, hown, hb⟩
  obtain ⟨a, cap, rfl⟩ := hown.argsAt.slice
  have h1 := (hb.block (w.heap.size + 1) (by simp)).trans (heap3_1 _ _ _ _)
  have h2 := (hb.block (w.heap.size + 1 + 1) (by simp)).trans (heap3_2 _ _ _ _)
  obtain ⟨c10, c11, c12, c13, f1⟩ := box_cells h1
  obtain ⟨c20, c21, c22, c23, f2⟩ := box_cells h2
  have H1 := Lib.hid h1
  clear h1 h2
  have HB := Lib.hid hb
  have HO := Lib.hid hown
  clear hb hown
  go_wp2_with fail
  refine bodyPost_four (e := 28) (b := w.heap.size + 1) rfl rfl rfl Try.underlying28 rfl (by kernel_rfl) ((Below.heap_setCell _ _ _ _ (by simp)).trans H1.out) ?_
  intro w' hw
  refine ⟨_, rfl, NewTree.after ⟨HO.out, HB.out⟩ ((((Below.refl _ _).alloc (Nat.le_refl _) _).alloc (by simp) _).alloc (by simp; omega) _) (((only_setCell w1 _ _).sub fun k hk => ?_).trans (hw.sub fun k hk => ?_))⟩
  · subst hk; unfold iv; simp; omega
  · subst hk; unfold iv; simp

def tm0 : Tm × Value := (.mk 0 0 ⟨#[]⟩ [], .slice none 0 0)
theorem zeros_cells (n : Nat) : (madeCells (Value.cells (.agg #[.int .i64 0, .int .i64 0, .string ⟨#[]⟩, .slice none 0 0])) (n * 4)).toList = cellsL (List.replicate n tm0) := by
  apply List.ext_getElem?
  intro j
  by_cases hj : j < n * 4
  · have h1 : (List.replicate n tm0)[j / 4]? = some tm0 := by rw [List.getElem?_replicate, if_pos (by omega)]
    have e : ∀ i v, (cells4 tm0.1 tm0.2)[i]? = some v → j % 4 = i → (cellsL (List.replicate n tm0))[j]? = some v := by
      intro i v hv hm
      have := cellsL_at h1 (i := i) hv
      rwa [show j / 4 * 4 + i = j from by omega] at this
    have hl : (madeCells (Value.cells (.agg #[.int .i64 0, .int .i64 0, .string ⟨#[]⟩, .slice none 0 0])) (n * 4)).toList[j]? = some (#[Value.int .i64 0, .int .i64 0, .string ⟨#[]⟩, .slice none 0 0][j % 4]!) := by
      simp [madeCells, hj, Value.cells]
    rw [hl]
    have hm : j % 4 = 0 ∨ j % 4 = 1 ∨ j % 4 = 2 ∨ j % 4 = 3 := by omega
    rcases hm with hm | hm | hm | hm
    · rw [e 0 _ rfl hm, hm]; rfl
    · rw [e 1 _ rfl hm, hm]; rfl
    · rw [e 2 _ rfl hm, hm]; rfl
    · rw [e 3 _ rfl hm, hm]; rfl
  · rw [List.getElem?_eq_none (by rw [Array.length_toList, size_madeCells]; omega), List.getElem?_eq_none (by rw [cellsL_length, List.length_replicate]; omega)]

theorem own_made {w1 : World} {g n : Nat} {S : Nat → Prop} (h : w1.ownsRow 0 28 4 (.slice (some ⟨g, 0, none⟩) n n) n (madeCells (Value.cells (.agg #[.int .i64 0, .int .i64 0, .string ⟨#[]⟩, .slice none 0 0])) (n * 4)).toList) (hS : S g) :
    Own w1 28 S (.slice (some ⟨g, 0, none⟩) n n) (List.replicate n tm0.1) := by
  rw [zeros_cells] at h
  refine .row S g n n (List.replicate n tm0) (fun _ _ => False) _ (by rw [List.map_replicate]) (by simp) hS h ?_ (fun _ _ _ x => x.elim) (fun _ _ _ _ _ x => x.elim)
  intro j p hp
  have : p = tm0 := by
    rw [List.getElem?_replicate] at hp
    split at hp
    · simpa using hp.symm
    · cases hp
  subst this
  exact .nil _

set_option maxHeartbeats 400000 in
theorem toTerms_any (N : Nat) : ∀ (l : List Tm) (V : Value) (w : World), nodesL l < N → ArgsAt w V l → l.length ≤ 1048576 → szL l ≤ 1048576 →
    Calls Try.prog 60 #[V] w fun e w' => ∃ u, e = .returned u ∧ NewTree l w u w' := by
  induction N with
  | zero => intro l V w hN; omega
  | succ N ih =>
    intro l V w hN hA hL hZ
    obtain ⟨i0, hi, hz0, hz1, hz2⟩ := info_parts infoTerm
    obtain ⟨a, cap, rfl⟩ := hA.slice
    have HA := Lib.hid hA
    have HI := Lib.hid ih
    clear hA ih
    go_enter Try.func60, Try.ntmps60
    go_wp2_with (at_make; refine wpList_make_full _ rfl _ _ 26 rfl 0 28 i0 _ 4 Try.underlying26 hi hz0 hz1 _ _ _ _ l.length rfl rfl rfl rfl (by rw [hz2]; omega) (by unfold maxLen; omega) (Nat.zero_le _) ?_; intro w1 hown hg; have HO1 := Lib.hid hown; have HG1 := Lib.hid hg; clear hown hg)
    have HB1 := Lib.hid (below_of_grown (B := w.heap.size) HG1.out (Nat.le_refl _) (fun k hk => by cases hk))
    have hgt : w.heap.size < w1.heap.size := row_hit HO1.out
    have HO := Lib.hid (own_made (S := iv w.heap.size w1.heap.size) HO1.out (by unfold iv; omega))
    clear HO1 HG1
    go_loopw [4] (fun i wr => ∃ (k : Nat) (xs : List Tm), k ≤ l.length ∧ i = .int .i64 k ∧ xs.length = l.length ∧ (∀ i, i < k → xs[i]? = l[i]?) ∧ Own wr 28 (iv w.heap.size wr.heap.size) (.slice (some ⟨w.heap.size, 0, none⟩) l.length l.length) xs ∧
        Below w.heap.size w wr ∧ w.heap.size < wr.heap.size) (fun i _ => l.length - (intOf i).toNat)
    case atStart => exact ⟨0, _, Nat.zero_le _, rfl, by simp, fun i hi => absurd hi (Nat.not_lt_zero _), HO.out, HB1.out, hgt⟩
    case round =>
      obtain ⟨k, xs, hk, rfl, hl, hxs, hown, hb, hgr⟩ := hrel
      have HL := Lib.hid hl
      have HX := Lib.hid hxs
      have HW := Lib.hid hown
      have HB := Lib.hid hb
      clear hl hxs hown hb HO
      by_cases hlt : k < l.length
      · obtain ⟨t, ht⟩ : ∃ t, l[k]? = some t := ⟨_, List.getElem?_eq_getElem hlt⟩
        obtain ⟨x, hx⟩ : ∃ x, xs[k]? = some x := ⟨_, List.getElem?_eq_getElem (by rw [HL.out]; omega)⟩
        obtain ⟨g, off, cap', V, hv, hg, hc, hch⟩ := HA.out.parts (by intro e; subst e; simp at hlt)
        simp only [Value.slice.injEq] at hv
        obtain ⟨rfl, _, rfl⟩ := hv
        obtain ⟨c0, c1, c2, c3⟩ := hc k t ht
        have d0 := (HB.out.cell (p := ⟨g, off + k * 4, none⟩) hg).trans c0
        have d1 := (HB.out.cell (p := ⟨g, off + k * 4 + 1, none⟩) hg).trans c1
        have d2 := (HB.out.cell (p := ⟨g, off + k * 4 + 2, none⟩) hg).trans c2
        have d3 := (HB.out.cell (p := ⟨g, off + k * 4 + 3, none⟩) hg).trans c3
        obtain ⟨a', cap3, hV⟩ := (hch k t ht).slice
        rw [hV] at d3
        have HT := Lib.hid ht
        have HC := Lib.hid (hch k t ht)
        rw [hV] at HC
        have hN' : nodesL t.args < N := by have := nodes_at HT.out; rw [nodes_eq] at this; omega
        have hZ' : szL t.args ≤ 1048576 := by have h1 := sz_at HT.out; have h2 := sz_eq t; omega
        have hL' : t.args.length ≤ 1048576 := by have := length_szL t.args; omega
        have HXX := Lib.hid hx
        clear hc hch c0 c1 c2 c3 ht hV hx
        go_wp2_with fail
        refine (toTerm_of t.kind t.num t.name _ t.args wr (Lib.hid fun W bW => HI.out t.args _ W hN' (HC.out.kept (HB.out.trans (bW.mono HB.out.size))) hL' hZ')).mono ?_
        rintro e w2 ⟨u, rfl, hnt, hb2⟩
        have HO2 := Lib.hid (HW.out.kept hb2)
        have hb3 := HB.out.trans (hb2.mono HB.out.size)
        have HB3 := Lib.hid hb3
        have hsz2 := hb2.size
        obtain ⟨u1, u2, rfl⟩ := hnt.argsAt.slice
        obtain ⟨g4, cap4, V4, C4, hv4, _, _, _, f4, e0, e1, e2, e3, _⟩ := HO2.out.at HXX.out
        simp only [Value.slice.injEq, Option.some.injEq, Addr.mk.injEq] at hv4
        obtain ⟨⟨rfl, _⟩, hq, rfl⟩ := hv4
        clear hq
        have HP := Lib.hid (HO2.out.put HXX.out hnt fun k hk hx => by unfold iv at hk hx; omega)
        clear hnt hb2 hb3
        have htl := List.getElem?_eq_some_iff.1 HXX.out
        go_wp2
        go_roundw
        case rel =>
          have hP := HP.out
          have hbl : Below w.heap.size w _ := HB3.out.trans (hP.1.below (fun k hk => hk.1) (by omega))
          refine ⟨k + 1, xs.set k t, by omega, by go_num, by simpa using HL.out, ?_, hP.2.sub fun m hm => ?_, hbl, ?_⟩
          · intro i hi
            by_cases e : i = k
            · subst e
              rw [List.getElem?_set_self htl.1, HT.out]
            · rw [List.getElem?_set_ne (fun x => e x.symm)]
              exact HX.out i (by omega)
          · have := hP.1.size
            unfold iv at hm ⊢
            omega
          · have := hP.1.size
            omega
        case measure => simp [intOf]; omega
      · go_wp2
        go_ret
        obtain rfl : k = l.length := by omega
        have e : xs = l := by
          apply List.ext_getElem?
          intro i
          by_cases hi : i < l.length
          · exact HX.out i hi
          · rw [List.getElem?_eq_none (by rw [HL.out]; omega), List.getElem?_eq_none (by omega)]
        have h := HW.out
        rw [e] at h
        exact ⟨_, rfl, h, HB.out⟩
end Go.Proofs.Ytnmdnajbafpfiaa

namespace Go.Proofs.Ytnmdnajbafpfiaa
open Go.RowKit

def Yes (w : World) (e : Ending) (w' : World) : Prop := e = .returned (.bool true) ∧ Below w.heap.size w w'

set_option maxHeartbeats 400000 in
theorem eqTerm_of (k i : Int) (s : ByteArray) (V V' : Value) (w : World)
    (HR : Hid (∀ W, Below w.heap.size w W → Calls Try.prog 63 #[V, V'] W (Yes W))) :
    Calls Try.prog 33 #[.agg #[.int .i64 k, .int .i64 i, .string s, V], .agg #[.int .i64 k, .int .i64 i, .string s, V']] w (Yes w) := by
  have B0 := Lib.hid (((Below.refl w.heap.size w).alloc (Nat.le_refl _) (.cells #[.int .i64 k, .int .i64 i, .string s, V] 28)).alloc (by simp) (.cells #[.int .i64 k, .int .i64 i, .string s, V'] 28))
  go_enter Try.func33, Try.ntmps33
  go_wp2_with fail
  refine (HR.out _ B0.out).mono ?_
  rintro e w' ⟨rfl, hb⟩
  have HB := Lib.hid (B0.out.trans (hb.mono (by simp; omega)))
  clear hb
  go_wp2
  go_ret
  exact ⟨rfl, HB.out⟩

set_option maxHeartbeats 400000 in
theorem eqTerms_any (N : Nat) : ∀ (l : List Tm) (V V' : Value) (w : World), nodesL l < N → ArgsAt w V l → ArgsAt w V' l → szL l ≤ 1048576 →
    Calls Try.prog 63 #[V, V'] w (Yes w) := by
  induction N with
  | zero => intro l V V' w hN; omega
  | succ N ih =>
    intro l V V' w hN hA hA' hZ
    obtain ⟨a, cap, rfl⟩ := hA.slice
    obtain ⟨a', cap', rfl⟩ := hA'.slice
    have HA := Lib.hid hA
    have HA' := Lib.hid hA'
    have HI := Lib.hid ih
    have hL := length_szL l
    clear hA hA' ih
    go_enter Try.func63, Try.ntmps63
    go_wp2
    go_loopw [5] (fun i wr => ∃ k : Nat, k ≤ l.length ∧ i = .int .i64 k ∧ Below w.heap.size w wr) (fun i _ => l.length - (intOf i).toNat)
    case atStart => exact ⟨0, Nat.zero_le _, rfl, Below.refl _ _⟩
    case round =>
      obtain ⟨k, hk, rfl, hb⟩ := hrel
      have HB := Lib.hid hb
      clear hb
      by_cases hlt : k < l.length
      · obtain ⟨t, ht⟩ : ∃ t, l[k]? = some t := ⟨_, List.getElem?_eq_getElem hlt⟩
        obtain ⟨g, off, cap1, V, hv, hg, hc, hch⟩ := HA.out.parts (by intro e; subst e; simp at hlt)
        obtain ⟨g', off', cap2, V', hv', hg', hc', hch'⟩ := HA'.out.parts (by intro e; subst e; simp at hlt)
        simp only [Value.slice.injEq, true_and] at hv hv'
        obtain ⟨rfl, rfl⟩ := hv
        obtain ⟨rfl, rfl⟩ := hv'
        obtain ⟨c0, c1, c2, c3⟩ := hc k t ht
        obtain ⟨c0', c1', c2', c3'⟩ := hc' k t ht
        have HCE : Hid (∀ W, Below wr.heap.size wr W → W.cell? ⟨g, off + k * 4, none⟩ = some (.int .i64 t.kind) ∧ W.cell? ⟨g, off + k * 4 + 1, none⟩ = some (.int .i64 t.num) ∧ W.cell? ⟨g, off + k * 4 + 2, none⟩ = some (.string t.name) ∧ W.cell? ⟨g, off + k * 4 + 3, none⟩ = some (V k) ∧
            W.cell? ⟨g', off' + k * 4, none⟩ = some (.int .i64 t.kind) ∧ W.cell? ⟨g', off' + k * 4 + 1, none⟩ = some (.int .i64 t.num) ∧ W.cell? ⟨g', off' + k * 4 + 2, none⟩ = some (.string t.name) ∧ W.cell? ⟨g', off' + k * 4 + 3, none⟩ = some (V' k)) := Lib.hid fun W bW => by
          have hb := HB.out.trans (bW.mono HB.out.size)
          exact ⟨(hb.cell (p := ⟨g, off + k * 4, none⟩) hg).trans c0, (hb.cell (p := ⟨g, off + k * 4 + 1, none⟩) hg).trans c1, (hb.cell (p := ⟨g, off + k * 4 + 2, none⟩) hg).trans c2, (hb.cell (p := ⟨g, off + k * 4 + 3, none⟩) hg).trans c3,
            (hb.cell (p := ⟨g', off' + k * 4, none⟩) hg').trans c0', (hb.cell (p := ⟨g', off' + k * 4 + 1, none⟩) hg').trans c1', (hb.cell (p := ⟨g', off' + k * 4 + 2, none⟩) hg').trans c2', (hb.cell (p := ⟨g', off' + k * 4 + 3, none⟩) hg').trans c3'⟩
        have HEQ : Hid (∀ W, Below wr.heap.size wr W → Calls Try.prog 33 #[.agg #[.int .i64 t.kind, .int .i64 t.num, .string t.name, V k], .agg #[.int .i64 t.kind, .int .i64 t.num, .string t.name, V' k]] W (Yes W)) := Lib.hid fun W bW => by
          have hb := HB.out.trans (bW.mono HB.out.size)
          have hN' : nodesL t.args < N := by have := nodes_at ht; rw [nodes_eq] at this; omega
          have hZ' : szL t.args ≤ 1048576 := by have h1 := sz_at ht; have h2 := sz_eq t; omega
          exact eqTerm_of _ _ _ _ _ W (Lib.hid fun W' bW' => HI.out t.args _ _ W' hN' ((hch k t ht).kept (hb.trans (bW'.mono hb.size))) ((hch' k t ht).kept (hb.trans (bW'.mono hb.size))) hZ')
        clear hc hc' hch hch' c0 c1 c2 c3 c0' c1' c2' c3' ht
        have hb0 : Below wr.heap.size wr wr := Below.refl _ _
        have hbd : Below wr.heap.size wr wr.drew := hb0.drew
        obtain ⟨d0, d1, d2, d3, d0', d1', d2', d3'⟩ := HCE.out wr hb0
        have HTR : Hid (∀ a b, Below wr.heap.size wr a → Below a.heap.size a b → Below wr.heap.size wr b) := Lib.hid fun a b h1 h2 => h1.trans (h2.mono h1.size)
        generalize t.kind = tk at HCE HEQ d0 d0'
        generalize t.num = ti at HCE HEQ d1 d1'
        generalize t.name = ts at HCE HEQ d2 d2'
        generalize V k = tv at HCE HEQ d3
        generalize V' k = tv' at HCE HEQ d3'
        go_wp2_with fail
        go_region_held3 (fun w' => Below wr.heap.size wr w' ∧ w'.cell? ⟨g, off + k * 4, none⟩ = some (.int .i64 tk) ∧ w'.cell? ⟨g, off + k * 4 + 1, none⟩ = some (.int .i64 ti) ∧ w'.cell? ⟨g, off + k * 4 + 2, none⟩ = some (.string ts) ∧ w'.cell? ⟨g, off + k * 4 + 3, none⟩ = some tv ∧
            w'.cell? ⟨g', off' + k * 4, none⟩ = some (.int .i64 tk) ∧ w'.cell? ⟨g', off' + k * 4 + 1, none⟩ = some (.int .i64 ti) ∧ w'.cell? ⟨g', off' + k * 4 + 2, none⟩ = some (.string ts) ∧ w'.cell? ⟨g', off' + k * 4 + 3, none⟩ = some tv') (go_keep)
          (first
            | (go_at_call 33; refine Calls.mono (HEQ.out _ ?_) ?_; (assumption); rintro e w' ⟨rfl, hb⟩; have hB' := HTR.out _ _ (by assumption) hb; obtain ⟨k0, k1, k2, k3, k4, k5, k6, k7⟩ := HCE.out _ hB'))
        all_goals (go_wp2; go_roundw; (case rel => exact ⟨k + 1, by omega, by go_num, HB.out.trans ((by assumption : Below wr.heap.size wr _).mono HB.out.size)⟩); (case measure => simp [intOf]; omega))
      · go_wp2
        go_ret
        exact ⟨rfl, HB.out⟩
end Go.Proofs.Ytnmdnajbafpfiaa

