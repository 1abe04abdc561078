/-
  What is built by pairs, plain: the terms of exactly s nodes in the order in which the program's iterator hands them on.
-/
import Derived.Test.YtjpkkhhcpcokaaaIterTm
namespace Go.Proofs.Ytjpkkhhcpcokaaa
open Go.RowKit
set_option linter.unusedVariables false
set_option linter.unusedSimpArgs false

def pairT (h t : Tm) : Tm := .mk 4 0 ⟨#[]⟩ [h, t]
/-- N: more than the size. -/
def bf (u : List Tm) : Nat → Nat → List Tm
  | 0, _ => []
  | N + 1, s => if s = 1 then u else (List.range (s - 2)).flatMap fun i => (bf u N (s - 2 - i)).flatMap fun h => (bf u N (i + 1)).map (pairT h)
/-- What comes in the round of the number i. -/
def bfRow (u : List Tm) (N s i : Nat) : List Tm := (bf u N (s - 2 - i)).flatMap fun h => (bf u N (i + 1)).map (pairT h)
def bfDone (u : List Tm) (N s i : Nat) : List Tm := (List.range i).flatMap (bfRow u N s)
theorem bf_one (u : List Tm) (N : Nat) : bf u (N + 1) 1 = u := by rw [bf, if_pos rfl]
theorem bf_more (u : List Tm) (N s : Nat) (h : ¬ s = 1) : bf u (N + 1) s = bfDone u N s (s - 2) := by rw [bf, if_neg h]; rfl
theorem bfDone_zero (u : List Tm) (N s : Nat) : bfDone u N s 0 = [] := rfl
theorem bfDone_succ (u : List Tm) (N s i : Nat) : bfDone u N s (i + 1) = bfDone u N s i ++ bfRow u N s i := by
  unfold bfDone
  rw [List.range_succ, List.flatMap_append, List.flatMap_singleton]
theorem pre_flat {α β : Type} (f : α → List β) {pre L : List α} {x : α} {q : List β} (h : pre ++ [x] <+: L) (hq : q <+: f x) : pre.flatMap f ++ q <+: L.flatMap f := by
  obtain ⟨r, rfl⟩ := h
  obtain ⟨t, ht⟩ := hq
  refine ⟨t ++ r.flatMap f, ?_⟩
  rw [List.flatMap_append, List.flatMap_append, List.flatMap_singleton, ← ht]
  simp only [List.append_assoc]
theorem pre_map {α β : Type} (f : α → β) {pre L : List α} {x : α} (h : pre ++ [x] <+: L) : pre.map f ++ [f x] <+: L.map f := by
  obtain ⟨r, rfl⟩ := h
  exact ⟨r.map f, by simp⟩
theorem pre_range {n i : Nat} (h : i < n) : List.range i ++ [i] <+: List.range n := by
  rw [← List.range_succ]
  refine ⟨(List.range n).drop (i + 1), ?_⟩
  have h2 : (List.range n).take (i + 1) = List.range (i + 1) := by rw [List.take_range]; congr 1; omega
  rw [← h2, List.take_append_drop]
/-- What has come, with one more term, is the beginning of all. -/
theorem bf_pre {u : List Tm} {N s i : Nat} {hs ts : List Tm} {h t : Tm} (hi : i < s - 2) (hs1 : ¬ s = 1) (hh : hs ++ [h] <+: bf u N (s - 2 - i)) (ht : ts ++ [t] <+: bf u N (i + 1)) :
    (bfDone u N s i ++ (hs.flatMap (fun h => (bf u N (i + 1)).map (pairT h)) ++ ts.map (pairT h))) ++ [pairT h t] <+: bf u (N + 1) s := by
  rw [bf_more u N s hs1]
  have h1 : hs.flatMap (fun h => (bf u N (i + 1)).map (pairT h)) ++ (ts.map (pairT h) ++ [pairT h t]) <+: bfRow u N s i := pre_flat _ hh (pre_map (pairT h) ht)
  have h2 : bfDone u N s i ++ (hs.flatMap (fun h => (bf u N (i + 1)).map (pairT h)) ++ (ts.map (pairT h) ++ [pairT h t])) <+: bfDone u N s (s - 2) := pre_flat (bfRow u N s) (pre_range hi) h1
  simpa only [List.append_assoc] using h2
/-- Every term that is built is of the right form and made of at most three of the atoms' nodes. -/
theorem bf_good {u : List Tm} (hu : ∀ t ∈ u, Good t) : ∀ (N s : Nat) (t : Tm), t ∈ bf u N s → Good t
  | 0, _, t, h => by cases h
  | N + 1, s, t, h => by
    rw [bf] at h
    split at h
    · exact hu t h
    · simp only [List.mem_flatMap, List.mem_map] at h
      obtain ⟨i, _, a, ha, b, hb, rfl⟩ := h
      exact .pair a b (bf_good hu N _ a ha) (bf_good hu N _ b hb)
end Go.Proofs.Ytjpkkhhcpcokaaa

