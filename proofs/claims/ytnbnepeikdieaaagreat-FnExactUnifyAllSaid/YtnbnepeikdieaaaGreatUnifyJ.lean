/-
  The program's JoinSubst.
-/
import Derived.Test.YtnbnepeikdieaaaGreatUnifyA
import Derived.Test.YtnbnepeikdieaaaGreatItems
namespace Go.Proofs.YtnbnepeikdieaaaGreat
open Go.RowKit
set_option linter.unusedVariables false
set_option linter.unusedSimpArgs false

/-- A row of terms that the call owns, their arguments below it. -/
def RowT (w : World) (lo : Nat) (v : Value) (xs : List Tm) : Prop :=
  ∃ L : List (Tm × Value), L.map Prod.fst = xs ∧ w.ownsRow lo 34 4 v L.length (cellsL L) ∧ ∀ (j : Nat) (p : Tm × Value), L[j]? = some p → ArgsS w (fun k => k < lo) p.2 p.1.args
theorem RowT.slice {w : World} {lo : Nat} {v : Value} {xs : List Tm} (h : RowT w lo v xs) : ∃ a c, v = .slice a xs.length c := by
  obtain ⟨L, rfl, h, _⟩ := h
  rw [List.length_map]
  exact row_slice h
theorem RowT.block {w : World} {lo : Nat} {v : Value} {xs : List Tm} (h : RowT w lo v xs) : ∀ k, v.ownBlock = some k → lo ≤ k ∧ k < w.heap.size := by
  obtain ⟨L, _, h, _⟩ := h
  exact fun k hk => World.ownsRow.lt h k hk
theorem RowT.grown {w w' : World} {lo : Nat} {v : Value} {xs : List Tm} {row : Option Nat} (h : RowT w lo v xs) (hlo : lo ≤ w.heap.size) (hg : w.grownBy w' row) (hne : v.ownBlock = none ∨ v.ownBlock ≠ row) (hr : ∀ k, row = some k → lo ≤ k) : RowT w' lo v xs := by
  obtain ⟨L, h1, h2, h3⟩ := h
  exact ⟨L, h1, h2.kept hg hne, fun j p hj => (h3 j p hj).frame hg.size fun k hk hks => hg.block k hks fun e => by have := hr k e.symm; omega⟩
theorem RowT.kept {w w' : World} {lo : Nat} {v : Value} {xs : List Tm} (h : RowT w lo v xs) (hb : Below w.heap.size w w') : RowT w' lo v xs := by
  obtain ⟨L, h1, h2, h3⟩ := h
  refine ⟨L, h1, ⟨h2.1, ?_⟩, fun j p hj => (h3 j p hj).kept hb⟩
  rcases h2.2 with hn | ⟨g, cap, cur, rfl, k1, k2, k3⟩
  · exact .inl hn
  · exact .inr ⟨g, cap, cur, rfl, k1, (hb.block g (Array.getElem?_eq_some_iff.1 k2).1).trans k2, k3⟩
theorem RowT.args {w : World} {lo : Nat} {v : Value} {xs : List Tm} (h : RowT w lo v xs) : ArgsAt w v xs := by
  obtain ⟨L, rfl, hrow, hch⟩ := h
  exact (argsS_row (S := fun _ => True) hrow (fun k hk => trivial) fun j p hj => (hch j p hj).sub fun _ _ => trivial).at
theorem rowT_append {w W1 w1 : World} {lo : Nat} {v u : Value} {L : List (Tm × Value)} {x : Tm} {gg cap n : Nat} (hn : n = L.length) (hlo : lo ≤ w.heap.size)
    (hch : ∀ (j : Nat) (p : Tm × Value), L[j]? = some p → ArgsS w (fun k => k < lo) p.2 p.1.args) (hu : ArgsS w (fun k => k < lo) u x.args) (hv : ∀ k, v.ownBlock = some k → lo ≤ k) (hW : Below w.heap.size w W1)
    (hown : w1.ownsRow lo 34 4 (.slice (some ⟨gg, 0, none⟩) (n + 1) cap) (n + 1) (cellsL L ++ cells4 x u)) (hgr : W1.grownBy w1 v.ownBlock) :
    RowT w1 lo (.slice (some ⟨gg, 0, none⟩) (n + 1) cap) (L.map Prod.fst ++ [x]) := by
  subst hn
  have hs : w.heap.size ≤ w1.heap.size := Nat.le_trans hW.size hgr.size
  have same : ∀ j, j < lo → w1.heap[j]? = w.heap[j]? := fun j hj => (hgr.block j (by have := hW.size; omega) (fun e => by have := hv j e.symm; omega)).trans (hW.block j (by omega))
  have e1 : cellsL (L ++ [(x, u)]) = cellsL L ++ cells4 x u := by rw [cellsL_append]; simp [cellsL]
  rw [← e1] at hown
  refine ⟨L ++ [(x, u)], by simp, by simpa using hown, fun j p hj => ?_⟩
  by_cases hjl : j < L.length
  · rw [List.getElem?_append_left hjl] at hj
    exact (hch j p hj).frame hs fun k hk _ => same k hk
  · have hj' : j = L.length := by
      have := (List.getElem?_eq_some_iff.1 hj).1
      simp at this
      omega
    subst hj'
    rw [List.getElem?_append_right (Nat.le_refl _), Nat.sub_self] at hj
    simp at hj
    subst hj
    exact hu.frame hs fun k hk _ => same k hk
theorem eqns_zip (t : List Bd) : (t.map fun b => varTm b.v).zip (t.map fun b => b.t) = eqnsB t := by
  unfold eqnsB
  induction t with
  | nil => rfl
  | cons b t ih => simp [ih]
theorem js_yes {s t : List Bd} (h : SubstP s ∧ SubstP t) : jsL s t = muL s (eqnsB t) ∧ jsB s t = muB s (eqnsB t) := ⟨by rw [jsL, if_pos h], by rw [jsB, if_pos h]⟩
theorem js_no {s t : List Bd} (h : ¬ (SubstP s ∧ SubstP t)) : jsL s t = [] ∧ jsB s t = false := ⟨by rw [jsL, if_neg h], by rw [jsB, if_neg h]⟩
theorem map_take_snoc {α β : Type} (f : α → β) {l : List α} {k : Nat} {x : α} (h : l[k]? = some x) : (l.take (k + 1)).map f = (l.take k).map f ++ [f x] := by
  rw [List.take_add_one, h]
  simp

end Go.Proofs.YtnbnepeikdieaaaGreat

