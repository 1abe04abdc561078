/-
  The program's termsOk, UnifyAll, Unify.
-/
import Derived.Test.YtnbnepeikdieaabGreatKnotV
import Derived.Test.YtnbnepeikdieaabGreatImplApp
namespace Go.Proofs.YtnbnepeikdieaabGreat
open Go.RowKit
set_option linter.unusedVariables false
set_option linter.unusedSimpArgs false

/-- Whether all terms of a list are valid. -/
noncomputable def allOkB (l : List Tm) : Bool := l.all okB
theorem not_any_ok (l : List Tm) : (!(l.any fun x => !okB x)) = allOkB l := by
  unfold allOkB
  induction l with
  | nil => rfl
  | cons x l ih => simp [← ih]

theorem allOk_true {l : List Tm} : allOkB l = true ↔ ∀ t ∈ l, Ok t := by
  unfold allOkB
  rw [List.all_eq_true]
  exact ⟨fun h t ht => by have := h t ht; simpa [okB] using this, fun h t ht => by simpa [okB] using h t ht⟩
theorem eqN_zip : ∀ (l r : List Tm), eqN (l.zip r) ≤ nodesL l + nodesL r
  | [], r => by simp [eqN]
  | x :: l, [] => by simp [eqN]
  | x :: l, y :: r => by
    have := eqN_zip l r
    unfold eqN at this ⊢
    simp only [List.zip_cons_cons, List.map_cons, List.sum_cons, nodesL]
    omega

theorem argsAt_one {w : World} {g : Nat} {t : Tm} {V : Value} {e : TypeId} (h : w.heap[g]? = some (.cells #[.int .i64 t.kind, .int .i64 t.num, .string t.name, V] e)) (hV : ArgsAt w V t.args) : ArgsAt w (.slice (some ⟨g, 0, none⟩) 1 1) [t] := by
  obtain ⟨c0, c1, c2, c3, _⟩ := box_cells h
  refine .row g 0 1 1 (fun _ => V) [t] rfl (Array.getElem?_eq_some_iff.1 h).1 (fun j u hj i v hv => ?_) (fun j u hj => ?_)
  · match j, hj with
    | 0, hj =>
      simp at hj
      subst hj
      match i, hv with
      | 0, hv => have : some (Value.int .i64 t.kind) = some v := hv; rw [← this]; simpa using c0
      | 1, hv => have : some (Value.int .i64 t.num) = some v := hv; rw [← this]; simpa using c1
      | 2, hv => have : some (Value.string t.name) = some v := hv; rw [← this]; simpa using c2
      | 3, hv => have : some V = some v := hv; rw [← this]; simpa using c3
      | i + 4, hv => simp [cells4] at hv
    | j + 1, hj => simp at hj
  · match j, hj with
    | 0, hj => simp at hj; subst hj; exact hV
    | j + 1, hj => simp at hj

end Go.Proofs.YtnbnepeikdieaabGreat

