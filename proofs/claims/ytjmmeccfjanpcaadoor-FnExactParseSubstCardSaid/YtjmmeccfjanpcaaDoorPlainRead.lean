/-
  Reading in rounds, plain: what is left of a list when some of its elements have come.
-/
import Derived.Test.YtjmmeccfjanpcaaDoorReader
import Derived.Test.YtjmmeccfjanpcaaDoorListOk
namespace Go.Proofs.YtjmmeccfjanpcaaDoor
open Go.RowKit
set_option linter.unusedVariables false
set_option linter.unusedSimpArgs false

theorem listT_snoc (xs : List Tm) (x y : Tm) : listT (xs ++ [x]) y = listT xs (pairT x y) := by
  induction xs with
  | nil => rfl
  | cons a l ih => rw [List.cons_append, listT_cons, ih, listT_cons]
theorem read_le (L : ByteArray → Option Tm) (T : List ByteArray) (k : Nat) : (∀ i t j, anyP L k T i = some (t, j) → j ≤ T.length) ∧ (∀ i t j, elemP L k T i = some (t, j) → j ≤ T.length) ∧ (∀ i t j, restP L k T i = some (t, j) → j ≤ T.length) := by
  induction k with
  | zero => exact ⟨fun i t j h => (by rw [anyP] at h; cases h), fun i t j h => (by rw [elemP] at h; cases h), fun i t j h => (by rw [restP] at h; cases h)⟩
  | succ k ih =>
    obtain ⟨ia, ie, ir⟩ := ih
    refine ⟨fun i t j h => ?_, fun i t j h => ?_, fun i t j h => ?_⟩
    · rw [anyP] at h
      split at h
      · split at h
        · rename_i h2
          have := at_lt h2
          cases h; omega
        · exact ie _ _ _ h
      · split at h
        · cases h
        · rename_i x h1
          have := at_lt h1
          split at h
          · cases h
          · cases h; omega
    · rw [elemP] at h
      split at h
      · cases h
      · rename_i x j1 h1
        split at h
        · cases h
        · rename_i y j2 h2
          cases h
          exact ir _ _ _ h2
    · rw [restP] at h
      split at h
      · rename_i h1
        have := at_lt h1
        cases h; omega
      · split at h
        · split at h
          · cases h
          · rename_i y j1 h1
            split at h
            · rename_i h2
              have := at_lt h2
              cases h; omega
            · cases h
        · exact ie _ _ _ h

/-- What is left to be read of a list. -/
def Left (L : ByteArray → Option Tm) (T : List ByteArray) (o : Option (Tm × Nat)) (xs : List Tm) (i : Nat) : Prop :=
  (xs = [] ∧ ∃ k, 3 * (T.length - i) + 3 ≤ k ∧ o = if T[i]? = some tokR then some (zeroTm, i + 1) else elemP L k T i) ∨
  (xs ≠ [] ∧ ∃ k, 3 * (T.length - i) + 3 ≤ k ∧ o = (restP L k T i).map fun p => (listT xs p.1, p.2))
theorem left_start {L : ByteArray → Option Tm} {T : List ByteArray} {i k : Nat} (h : T[i]? = some tokL) (hk : 3 * (T.length - i) + 1 ≤ k + 1) : Left L T (anyP L (k + 1) T i) [] (i + 1) := by
  have hlt := at_lt h
  refine .inl ⟨rfl, k, by omega, ?_⟩
  by_cases h2 : T[i + 1]? = some tokR
  · rw [any_open h h2, if_pos h2]
  · rw [any_elem h h2, if_neg h2]
theorem left_step {L : ByteArray → Option Tm} {T : List ByteArray} {o : Option (Tm × Nat)} {xs : List Tm} {i : Nat} (h : Left L T o xs i) (hR : ¬ T[i]? = some tokR) (hD : ¬ T[i]? = some tokD) (hlt : i < T.length) (hgt : ∀ k t j, anyP L k T i = some (t, j) → i < j) :
    ∃ k, 3 * (T.length - i) + 1 ≤ k ∧ (anyP L k T i = none → o = none) ∧ ∀ x j, anyP L k T i = some (x, j) → Left L T o (xs ++ [x]) j := by
  rcases h with ⟨rfl, k, hk, ho⟩ | ⟨hne, k, hk, ho⟩
  · rw [if_neg hR] at ho
    obtain ⟨k, rfl⟩ : ∃ k', k = k' + 1 := ⟨k - 1, by omega⟩
    refine ⟨k, by omega, fun h => by rw [ho, elem_no1 h], fun x j h => .inr ⟨by simp, k, by have := hgt _ _ _ h; omega, ?_⟩⟩
    rw [ho, elemP, h]
    cases hr : restP L k T j with
    | none => simp only [hr]; rfl
    | some p => simp only [hr]; rfl
  · obtain ⟨k, rfl⟩ : ∃ k', k = k' + 2 := ⟨k - 2, by omega⟩
    rw [rest_elem hR hD] at ho
    refine ⟨k, by omega, fun h => by rw [ho, elem_no1 h]; rfl, fun x j h => .inr ⟨by simp, k, by have := hgt _ _ _ h; omega, ?_⟩⟩
    rw [ho, elemP, h]
    cases hr : restP L k T j with
    | none => simp only [hr]; rfl
    | some p => simp only [hr, Option.map_some, listT_snoc]
theorem left_end {L : ByteArray → Option Tm} {T : List ByteArray} {o : Option (Tm × Nat)} {xs : List Tm} {i : Nat} (h : Left L T o xs i) (he : T[i]? = none) : o = none := by
  have hR : ¬ T[i]? = some tokR := by rw [he]; simp
  have hD : ¬ T[i]? = some tokD := by rw [he]; simp
  rcases h with ⟨rfl, k, hk, ho⟩ | ⟨hne, k, hk, ho⟩
  · rw [if_neg hR] at ho
    obtain ⟨k, rfl⟩ : ∃ k', k = k' + 2 := ⟨k - 2, by omega⟩
    rw [ho, elem_no1 (any_end he)]
  · obtain ⟨k, rfl⟩ : ∃ k', k = k' + 3 := ⟨k - 3, by omega⟩
    rw [ho, rest_elem hR hD, elem_no1 (any_end he)]; rfl
theorem left_close {L : ByteArray → Option Tm} {T : List ByteArray} {o : Option (Tm × Nat)} {xs : List Tm} {i : Nat} (h : Left L T o xs i) (he : T[i]? = some tokR) : o = some (listT xs zeroTm, i + 1) := by
  rcases h with ⟨rfl, k, hk, ho⟩ | ⟨hne, k, hk, ho⟩
  · rw [ho, if_pos he]; rfl
  · obtain ⟨k, rfl⟩ : ∃ k', k = k' + 1 := ⟨k - 1, by omega⟩
    rw [ho, rest_close he]; rfl
theorem left_dot0 {L : ByteArray → Option Tm} {T : List ByteArray} {o : Option (Tm × Nat)} {i : Nat} (h : Left L T o [] i) (he : T[i]? = some tokD) (hL : L tokD = none) : o = none := by
  rcases h with ⟨_, k, hk, ho⟩ | ⟨hne, k, hk, ho⟩
  · rw [if_neg (by rw [he]; decide)] at ho
    obtain ⟨k, rfl⟩ : ∃ k', k = k' + 2 := ⟨k - 2, by omega⟩
    rw [ho, elem_no1 (any_no he (by decide) hL)]
  · exact absurd rfl hne
theorem left_dot {L : ByteArray → Option Tm} {T : List ByteArray} {o : Option (Tm × Nat)} {xs : List Tm} {i : Nat} (h : Left L T o xs i) (hne : xs ≠ []) (he : T[i]? = some tokD) :
    ∃ k, 3 * (T.length - (i + 1)) + 1 ≤ k ∧ (anyP L k T (i + 1) = none → o = none) ∧ ∀ y j, anyP L k T (i + 1) = some (y, j) → (T[j]? = some tokR → o = some (listT xs y, j + 1)) ∧ (¬ T[j]? = some tokR → o = none) := by
  have hlt := at_lt he
  rcases h with ⟨h0, _⟩ | ⟨_, k, hk, ho⟩
  · exact absurd h0 hne
  · obtain ⟨k, rfl⟩ : ∃ k', k = k' + 1 := ⟨k - 1, by omega⟩
    refine ⟨k, by omega, fun h => by rw [ho, rest_no1 he h]; rfl, fun y j h => ⟨fun h2 => by rw [ho, rest_yes he h h2]; rfl, fun h2 => by rw [ho, rest_no2 he h h2]; rfl⟩⟩
end Go.Proofs.YtjmmeccfjanpcaaDoor

