/-
  A binding put in its place keeps the order.
-/
import Derived.Test.YtealiilcnmdmdaaGreatSpecComp
namespace Go.Proofs.YtealiilcnmdmdaaGreat
open Go.RowKit
set_option linter.unusedVariables false
set_option linter.unusedSimpArgs false

theorem SubstP.asc {s : List Bd} (h : SubstP s) : s.Pairwise (fun a b => a.v < b.v) := by
  have key : ∀ (n i : Nat) (x y : Bd), s[i]? = some x → s[i + n + 1]? = some y → x.v < y.v := by
    intro n
    induction n with
    | zero => exact fun i x y hx hy => h.1.2.1 i x y hx hy
    | succ n ih =>
      intro i x y hx hy
      have hl := (List.getElem?_eq_some_iff.1 hy).1
      have hz := List.getElem?_eq_getElem (show i + n + 1 < s.length by omega)
      have h1 := ih i x _ hx hz
      have h2 := h.1.2.1 (i + n + 1) _ y hz (by rw [← hy]; congr 1)
      omega
  rw [List.pairwise_iff_getElem]
  intro i j hi hj hij
  exact key (j - i - 1) i _ _ (List.getElem?_eq_getElem hi) (by rw [show i + (j - i - 1) + 1 = j by omega]; exact List.getElem?_eq_getElem hj)
theorem scanB_after {s : List Bd} {v : Int} : ∀ (k j : Nat) (x : Bd), scanB s v k ≤ j → j < k → s[j]? = some x → v < x.v
  | 0, j, x, _, h, _ => absurd h (Nat.not_lt_zero _)
  | k + 1, j, x, h1, h2, hx => by
    rw [scanB] at h1
    split at h1
    · rename_i hc
      by_cases hj : j = k
      · subst hj
        rw [hx] at hc
        exact hc
      · exact scanB_after k j x h1 (by omega) hx
    · omega
theorem scanB_before {s : List Bd} {v : Int} : ∀ (k : Nat), k ≤ s.length → 0 < scanB s v k → ∃ x, s[scanB s v k - 1]? = some x ∧ x.v ≤ v
  | 0, _, h => by rw [scanB] at h; omega
  | k + 1, hk, h => by
    rw [scanB] at h ⊢
    split
    · rename_i hc
      rw [if_pos hc] at h
      exact scanB_before k (by omega) h
    · rename_i hc
      obtain ⟨x, hx⟩ : ∃ x, s[k]? = some x := ⟨_, List.getElem?_eq_getElem (by omega)⟩
      rw [hx] at hc
      refine ⟨x, by simpa using hx, ?_⟩
      have hc' : ¬ v < x.v := hc
      omega
theorem insB_asc {s : List Bd} {b : Bd} (h : s.Pairwise (fun a b => a.v < b.v)) (hb : ∀ c ∈ s, c.v ≠ b.v) : (insB s b).Pairwise (fun a b => a.v < b.v) := by
  have hle := scanB_le s b.v s.length
  have hidx := List.pairwise_iff_getElem.1 h
  have hbef : ∀ a ∈ s.take (scanB s b.v s.length), a.v < b.v := by
    intro a ha
    obtain ⟨i, hi⟩ := List.getElem?_of_mem ha
    have hil := (List.getElem?_eq_some_iff.1 hi).1
    rw [List.length_take] at hil
    rw [List.getElem?_take_of_lt (by omega)] at hi
    obtain ⟨x, hx, hxv⟩ := scanB_before (s := s) (v := b.v) s.length (Nat.le_refl _) (by omega)
    have hne := hb a (List.mem_of_getElem? hi)
    obtain ⟨hxl, hxe⟩ := List.getElem?_eq_some_iff.1 hx
    obtain ⟨hal, hae⟩ := List.getElem?_eq_some_iff.1 hi
    by_cases hix : i = scanB s b.v s.length - 1
    · subst hix
      rw [hx] at hi
      cases hi
      omega
    · have := hidx i (scanB s b.v s.length - 1) hal hxl (by omega)
      rw [hxe, hae] at this
      omega
  have haft : ∀ a ∈ s.drop (scanB s b.v s.length), b.v < a.v := by
    intro a ha
    obtain ⟨i, hi⟩ := List.getElem?_of_mem ha
    rw [List.getElem?_drop] at hi
    exact scanB_after s.length _ a (by omega) (List.getElem?_eq_some_iff.1 hi).1 hi
  unfold insB
  rw [List.pairwise_append]
  refine ⟨h.sublist (List.take_sublist _ _), List.pairwise_cons.2 ⟨haft, h.sublist (List.drop_sublist _ _)⟩, fun a ha c hc => ?_⟩
  rcases List.mem_cons.1 hc with rfl | hc
  · exact hbef a ha
  · have h1 := hbef a ha
    have h2 := haft c hc
    omega
end Go.Proofs.YtealiilcnmdmdaaGreat

