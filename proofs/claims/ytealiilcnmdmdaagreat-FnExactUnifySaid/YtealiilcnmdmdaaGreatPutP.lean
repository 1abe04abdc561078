/-
  What a substitution makes of a term, plain: its variables, one substitution after another.
-/
import Derived.Test.YtealiilcnmdmdaaGreatSubstT
import Derived.Test.YtealiilcnmdmdaaGreatSpecComp
namespace Go.Proofs.YtealiilcnmdmdaaGreat
open Go.RowKit
set_option linter.unusedVariables false
set_option linter.unusedSimpArgs false

theorem vl_pair (x y : Tm) : (Tm.mk 4 0 ⟨#[]⟩ [x, y]).vl = x.vl ++ y.vl := by simp [Tm.vl, vlL]
theorem vl_of_var {t : Tm} (h : t.kind = 1) : t.vl = [t.num] := by
  cases t with | mk k i s l => have hk : k = 1 := h; subst hk; simp [Tm.vl, Tm.num]
theorem putT_of {s : List Bd} {i : Int} {y : Tm} (h : getO s i = some y) : putT s (varTm i) = y := by rw [putT_var rfl]; show (match getO s i with | some x => x | none => varTm i) = y; rw [h]
theorem putT_free {s : List Bd} {i : Int} (h : getO s i = none) : putT s (varTm i) = varTm i := by rw [putT_var rfl]; show (match getO s i with | some x => x | none => varTm i) = _; rw [h]
theorem putT_vl {s : List Bd} {t : Tm} (h : Good t) : ∀ u ∈ (putT s t).vl, (u ∈ t.vl ∧ getO s u = none) ∨ ∃ v ∈ t.vl, ∃ y, getO s v = some y ∧ u ∈ y.vl := by
  induction h with
  | nil => intro u hu; rw [putT_atom (by simp [Tm.kind]) (by simp [Tm.kind])] at hu; simp [Tm.vl, vlL] at hu
  | sym n hn => intro u hu; rw [putT_atom (by simp [Tm.kind]) (by simp [Tm.kind])] at hu; simp [Tm.vl, vlL] at hu
  | int r h0 h1 => intro u hu; rw [putT_atom (by simp [Tm.kind]) (by simp [Tm.kind])] at hu; simp [Tm.vl, vlL] at hu
  | var i h0 h1 =>
    intro u hu
    have hm : i ∈ (Tm.mk 1 i ⟨#[]⟩ []).vl := by simp [Tm.vl]
    cases hg : getO s i with
    | none =>
      have e : putT s (Tm.mk 1 i ⟨#[]⟩ []) = varTm i := putT_free hg
      rw [e] at hu
      have : u = i := by simpa [varTm, Tm.vl] using hu
      subst this
      exact .inl ⟨hm, hg⟩
    | some y =>
      have e : putT s (Tm.mk 1 i ⟨#[]⟩ []) = y := putT_of hg
      rw [e] at hu
      exact .inr ⟨i, hm, y, hg, hu⟩
  | pair x y _ _ ihx ihy =>
    intro u hu
    rw [putT_two (x := x) (y := y) rfl rfl, vl_pair, List.mem_append] at hu
    rw [vl_pair]
    rcases hu with hu | hu
    · rcases ihx u hu with ⟨h1, h2⟩ | ⟨v, h1, h2⟩
      · exact .inl ⟨List.mem_append_left _ h1, h2⟩
      · exact .inr ⟨v, List.mem_append_left _ h1, h2⟩
    · rcases ihy u hu with ⟨h1, h2⟩ | ⟨v, h1, h2⟩
      · exact .inl ⟨List.mem_append_right _ h1, h2⟩
      · exact .inr ⟨v, List.mem_append_right _ h1, h2⟩
theorem putT_comp {s t u : List Bd} {x : Tm} (h : Good x) (hv : ∀ v ∈ x.vl, putT t (putT s (varTm v)) = putT u (varTm v)) : putT t (putT s x) = putT u x := by
  induction h with
  | nil => rw [putT_atom (s := s) (by simp [Tm.kind]) (by simp [Tm.kind]), putT_atom (by simp [Tm.kind]) (by simp [Tm.kind]), putT_atom (by simp [Tm.kind]) (by simp [Tm.kind])]
  | sym n hn => rw [putT_atom (s := s) (by simp [Tm.kind]) (by simp [Tm.kind]), putT_atom (by simp [Tm.kind]) (by simp [Tm.kind]), putT_atom (by simp [Tm.kind]) (by simp [Tm.kind])]
  | int r h0 h1 => rw [putT_atom (s := s) (by simp [Tm.kind]) (by simp [Tm.kind]), putT_atom (by simp [Tm.kind]) (by simp [Tm.kind]), putT_atom (by simp [Tm.kind]) (by simp [Tm.kind])]
  | var i h0 h1 => exact hv i (by simp [Tm.vl])
  | pair x y _ _ ihx ihy =>
    rw [vl_pair] at hv
    rw [putT_two (s := s) (x := x) (y := y) rfl rfl, putT_two (s := t) (x := putT s x) (y := putT s y) rfl rfl, putT_two (s := u) (x := x) (y := y) rfl rfl, ihx fun v h => hv v (List.mem_append_left _ h), ihy fun v h => hv v (List.mem_append_right _ h)]
theorem putT_same {s : List Bd} {x : Tm} (h : Good x) (hv : ∀ v ∈ x.vl, getO s v = none) : putT s x = x := by
  induction h with
  | nil => exact putT_atom (by simp [Tm.kind]) (by simp [Tm.kind])
  | sym n hn => exact putT_atom (by simp [Tm.kind]) (by simp [Tm.kind])
  | int r h0 h1 => exact putT_atom (by simp [Tm.kind]) (by simp [Tm.kind])
  | var i h0 h1 => exact putT_free (hv i (by simp [Tm.vl]))
  | pair x y _ _ ihx ihy =>
    rw [vl_pair] at hv
    rw [putT_two (x := x) (y := y) rfl rfl, ihx fun v h => hv v (List.mem_append_left _ h), ihy fun v h => hv v (List.mem_append_right _ h)]

end Go.Proofs.YtealiilcnmdmdaaGreat

