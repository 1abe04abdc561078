/-
  The order of terms: the contract of the model's l02Cmp; CompareTerms on both sides.
-/
import Derived.Test.YtokndpmoamjbfaaDoorCmp
namespace Go.Proofs.YtokndpmoamjbfaaDoor
open Go.RowKit
set_option linter.unusedVariables false
set_option linter.unusedSimpArgs false

theorem cmpI_ne {x y : Int} (h : ¬ x = y) : cmpI x y = (if decide (x < y) = true then -1 else 1) := by
  unfold cmpI
  by_cases h1 : x < y
  · simp [h1]
  · have h2 : y < x := by omega
    simp [h1, h2]
theorem cmpI_self (x : Int) : cmpI x x = 0 := by unfold cmpI; split <;> (try split) <;> omega
theorem cmpS_self (x : ByteArray) : cmpS x x = 0 := by unfold cmpS; rw [if_pos rfl]
theorem cmpS_ne {x y : ByteArray} (h : ¬ x = y) : cmpS x y = (if Op.bytesLess x.toList y.toList = true then -1 else 1) := by unfold cmpS; rw [if_neg h]
theorem pm_ne {b : Bool} : ¬ (if b = true then (-1 : Int) else 1) = 0 := by cases b <;> simp
theorem cmp_by_kind {a b : Tm} (h : ¬ a.kind = b.kind) : a.cmp b = (if decide (a.kind < b.kind) = true then -1 else 1) := by
  have e : cmpN a b = (if decide (a.kind < b.kind) = true then -1 else 1) := by unfold cmpN or3; rw [cmpI_ne h, if_pos pm_ne]
  rw [cmp_of_num (by rw [e]; exact pm_ne), e]
theorem cmp_by_num {a b : Tm} (h0 : a.kind = b.kind) (h : ¬ a.num = b.num) : a.cmp b = (if decide (a.num < b.num) = true then -1 else 1) := by
  have e : cmpN a b = (if decide (a.num < b.num) = true then -1 else 1) := by unfold cmpN or3; rw [h0, cmpI_self, if_neg (by simp), cmpI_ne h, if_pos pm_ne]
  rw [cmp_of_num (by rw [e]; exact pm_ne), e]
theorem cmp_by_name {a b : Tm} (h0 : a.kind = b.kind) (h1 : a.num = b.num) (h : ¬ a.name = b.name) : a.cmp b = (if Op.bytesLess a.name.toList b.name.toList = true then -1 else 1) := by
  have e : cmpN a b = (if Op.bytesLess a.name.toList b.name.toList = true then -1 else 1) := by unfold cmpN or3; rw [h0, h1, cmpI_self, if_neg (by simp), cmpI_self, if_neg (by simp), cmpS_ne h]
  rw [cmp_of_num (by rw [e]; exact pm_ne), e]
theorem cmp_by_args {a b : Tm} (h0 : a.kind = b.kind) (h1 : a.num = b.num) (h2 : a.name = b.name) : a.cmp b = cmpL a.args b.args :=
  cmp_of_args (by unfold cmpN or3; rw [h0, h1, h2, cmpI_self, if_neg (by simp), cmpI_self, if_neg (by simp), cmpS_self])
theorem cmpL_drop {l m : List Tm} {k : Nat} {x y : Tm} (hx : l[k]? = some x) (hy : m[k]? = some y) : cmpL (l.drop k) (m.drop k) = if ¬ x.cmp y = 0 then x.cmp y else cmpL (l.drop (k + 1)) (m.drop (k + 1)) := by
  obtain ⟨h1, rfl⟩ := List.getElem?_eq_some_iff.1 hx
  obtain ⟨h2, rfl⟩ := List.getElem?_eq_some_iff.1 hy
  rw [List.drop_eq_getElem_cons h1, List.drop_eq_getElem_cons h2, cmpL]
theorem cmpL_end {l m : List Tm} {k : Nat} (h : l.length ≤ k ∨ m.length ≤ k) : cmpL (l.drop k) (m.drop k) = 0 := by
  rcases h with h | h
  · rw [List.drop_of_length_le h, cmpL]
  · rw [List.drop_of_length_le h]
    cases l.drop k with
    | nil => rw [cmpL]
    | cons x l => rw [cmpL]

noncomputable def cmpOf (a b : Tm) : Int := if (okB a && okB b) = true then a.cmp b else 2

end Go.Proofs.YtokndpmoamjbfaaDoor

