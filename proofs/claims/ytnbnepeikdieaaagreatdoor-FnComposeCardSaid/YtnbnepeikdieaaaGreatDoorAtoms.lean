/-
  What a token stands for in the model: l03Atom.
  The model's l03Atom, walked.
-/
import Derived.Test.YtnbnepeikdieaaaGreatDoorReaders
import Derived.Test.YtnbnepeikdieaaaGreatDoorDraws
import Derived.Test.YtnbnepeikdieaaaGreatDoorFits
import Derived.Test.YtnbnepeikdieaaaGreatDoorNums
namespace Go.Proofs.YtnbnepeikdieaaaGreatDoor
open Go.RowKit
set_option linter.unusedVariables false
set_option linter.unusedSimpArgs false

open Classical in
noncomputable def leafS (x : ByteArray) : Option Tm := match leafI x with | none => none | some t => if Good t then some t else none
theorem leafS_no {x : ByteArray} (h : leafI x = none) : leafS x = none := by rw [leafS, h]
theorem leafS_bad {x : ByteArray} {t : Tm} (h : leafI x = some t) (h2 : ¬ Good t) : leafS x = none := by rw [leafS, h]; simp only [if_neg h2]
theorem leafS_yes {x : ByteArray} {t : Tm} (h : leafI x = some t) (h2 : Good t) : leafS x = some t := by rw [leafS, h]; simp only [if_pos h2]
theorem itoa_first (v : Int) : ∃ c r, Lib.itoa v = c :: r ∧ (c.toNat = 45 ∨ (48 ≤ c.toNat ∧ c.toNat ≤ 57)) := by
  by_cases hn : v < 0
  · obtain ⟨m, rfl⟩ : ∃ m : Nat, v = -(m : Int) := ⟨v.natAbs, by omega⟩
    exact ⟨45, Lib.decDigits m, Lib.itoa_neg m (by omega), .inl rfl⟩
  · obtain ⟨m, rfl⟩ : ∃ m : Nat, v = (m : Int) := ⟨v.toNat, by omega⟩
    obtain ⟨c, r, h, h1, h2⟩ := dec_cons m
    exact ⟨c, r, by rw [Lib.itoa_nonneg, h], .inr ⟨h1, h2⟩⟩
theorem parse_first {l : List UInt8} (h : ∀ c r, l = c :: r → ¬ (c.toNat = 45 ∨ (48 ≤ c.toNat ∧ c.toNat ≤ 57))) : (parseOf l).2 = false := by
  rw [parse_no]
  intro v _ e
  obtain ⟨c, r, h1, h2⟩ := itoa_first v
  exact h c r (e.symm.trans h1) h2
theorem name_first {x : ByteArray} (h : isName x = true) : ∃ c r, x.data.toList = c :: r ∧ 97 ≤ c.toNat ∧ c.toNat ≤ 122 := by
  unfold isName at h
  rw [decide_eq_true_eq] at h
  obtain ⟨⟨h1, _⟩, h2⟩ := h
  have h3 := h2 0 (by omega)
  cases hl : x.data.toList with
  | nil => rw [Lib.size_eq, hl] at h1; simp at h1
  | cons c r =>
    have e : x[0] = c := by
      have : x = ⟨(c :: r).toArray⟩ := ByteArray.ext (Array.toList_inj.1 (by rw [hl]))
      subst this
      rfl
    rw [e] at h3
    unfold okByte at h3
    exact ⟨c, r, rfl, by omega⟩
theorem name_no_int {x : ByteArray} (h : isName x = true) : (parseOf x.data.toList).2 = false := by
  obtain ⟨c, r, hl, h1, h2⟩ := name_first h
  refine parse_first fun c' r' e => ?_
  rw [hl] at e
  cases e
  omega
theorem quest_no_int {x : ByteArray} {r : List UInt8} (h : x.data.toList = 63 :: r) : (parseOf x.data.toList).2 = false := by
  refine parse_first fun c' r' e => ?_
  rw [h] at e
  cases e
  decide
theorem cutQ_yes {x : ByteArray} {r : List UInt8} (h : x.data.toList = 63 :: r) : cutQ x = (⟨r.toArray⟩, true) := by rw [cutQ, h]; simp only [if_pos]
theorem cutQ_no {x : ByteArray} (h : ∀ r, ¬ x.data.toList = 63 :: r) : (cutQ x).2 = false := by
  unfold cutQ
  split
  · rename_i c r hl
    split
    · rename_i hc; subst hc; exact absurd hl (h r)
    · rfl
  · rfl
theorem name_good (x : ByteArray) (h : isName x = true) : leafS x = some (.mk 2 0 x []) := leafS_yes (leafI_sym (name_no_int h) h) (.sym x h)
open Classical in
theorem atom_var {x : ByteArray} {r : List UInt8} (hn : isName x = false) (h : x.data.toList = 63 :: r) : leafS x = if (parseOf r).2 = true ∧ Good (.mk 1 (parseOf r).1 ⟨#[]⟩ []) then some (.mk 1 (parseOf r).1 ⟨#[]⟩ []) else none := by
  have hc := cutQ_yes h
  have hq := quest_no_int h
  by_cases hp : (parseOf r).2 = true
  · have hi : leafI x = some (.mk 1 (parseOf r).1 ⟨#[]⟩ []) := by
      have := leafI_var (x := x) hq hn (by rw [hc]) (by rw [hc]; exact hp)
      rw [hc] at this
      exact this
    by_cases hg : Good (.mk 1 (parseOf r).1 ⟨#[]⟩ [])
    · rw [leafS_yes hi hg, if_pos ⟨hp, hg⟩]
    · rw [leafS_bad hi hg, if_neg fun z => hg z.2]
  · rw [leafS_no (leafI_no hq hn (fun z => hp (by have := z.2; rw [hc] at this; exact this))), if_neg fun z => hp z.1]
open Classical in
theorem atom_int {x : ByteArray} (hn : isName x = false) (h : ∀ r, ¬ x.data.toList = 63 :: r) : leafS x = if (parseOf x.data.toList).2 = true ∧ Good (.mk 3 (parseOf x.data.toList).1 ⟨#[]⟩ []) then some (.mk 3 (parseOf x.data.toList).1 ⟨#[]⟩ []) else none := by
  by_cases hp : (parseOf x.data.toList).2 = true
  · by_cases hg : Good (.mk 3 (parseOf x.data.toList).1 ⟨#[]⟩ [])
    · rw [leafS_yes (leafI_int hp) hg, if_pos ⟨hp, hg⟩]
    · rw [leafS_bad (leafI_int hp) hg, if_neg fun z => hg z.2]
  · rw [leafS_no (leafI_no (by simpa using hp) hn (fun z => by rw [cutQ_no h] at z; cases z.1)), if_neg fun z => hp z.1]

/-- The model's reading is the program's, where the term is of the right form. -/
theorem good_pairT {x y : Tm} : Good (pairT x y) ↔ Good x ∧ Good y := by
  have hf : Fit (pairT x y) := .inr (.inr (.inr (.inr ⟨rfl, rfl, rfl, rfl⟩)))
  exact good_two hf rfl
theorem good_zero : Good zeroTm := .nil
def Same (o o' : Option (Tm × Nat)) : Prop := ∀ t j, o = some (t, j) ↔ (o' = some (t, j) ∧ Good t)
theorem same_none : Same none none := fun t j => ⟨fun h => (by cases h), fun h => (by cases h.1)⟩
theorem same_zero (j : Nat) : Same (some (zeroTm, j)) (some (zeroTm, j)) := fun t m => ⟨fun h => ⟨h, by cases h; exact good_zero⟩, fun h => h.1⟩
theorem Same.no {o o' : Option (Tm × Nat)} (h : Same o o') (ho : o = none) {t : Tm} {j : Nat} (h2 : o' = some (t, j)) : ¬ Good t := fun hg => by
  have := (h t j).2 ⟨h2, hg⟩
  rw [ho] at this
  cases this
theorem read_same (T : List ByteArray) (k : Nat) : (∀ i, Same (anyP leafS k T i) (anyP leafI k T i)) ∧ (∀ i, Same (elemP leafS k T i) (elemP leafI k T i)) ∧ (∀ i, Same (restP leafS k T i) (restP leafI k T i)) := by
  induction k with
  | zero => exact ⟨fun i => (by rw [anyP, anyP]; exact same_none), fun i => (by rw [elemP, elemP]; exact same_none), fun i => (by rw [restP, restP]; exact same_none)⟩
  | succ k ih =>
    obtain ⟨ia, ie, ir⟩ := ih
    refine ⟨fun i => ?_, fun i => ?_, fun i => ?_⟩
    · by_cases h1 : T[i]? = some tokL
      · by_cases h2 : T[i + 1]? = some tokR
        · rw [any_open h1 h2, any_open h1 h2]; exact same_zero _
        · rw [any_elem h1 h2, any_elem h1 h2]; exact ie _
      · cases hx : T[i]? with
        | none => rw [any_end hx, any_end hx]; exact same_none
        | some x =>
          have hxl : ¬ x = tokL := fun e => h1 (by rw [hx, e])
          cases hl : leafI x with
          | none => rw [any_no hx hxl hl, any_no hx hxl (leafS_no hl)]; exact same_none
          | some t =>
            rw [any_leaf hx hxl hl]
            by_cases hg : Good t
            · rw [any_leaf hx hxl (leafS_yes hl hg)]
              exact fun t' j => ⟨fun h => ⟨h, by cases h; exact hg⟩, fun h => h.1⟩
            · rw [any_no hx hxl (leafS_bad hl hg)]
              exact fun t' j => ⟨fun h => (by cases h), fun h => (by obtain ⟨h, h2⟩ := h; cases h; exact absurd h2 hg)⟩
    · intro t j
      rw [elemP, elemP]
      constructor
      · intro h
        split at h
        · cases h
        · rename_i x m h1
          split at h
          · cases h
          · rename_i y n h2
            cases h
            obtain ⟨a1, a2⟩ := (ia i x m).1 h1
            obtain ⟨b1, b2⟩ := (ir m y j).1 h2
            rw [a1]; simp only [b1]
            exact ⟨by first | trivial | rfl, good_pairT.2 ⟨a2, b2⟩⟩
      · rintro ⟨h, hg⟩
        split at h
        · cases h
        · rename_i x m h1
          split at h
          · cases h
          · rename_i y n h2
            cases h
            obtain ⟨g1, g2⟩ := good_pairT.1 hg
            rw [(ia i x m).2 ⟨h1, g1⟩]; simp only [(ir m y j).2 ⟨h2, g2⟩]
    · by_cases h1 : T[i]? = some tokR
      · rw [rest_close h1, rest_close h1]; exact same_zero _
      · by_cases h2 : T[i]? = some tokD
        · intro t j
          rw [restP, restP, if_neg h1, if_neg h1, if_pos h2, if_pos h2]
          constructor
          · intro h
            split at h
            · cases h
            · rename_i y m h3
              split at h
              · rename_i h4
                cases h
                obtain ⟨a1, a2⟩ := (ia _ t m).1 h3
                rw [a1]; simp only [if_pos h4]
                exact ⟨by first | trivial | rfl, a2⟩
              · cases h
          · rintro ⟨h, hg⟩
            split at h
            · cases h
            · rename_i y m h3
              split at h
              · rename_i h4
                cases h
                rw [(ia _ t m).2 ⟨h3, hg⟩]; simp only [if_pos h4]
              · cases h
        · rw [rest_elem h1 h2, rest_elem h1 h2]; exact ie _
end Go.Proofs.YtnbnepeikdieaaaGreatDoor

namespace Go.Proofs.YtnbnepeikdieaaaGreatDoor
open Go.RowKit
set_option linter.unusedVariables false
set_option linter.unusedSimpArgs false

theorem good_leaf_sz (k n : Int) : (Tm.mk k n ⟨#[]⟩ []).sz ≤ 1048576 := by rw [Tm.sz, szL]; exact Nat.zero_le _
open Classical in
theorem atom_end (b : Bool) (t : Tm) (o : Option Tm) (h : o = if b = true ∧ Good t then some t else none) : (b = true → Good t → o = some t) ∧ (¬ (b = true ∧ Good t) → o = none) := by
  subst h
  exact ⟨fun h1 h2 => if_pos ⟨h1, h2⟩, fun h => if_neg h⟩

end Go.Proofs.YtnbnepeikdieaaaGreatDoor

