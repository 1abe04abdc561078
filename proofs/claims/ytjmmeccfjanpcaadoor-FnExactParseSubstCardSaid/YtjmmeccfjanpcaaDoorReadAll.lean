/-
  What is read of all tokens, plain; validTerm of the program.
-/
import Derived.Test.YtjmmeccfjanpcaaDoorReadTerm
import Derived.Test.YtjmmeccfjanpcaaDoorPuts
import Derived.Test.YtjmmeccfjanpcaaDoorTokens
namespace Go.Proofs.YtjmmeccfjanpcaaDoor
open Go.RowKit
set_option linter.unusedVariables false
set_option linter.unusedSimpArgs false

theorem isName_size {s : ByteArray} (h : isName s = true) : s.size ≤ 12 := by
  by_cases hx : 1 ≤ s.size ∧ s.size ≤ 12
  · exact hx.2
  · rw [isName_short hx] at h; cases h
theorem leafI_size {x : ByteArray} {t : Tm} (h : leafI x = some t) : t.nodes = 1 ∧ t.sz ≤ 12 := by
  unfold leafI at h
  split at h
  · cases h
    rw [Tm.nodes, Tm.sz, nodesL, szL]; exact ⟨rfl, Nat.zero_le _⟩
  · split at h
    · rename_i h2
      cases h
      rw [Tm.nodes, Tm.sz, nodesL, szL]; exact ⟨rfl, isName_size h2⟩
    · split at h
      · cases h
        rw [Tm.nodes, Tm.sz, nodesL, szL]; exact ⟨rfl, Nat.zero_le _⟩
      · cases h
def RdOk (i : Nat) (t : Tm) (j : Nat) : Prop := i < j ∧ t.nodes + 1 ≤ 2 * (j - i) ∧ t.sz + 1 ≤ 13 * t.nodes
theorem rdOk_zero {i j : Nat} (h : i < j) : RdOk i zeroTm j := ⟨h, by rw [zeroTm, Tm.nodes, nodesL]; omega, by rw [zeroTm, Tm.nodes, Tm.sz, nodesL, szL]; decide⟩
theorem rdOk_pair {i j m : Nat} {x y : Tm} (h1 : RdOk i x j) (h2 : RdOk j y m) : RdOk i (pairT x y) m := by
  obtain ⟨a1, a2, a3⟩ := h1
  obtain ⟨b1, b2, b3⟩ := h2
  refine ⟨by omega, ?_, ?_⟩
  · rw [pairT, Tm.nodes, nodesL, nodesL, nodesL]; omega
  · rw [pairT, Tm.nodes, Tm.sz, nodesL, nodesL, nodesL, szL, szL, szL]
    have : (⟨#[]⟩ : ByteArray).size = 0 := rfl
    omega
theorem RdOk.wide {i i' j j' : Nat} {t : Tm} (h : RdOk i t j) (h1 : i' ≤ i) (h2 : j ≤ j') : RdOk i' t j' := ⟨by have := h.1; omega, by have := h.1; have := h.2.1; omega, h.2.2⟩
theorem read_ok (T : List ByteArray) (k : Nat) : (∀ i t j, anyP leafI k T i = some (t, j) → RdOk i t j) ∧ (∀ i t j, elemP leafI k T i = some (t, j) → RdOk i t j) ∧ (∀ i t j, restP leafI k T i = some (t, j) → RdOk i t j) := by
  induction k with
  | zero => exact ⟨fun i t j h => (by rw [anyP] at h; cases h), fun i t j h => (by rw [elemP] at h; cases h), fun i t j h => (by rw [restP] at h; cases h)⟩
  | succ k ih =>
    obtain ⟨ia, ie, ir⟩ := ih
    refine ⟨fun i t j h => ?_, fun i t j h => ?_, fun i t j h => ?_⟩
    · rw [anyP] at h
      split at h
      · split at h
        · cases h; exact rdOk_zero (by omega)
        · exact (ie _ _ _ h).wide (by omega) (Nat.le_refl _)
      · split at h
        · cases h
        · split at h
          · cases h
          · rename_i x h1 t' h2
            cases h
            have := leafI_size h2
            exact ⟨by omega, by omega, by omega⟩
    · rw [elemP] at h
      split at h
      · cases h
      · rename_i x j1 h1
        split at h
        · cases h
        · rename_i y j2 h2
          cases h
          exact rdOk_pair (ia _ _ _ h1) (ir _ _ _ h2)
    · rw [restP] at h
      split at h
      · cases h; exact rdOk_zero (by omega)
      · split at h
        · split at h
          · cases h
          · rename_i y j1 h1
            split at h
            · cases h
              exact (ia _ _ _ h1).wide (by omega) (by omega)
            · cases h
        · exact ie _ _ _ h

/-- A term read that is valid. -/
noncomputable def validP (k : Nat) (T : List ByteArray) (i : Nat) : Option (Tm × Nat) := match anyP leafI k T i with | none => none | some (t, j) => if okB t = true then some (t, j) else none
theorem valid_none {k : Nat} {T : List ByteArray} {i : Nat} (h : anyP leafI k T i = none) : validP k T i = none := by rw [validP, h]
theorem valid_bad {k : Nat} {T : List ByteArray} {i j : Nat} {t : Tm} (h : anyP leafI k T i = some (t, j)) (h2 : okB t = false) : validP k T i = none := by rw [validP, h]; simp only [h2]; rfl
theorem valid_yes {k : Nat} {T : List ByteArray} {i j : Nat} {t : Tm} (h : anyP leafI k T i = some (t, j)) (h2 : okB t = true) : validP k T i = some (t, j) := by rw [validP, h]; simp only [h2, if_pos]
theorem valid_inv {k : Nat} {T : List ByteArray} {i j : Nat} {t : Tm} (h : validP k T i = some (t, j)) : anyP leafI k T i = some (t, j) ∧ okB t = true := by
  unfold validP at h
  split at h
  · cases h
  · rename_i t' j' h1
    split at h
    · rename_i h2
      cases h
      exact ⟨h1, h2⟩
    · cases h
/-- All the terms from a place on. -/
noncomputable def allP (k : Nat) (T : List ByteArray) : Nat → Nat → Option (List Tm)
  | 0, _ => some []
  | n + 1, i => if T.length ≤ i then some [] else match validP k T i with | none => none | some (t, j) => match allP k T n j with | none => none | some l => some (t :: l)
theorem all_end {k n i : Nat} {T : List ByteArray} (h : T.length ≤ i) : allP k T n i = some [] := by
  cases n with
  | zero => rw [allP]
  | succ n => rw [allP, if_pos h]
theorem all_no1 {k n i : Nat} {T : List ByteArray} (h : ¬ T.length ≤ i) (h2 : validP k T i = none) : allP k T (n + 1) i = none := by rw [allP, if_neg h, h2]
theorem all_step {k n i j : Nat} {t : Tm} {T : List ByteArray} (h : ¬ T.length ≤ i) (h2 : validP k T i = some (t, j)) : allP k T (n + 1) i = (allP k T n j).map (fun l => t :: l) := by
  rw [allP, if_neg h, h2]
  simp only
  cases allP k T n j <;> rfl
/-- The terms of all tokens, at most forty. -/
noncomputable def termsP (k : Nat) (T : List ByteArray) : Option (List Tm) := match allP k T T.length 0 with | none => none | some l => if l.length ≤ 40 then some l else none
noncomputable def ptO (s : ByteArray) : Option (List Tm) := if (tokensOf s).2 = true then termsP (3 * (tokensOf s).1.length + 1) (tokensOf s).1 else none
noncomputable def ptT (s : ByteArray) : List Tm := (ptO s).getD []
noncomputable def ptB (s : ByteArray) : Bool := (ptO s).isSome

theorem toks_size (s : ByteArray) : ∀ x ∈ toks s, x.size ≤ s.size := by
  have hx : ∀ a b, (s.extract a b).size ≤ s.size := fun a b => by rw [ByteArray.size_extract]; omega
  have key : ∀ k, ∀ x ∈ (tokTo s k).2.2, x.size ≤ s.size := by
    intro k
    induction k with
    | zero => intro x hx; rw [tokTo] at hx; simp at hx
    | succ k ih =>
      intro x hm
      rw [tokTo] at hm
      split at hm
      · exact ih x hm
      · split at hm
        · simp only [List.mem_append] at hm
          rcases hm with (hm | hm) | hm
          · exact ih x hm
          · split at hm
            · simp at hm; subst hm; exact hx _ _
            · simp at hm
          · split at hm
            · simp at hm; subst hm; exact hx _ _
            · simp at hm
        · exact ih x hm
  intro x hm
  unfold toks at hm
  rcases List.mem_append.1 hm with hm | hm
  · exact key _ x hm
  · split at hm
    · simp at hm; subst hm; exact hx _ _
    · simp at hm
theorem tokens_bounds (s : ByteArray) : (tokensOf s).1.length ≤ 20000 ∧ ∀ x ∈ (tokensOf s).1, x.size ≤ 1048576 := by
  unfold tokensOf
  split
  · rename_i h
    exact ⟨h.2.2, fun x hx => Nat.le_trans (toks_size s x hx) (by omega)⟩
  · exact ⟨Nat.zero_le _, fun x hx => by simp at hx⟩
end Go.Proofs.YtjmmeccfjanpcaaDoor

