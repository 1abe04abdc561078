/-
  The form that a term has to have: 'Good'; one node's form: 'Fit'. Over whatever program.
-/
import Derived.Test.YtokndpmoamjbfaaTree
namespace Go.Proofs.Ytokndpmoamjbfaa
open Go.RowKit

inductive Good : Tm → Prop
  | nil : Good (.mk 0 0 ⟨#[]⟩ [])
  | var (i : Int) (h0 : 0 ≤ i) (h1 : i ≤ 100000) : Good (.mk 1 i ⟨#[]⟩ [])
  | sym (s : ByteArray) (h : isName s = true) : Good (.mk 2 0 s [])
  | int (i : Int) (h0 : -1000000000 ≤ i) (h1 : i ≤ 1000000000) : Good (.mk 3 i ⟨#[]⟩ [])
  | pair (a b : Tm) (ha : Good a) (hb : Good b) : Good (.mk 4 0 ⟨#[]⟩ [a, b])

/-- One node's form. -/
def Fit (t : Tm) : Prop :=
  (t.kind = 0 ∧ t.num = 0 ∧ t.name = ⟨#[]⟩ ∧ t.args = []) ∨ (t.kind = 1 ∧ (0 ≤ t.num ∧ t.num ≤ 100000) ∧ t.name = ⟨#[]⟩ ∧ t.args = []) ∨ (t.kind = 2 ∧ t.num = 0 ∧ isName t.name = true ∧ t.args = []) ∨
  (t.kind = 3 ∧ (-1000000000 ≤ t.num ∧ t.num ≤ 1000000000) ∧ t.name = ⟨#[]⟩ ∧ t.args = []) ∨ (t.kind = 4 ∧ t.num = 0 ∧ t.name = ⟨#[]⟩ ∧ t.args.length = 2)

theorem Good.fit {t : Tm} (h : Good t) : Fit t := by
  cases h with
  | nil => exact .inl ⟨rfl, rfl, rfl, rfl⟩
  | var i h0 h1 => exact .inr (.inl ⟨rfl, ⟨h0, h1⟩, rfl, rfl⟩)
  | sym s h => exact .inr (.inr (.inl ⟨rfl, rfl, h, rfl⟩))
  | int i h0 h1 => exact .inr (.inr (.inr (.inl ⟨rfl, ⟨h0, h1⟩, rfl, rfl⟩)))
  | pair a b ha hb => exact .inr (.inr (.inr (.inr ⟨rfl, rfl, rfl, rfl⟩)))
theorem Good.each {t : Tm} (h : Good t) {j : Nat} {x : Tm} (hj : t.args[j]? = some x) : Good x := by
  cases h with
  | pair a b ha hb =>
    match j, hj with
    | 0, hj => simp [Tm.args] at hj; subst hj; exact ha
    | 1, hj => simp [Tm.args] at hj; subst hj; exact hb
    | j + 2, hj => simp [Tm.args] at hj
  | _ => simp [Tm.args] at hj
theorem good_of {t : Tm} (h : Fit t) (hx : ∀ (j : Nat) (x : Tm), t.args[j]? = some x → Good x) : Good t := by
  obtain ⟨k, i, s, l⟩ := t
  simp only [Fit, Tm.kind, Tm.num, Tm.name, Tm.args] at h hx
  rcases h with ⟨rfl, rfl, rfl, rfl⟩ | ⟨rfl, ⟨h0, h1⟩, rfl, rfl⟩ | ⟨rfl, rfl, h, rfl⟩ | ⟨rfl, ⟨h0, h1⟩, rfl, rfl⟩ | ⟨rfl, rfl, rfl, hl⟩
  · exact .nil
  · exact .var i h0 h1
  · exact .sym s h
  · exact .int i h0 h1
  · match l, hl with
    | [a, b], _ => exact .pair a b (hx 0 a rfl) (hx 1 b rfl)
theorem good_two {t : Tm} {a b : Tm} (h : Fit t) (hl : t.args = [a, b]) : Good t ↔ Good a ∧ Good b := by
  constructor
  · intro hg
    exact ⟨hg.each (j := 0) (by rw [hl]; rfl), hg.each (j := 1) (by rw [hl]; rfl)⟩
  · intro ⟨ha, hb⟩
    refine good_of h fun j x hj => ?_
    rw [hl] at hj
    match j, hj with
    | 0, hj => simp at hj; subst hj; exact ha
    | 1, hj => simp at hj; subst hj; exact hb
    | j + 2, hj => simp at hj
theorem good_none {t : Tm} (hl : t.args = []) : Good t ↔ Fit t := ⟨Good.fit, fun h => good_of h fun j x hj => by rw [hl] at hj; simp at hj⟩

/-- What a term of the right form is, from outside: five cases. -/
theorem Fit.name_size {t : Tm} (h : Fit t) : t.name.size ≤ 12 := by
  have hs : ∀ s : ByteArray, isName s = true → s.size ≤ 12 := by
    intro s hs
    by_cases hx : 1 ≤ s.size ∧ s.size ≤ 12
    · exact hx.2
    · rw [isName_short hx] at hs; cases hs
  rcases h with ⟨_, _, h, _⟩ | ⟨_, _, h, _⟩ | ⟨_, _, h, _⟩ | ⟨_, _, h, _⟩ | ⟨_, _, h, _⟩
  · rw [h]; exact Nat.zero_le _
  · rw [h]; exact Nat.zero_le _
  · exact hs _ h
  · rw [h]; exact Nat.zero_le _
  · rw [h]; exact Nat.zero_le _

/-- A term that is valid: of the right form and not too large. -/
def Ok (t : Tm) : Prop := t.nodes ≤ 5000 ∧ Good t
open Classical in
noncomputable def okB (t : Tm) : Bool := decide (Ok t)
theorem okB_true {t : Tm} : okB t = true ↔ Ok t := by simp [okB]
theorem okB_false {t : Tm} : okB t = false ↔ ¬ Ok t := by simp [okB]
open Classical in
noncomputable def sizeOf' (t : Tm) : Int := if Ok t then t.nodes else -1
end Go.Proofs.Ytokndpmoamjbfaa

