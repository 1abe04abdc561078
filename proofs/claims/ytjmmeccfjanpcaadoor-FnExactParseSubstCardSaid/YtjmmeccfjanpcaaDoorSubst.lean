/-
  Substitutions, plain: what is bound, when a list of bindings is a substitution, what a substitution makes of a term.
-/
import Derived.Test.YtjmmeccfjanpcaaDoorBdLaws
import Derived.Test.YtjmmeccfjanpcaaDoorSpecVarsP
namespace Go.Proofs.YtjmmeccfjanpcaaDoor
open Go.RowKit
set_option linter.unusedVariables false
set_option linter.unusedSimpArgs false

def getO : List Bd → Int → Option Tm
  | [], _ => none
  | b :: l, v => if b.v = v then some b.t else getO l v
theorem getO_some : ∀ {s : List Bd} {v : Int} {t : Tm}, getO s v = some t → ∃ b ∈ s, b.v = v ∧ b.t = t
  | [], _, _, h => by cases h
  | b :: s, v, t, h => by
    rw [getO] at h
    split at h
    · rename_i e
      cases h
      exact ⟨b, by simp, e, rfl⟩
    · obtain ⟨c, hc, h1⟩ := getO_some h
      exact ⟨c, by simp [hc], h1⟩
theorem getO_none : ∀ {s : List Bd} {v : Int}, getO s v = none ↔ ∀ b ∈ s, b.v ≠ v
  | [], v => by simp [getO]
  | b :: s, v => by
    rw [getO]
    by_cases h : b.v = v
    · rw [if_pos h]; simp [h]
    · rw [if_neg h, getO_none]; simp [h]
theorem getO_at {s : List Bd} {v : Int} : ∀ {k : Nat} {x : Bd}, s[k]? = some x → x.v = v → (∀ i y, i < k → s[i]? = some y → y.v ≠ v) → getO s v = some x.t := by
  induction s with
  | nil => intro k x hx; simp at hx
  | cons b s ih =>
    intro k x hx hv hn
    rw [getO]
    cases k with
    | zero => simp at hx; subst hx; rw [if_pos hv]
    | succ k =>
      rw [if_neg (hn 0 b (by omega) rfl)]
      exact ih (k := k) (by simpa using hx) hv fun i y hi hy => hn (i + 1) y (by omega) (by simpa using hy)
theorem getO_out {s : List Bd} {v : Int} (h : ∀ i y, i < s.length → s[i]? = some y → y.v ≠ v) : getO s v = none := by
  rw [getO_none]
  intro b hb
  obtain ⟨i, hi⟩ := List.getElem?_of_mem hb
  exact h i b (List.getElem?_eq_some_iff.1 hi).1 hi
def orZero (o : Option Tm) : Tm := o.getD zeroTm
def getT (s : List Bd) (v : Int) : Tm := orZero (getO s v)
def getB (s : List Bd) (v : Int) : Bool := (getO s v).isSome
theorem get_yes {s : List Bd} {v : Int} {t : Tm} (h : getO s v = some t) : getT s v = t ∧ getB s v = true := by rw [getT, getB, h]; exact ⟨rfl, rfl⟩
theorem get_no {s : List Bd} {v : Int} (h : getO s v = none) : getT s v = zeroTm ∧ getB s v = false := by rw [getT, getB, h]; exact ⟨rfl, rfl⟩
theorem getB_none {s : List Bd} {v : Int} : getB s v = false ↔ getO s v = none := by
  unfold getB
  cases getO s v <;> simp

/-- Variables in order and in range, valid terms, not too many. -/
def ValuesP (s : List Bd) : Prop :=
  (∀ (k : Nat) (x : Bd), s[k]? = some x → (0 ≤ x.v ∧ x.v ≤ 100000) ∧ Ok x.t) ∧ (∀ (k : Nat) (x y : Bd), s[k]? = some x → s[k + 1]? = some y → x.v < y.v) ∧ s.length ≤ 400
def SubstP (s : List Bd) : Prop := ValuesP s ∧ ∀ b ∈ s, ¬ (b.t.kind = 1 ∧ b.v ≤ b.t.num) ∧ ∀ v ∈ b.t.vl, getO s v = none
open Classical in
noncomputable def valuesB (s : List Bd) : Bool := decide (ValuesP s)
open Classical in
noncomputable def substB (s : List Bd) : Bool := decide (SubstP s)
theorem valuesB_true {s : List Bd} : valuesB s = true ↔ ValuesP s := by simp [valuesB]
theorem valuesB_false {s : List Bd} : valuesB s = false ↔ ¬ ValuesP s := by simp [valuesB]
theorem substB_true {s : List Bd} : substB s = true ↔ SubstP s := by simp [substB]
theorem substB_false {s : List Bd} : substB s = false ↔ ¬ SubstP s := by simp [substB]
theorem substP_nil : SubstP [] := ⟨⟨fun k x h => by simp at h, fun k x y h => by simp at h, by simp⟩, fun b hb => by simp at hb⟩

/-- All variables replaced at once. -/
def putN (s : List Bd) : Nat → Tm → Tm
  | 0, t => t
  | n + 1, t => if t.kind = 1 then (match getO s t.num with | some x => x | none => t) else if t.kind = 4 then .mk 4 0 ⟨#[]⟩ (t.args.map (putN s n)) else t
def putT (s : List Bd) (t : Tm) : Tm := putN s t.nodes t
theorem putN_stable (s : List Bd) : ∀ (n m : Nat) (t : Tm), t.nodes ≤ n → t.nodes ≤ m → putN s n t = putN s m t
  | 0, m, t, h, _ => by have := nodes_pos t; omega
  | n + 1, 0, t, _, h => by have := nodes_pos t; omega
  | n + 1, m + 1, t, h1, h2 => by
    rw [putN, putN]
    split
    · rfl
    · split
      · congr 1
        apply List.map_congr_left
        intro x hx
        obtain ⟨j, hj⟩ := List.getElem?_of_mem hx
        have := nodes_at hj
        rw [nodes_eq] at h1 h2
        exact putN_stable s n m x (by omega) (by omega)
      · rfl
theorem putT_var {s : List Bd} {t : Tm} (h : t.kind = 1) : putT s t = (match getO s t.num with | some x => x | none => t) := by
  obtain ⟨n, hn⟩ : ∃ n, t.nodes = n + 1 := ⟨t.nodes - 1, by have := nodes_pos t; omega⟩
  rw [putT, hn, putN, if_pos h]
theorem putT_pair {s : List Bd} {t : Tm} (h : t.kind = 4) : putT s t = .mk 4 0 ⟨#[]⟩ (t.args.map (putT s)) := by
  obtain ⟨n, hn⟩ : ∃ n, t.nodes = n + 1 := ⟨t.nodes - 1, by have := nodes_pos t; omega⟩
  rw [putT, hn, putN, if_neg (by omega), if_pos h]
  congr 1
  apply List.map_congr_left
  intro x hx
  obtain ⟨j, hj⟩ := List.getElem?_of_mem hx
  have := nodes_at hj
  rw [nodes_eq] at hn
  exact putN_stable s n x.nodes x (by omega) (Nat.le_refl _)
theorem putT_two {s : List Bd} {t x y : Tm} (h : t.kind = 4) (hl : t.args = [x, y]) : putT s t = .mk 4 0 ⟨#[]⟩ [putT s x, putT s y] := by rw [putT_pair h, hl]; rfl
theorem putT_atom {s : List Bd} {t : Tm} (h1 : ¬ t.kind = 1) (h4 : ¬ t.kind = 4) : putT s t = t := by
  obtain ⟨n, hn⟩ : ∃ n, t.nodes = n + 1 := ⟨t.nodes - 1, by have := nodes_pos t; omega⟩
  rw [putT, hn, putN, if_neg h1, if_neg h4]

/-! What a substitution makes of a term, and whether. -/
open Classical in
noncomputable def apB (s : List Bd) (t : Tm) : Bool := decide (SubstP s ∧ Ok t ∧ (putT s t).nodes ≤ 5000)
open Classical in
noncomputable def apT (s : List Bd) (t : Tm) : Tm := if SubstP s ∧ Ok t ∧ (putT s t).nodes ≤ 5000 then putT s t else zeroTm
open Classical in
theorem ap_yes {s : List Bd} {t : Tm} (h : SubstP s ∧ Ok t ∧ (putT s t).nodes ≤ 5000) : apT s t = putT s t ∧ apB s t = true := ⟨by rw [apT, if_pos h], by rw [apB, decide_eq_true h]⟩
open Classical in
theorem ap_no {s : List Bd} {t : Tm} (h : ¬ (SubstP s ∧ Ok t ∧ (putT s t).nodes ≤ 5000)) : apT s t = zeroTm ∧ apB s t = false := ⟨by rw [apT, if_neg h], by rw [apB, decide_eq_false h]⟩
/-! The To of a variable, where the list is a substitution. -/
open Classical in
noncomputable def luB (s : List Bd) (v : Int) : Bool := decide (getB s v = true ∧ SubstP s)
open Classical in
noncomputable def luT (s : List Bd) (v : Int) : Tm := if getB s v = true ∧ SubstP s then getT s v else zeroTm
open Classical in
theorem lu_yes {s : List Bd} {v : Int} (h : getB s v = true ∧ SubstP s) : luT s v = getT s v ∧ luB s v = true := ⟨by rw [luT, if_pos h], by rw [luB, decide_eq_true h]⟩
open Classical in
theorem lu_no {s : List Bd} {v : Int} (h : ¬ (getB s v = true ∧ SubstP s)) : luT s v = zeroTm ∧ luB s v = false := ⟨by rw [luT, if_neg h], by rw [luB, decide_eq_false h]⟩
theorem getT_sz {s : List Bd} (v : Int) (h : szB s ≤ 1048576) : (getT s v).sz ≤ 1048576 := by
  cases hg : getO s v with
  | none => rw [(get_no hg).1, zeroTm, Tm.sz, szL]; exact Nat.zero_le _
  | some t =>
    obtain ⟨b, hb, _, rfl⟩ := getO_some hg
    obtain ⟨j, hj⟩ := List.getElem?_of_mem hb
    rw [(get_yes hg).1]
    have := szB_at hj
    omega
theorem lu_sz {s : List Bd} (v : Int) (h : szB s ≤ 1048576) : (luT s v).sz ≤ 1048576 := by
  unfold luT
  split
  · exact getT_sz v h
  · rw [zeroTm, Tm.sz, szL]; exact Nat.zero_le _
end Go.Proofs.YtjmmeccfjanpcaaDoor

