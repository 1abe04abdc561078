/-
  A disequality holds of values, plain.
-/
import Derived.Test.YtjpkkhhcpcokaaaInstD
namespace Go.Proofs.Ytjpkkhhcpcokaaa
open Go.RowKit
set_option linter.unusedVariables false

/-- The values of a variable and of what it is bound to differ. -/
noncomputable def dhOne (l : List Bd) (b : Bd) : Bool := fitB l b.t && !((putT l (varTm b.v)).cmp (putT l b.t) == 0)
noncomputable def dhB (d l : List Bd) : Bool := substB d && (valuesB l && d.any (dhOne l))
/-- As the model asks it. -/
noncomputable def dhSpec (l : List Bd) (b : Bd) : Bool := instB l (varTm b.v) && (instB l b.t && !((instT l (varTm b.v)).cmp (instT l b.t) == 0))
theorem varTm_okR {v : Int} (h : 0 ≤ v ∧ v ≤ 100000) : Ok (varTm v) := ⟨by simp [varTm, Tm.nodes, nodesL], .var v h.1 h.2⟩
theorem varTm_szR {v : Int} (h : 0 ≤ v ∧ v ≤ 100000) : (varTm v).sz ≤ 1048576 := by
  have h1 := good_sz (varTm_okR h).2
  have h2 := (varTm_okR h).1
  omega
theorem getO_of_values {l : List Bd} (hl : ValuesP l) {v : Int} {y : Tm} (h : getO l v = some y) : Ok y := by
  obtain ⟨b, hb, _, rfl⟩ := getO_some h
  obtain ⟨k, hk⟩ := List.getElem?_of_mem hb
  exact (hl.1 k b hk).2
theorem var_fits {l : List Bd} (hl : ValuesP l) {v : Int} : fitB l (varTm v) = true ∧ (putT l (varTm v)).nodes ≤ 5000 := by
  have h : (putT l (varTm v)).nodes ≤ 5000 := by
    rw [putT_var rfl]
    cases hg : getO l (varTm v).num with
    | none => simp [varTm, Tm.nodes, nodesL]
    | some y => exact (getO_of_values hl hg).1
  exact ⟨by unfold fitB; exact decide_eq_true h, h⟩
theorem dh_one {l : List Bd} (hl : ValuesP l) {b : Bd} (hv : 0 ≤ b.v ∧ b.v ≤ 100000) (ht : Ok b.t) : dhSpec l b = dhOne l b := by
  obtain ⟨e1, e2⟩ := in_fit (varTm_okR hv) hl
  obtain ⟨e3, e4⟩ := in_fit ht hl
  obtain ⟨e5, e6⟩ := var_fits hl (v := b.v)
  unfold dhSpec dhOne
  rw [e1, e2, e3, e4, e5, Bool.true_and]
  cases hf : fitB l b.t with
  | false => rfl
  | true =>
    have h : (putT l b.t).nodes ≤ 5000 := by unfold fitB at hf; exact of_decide_eq_true hf
    rw [fitT, if_pos e6, fitT, if_pos h]
theorem dh_none {l : List Bd} (hl : ¬ ValuesP l) (b : Bd) : dhSpec l b = false := by
  unfold dhSpec
  rw [(in_no (t := varTm b.v) fun h => hl h.2).2, Bool.false_and]
theorem dh_same {d l : List Bd} (hd : SubstP d) : d.any (dhSpec l) = (valuesB l && d.any (dhOne l)) := by
  by_cases hl : ValuesP l
  · rw [valuesB_true.2 hl, Bool.true_and]
    rw [Bool.eq_iff_iff, List.any_eq_true, List.any_eq_true]
    constructor
    · rintro ⟨b, hb, h⟩
      obtain ⟨k, hk⟩ := List.getElem?_of_mem hb
      obtain ⟨h1, h2⟩ := hd.1.1 k b hk
      exact ⟨b, hb, by rw [← dh_one hl h1 h2]; exact h⟩
    · rintro ⟨b, hb, h⟩
      obtain ⟨k, hk⟩ := List.getElem?_of_mem hb
      obtain ⟨h1, h2⟩ := hd.1.1 k b hk
      exact ⟨b, hb, by rw [dh_one hl h1 h2]; exact h⟩
  · rw [valuesB_false.2 hl, Bool.false_and, List.any_eq_false]
    intro b _
    rw [dh_none hl b]
    simp
theorem dh_bad {d l : List Bd} (h : ¬ SubstP d) : dhB d l = false := by rw [dhB, substB_false.2 h, Bool.false_and]
theorem dh_bad2 {d l : List Bd} (h : ¬ ValuesP l) : dhB d l = false := by rw [dhB, valuesB_false.2 h, Bool.false_and, Bool.and_false]
theorem dh_spec {d l : List Bd} (h : SubstP d) : dhB d l = d.any (dhSpec l) := by rw [dhB, substB_true.2 h, Bool.true_and, dh_same h]
theorem dh_impl {d l : List Bd} (h : SubstP d) (h2 : ValuesP l) : dhB d l = d.any (dhOne l) := by rw [dhB, substB_true.2 h, valuesB_true.2 h2, Bool.true_and, Bool.true_and]
theorem any_snoc {p : Bd → Bool} {d : List Bd} {k : Nat} {x : Bd} (hx : d[k]? = some x) (h : (d.take k).any p = false) (h2 : p x = false) : (d.take (k + 1)).any p = false := by
  rw [List.take_add_one, hx, List.any_append, h]
  simp [h2]
theorem any_hit {p : Bd → Bool} {d : List Bd} {k : Nat} {x : Bd} (hx : d[k]? = some x) (h : p x = true) : d.any p = true := List.any_eq_true.2 ⟨x, List.mem_of_getElem? hx, h⟩
end Go.Proofs.Ytjpkkhhcpcokaaa

