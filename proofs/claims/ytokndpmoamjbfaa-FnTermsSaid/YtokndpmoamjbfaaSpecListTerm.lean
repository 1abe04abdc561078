/-
  ListTerm: what it answers; the model's. (Written by gen_list.py.)
-/
import Derived.Test.YtokndpmoamjbfaaSpecList
namespace Go.Proofs.Ytokndpmoamjbfaa
open Go.RowKit
set_option linter.unusedVariables false
set_option linter.unusedSimpArgs false

def LtOk (l : List Tm) (t : Tm) : Prop := (∀ x ∈ l, Ok x) ∧ Ok t ∧ (listT l t).nodes ≤ 5000
open Classical in
noncomputable def ltB (l : List Tm) (t : Tm) : Bool := decide (LtOk l t)
open Classical in
noncomputable def ltT (l : List Tm) (t : Tm) : Tm := if LtOk l t then listT l t else zeroTm
theorem lt_no {l : List Tm} {t : Tm} (h : ¬ LtOk l t) : ltT l t = zeroTm ∧ ltB l t = false := ⟨by rw [ltT, if_neg h], by simp [ltB, h]⟩
theorem lt_yes {l : List Tm} {t : Tm} (h : LtOk l t) : ltT l t = listT l t ∧ ltB l t = true := ⟨by rw [ltT, if_pos h], by simp [ltB, h]⟩
theorem lt_sz (l : List Tm) (t : Tm) : (ltT l t).sz ≤ 1048576 := by
  by_cases h : LtOk l t
  · rw [(lt_yes h).1]
    have h1 := good_sz (listT_good (fun x hx => (h.1 x hx).2) h.2.1.2)
    have h2 := h.2.2
    omega
  · rw [(lt_no h).1]
    simp [zeroTm, Tm.sz, szL, ByteArray.size]
theorem all_ok {l : List Tm} : l.all okB = true ↔ ∀ x ∈ l, Ok x := by
  rw [List.all_eq_true]
  exact ⟨fun h x hx => okB_true.1 (h x hx), fun h x hx => okB_true.2 (h x hx)⟩
theorem all_no {l : List Tm} (h : l.all okB = false) : ¬ ∀ x ∈ l, Ok x := fun hh => by rw [all_ok.2 hh] at h; exact Bool.noConfusion h

end Go.Proofs.Ytokndpmoamjbfaa

