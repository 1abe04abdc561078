/-
  AddKind: plain, and the model's. (Written by wip/tools/gen_speckind2.py.)
-/
import Derived.Test.YtnmdnajbafpfiaaSpecKind1
namespace Go.Proofs.Ytnmdnajbafpfiaa
open Go.RowKit
set_option linter.unusedVariables false
set_option linter.unusedSimpArgs false

def AdP (s : List Bd) (l : List Kd) (t : Tm) (k : Int) : Prop := apB s t = true ∧ KdsP l ∧ (k = 2 ∨ k = 3) ∧ (akR l (apT s t) k).2 = true
open Classical in
noncomputable def adB (s : List Bd) (l : List Kd) (t : Tm) (k : Int) : Bool := decide (AdP s l t k)
open Classical in
noncomputable def adL (s : List Bd) (l : List Kd) (t : Tm) (k : Int) : List Kd := if AdP s l t k then (akR l (apT s t) k).1 else []
theorem ad_yes {s : List Bd} {l : List Kd} {t : Tm} {k : Int} (h : AdP s l t k) : adL s l t k = (akR l (apT s t) k).1 ∧ adB s l t k = true := ⟨if_pos h, by simp [adB, h]⟩
theorem ad_no {s : List Bd} {l : List Kd} {t : Tm} {k : Int} (h : ¬ AdP s l t k) : adL s l t k = [] ∧ adB s l t k = false := ⟨if_neg h, by simp [adB, h]⟩
theorem insK_len (l : List Kd) (i : Nat) (x : Kd) : (insK l i x).length = l.length + 1 := by
  have h := congrArg List.length (List.take_append_drop i l)
  rw [List.length_append] at h
  rw [insK, List.length_append, List.length_cons]
  omega
theorem akR_len (l : List Kd) (t : Tm) (k : Int) : (akR l t k).1.length ≤ l.length + 1 := by
  unfold akR
  split
  · split
    · split
      · exact Nat.le_succ _
      · exact Nat.le_of_eq (insK_len _ _ _)
    · exact Nat.le_of_eq (insK_len _ _ _)
  · exact Nat.le_succ _
theorem ad_len (s : List Bd) (l : List Kd) (t : Tm) (k : Int) : (adL s l t k).length ≤ l.length + 1 := by
  by_cases h : AdP s l t k
  · rw [(ad_yes h).1]; exact akR_len _ _ _
  · rw [(ad_no h).1]; exact Nat.zero_le _
def OldK2 (l : List Kd) (b : Bool) (w : World) (e : Ending) (w' : World) : Prop := ∃ v, e = .returned (.tuple #[v, .bool b]) ∧ ListS kdE w' Any v l ∧ Below w.heap.size w w'

end Go.Proofs.Ytnmdnajbafpfiaa

