/-
  RefreshKinds: plain, and the model's. (Written by wip/tools/gen_speckind3.py.)
-/
import Derived.Test.YtnmdnajbafpfiaaSpecKind2
import Derived.Test.YtnmdnajbafpfiaaSpecU5
namespace Go.Proofs.Ytnmdnajbafpfiaa
open Go.RowKit
set_option linter.unusedVariables false
set_option linter.unusedSimpArgs false

/-- What is left of the requirements l, those of acc taken already. -/
def rfR (s : List Bd) : List Kd → List Kd → List Kd × Bool
  | [], acc => (acc, true)
  | x :: l, acc => if (akR acc (walkT s (varTm x.v)) x.k).2 = true then rfR s l (akR acc (walkT s (varTm x.v)) x.k).1 else ([], false)
theorem rfR_nil (s : List Bd) (acc : List Kd) : rfR s [] acc = (acc, true) := rfl
theorem rfR_on {s : List Bd} {l acc : List Kd} {k : Nat} {x : Kd} (hx : l[k]? = some x) (h : (akR acc (walkT s (varTm x.v)) x.k).2 = true) : rfR s (l.drop k) acc = rfR s (l.drop (k + 1)) (akR acc (walkT s (varTm x.v)) x.k).1 := by
  obtain ⟨hk, rfl⟩ := List.getElem?_eq_some_iff.1 hx
  rw [List.drop_eq_getElem_cons hk, rfR, if_pos h]
theorem rfR_off {s : List Bd} {l acc : List Kd} {k : Nat} {x : Kd} (hx : l[k]? = some x) (h : (akR acc (walkT s (varTm x.v)) x.k).2 = false) : rfR s (l.drop k) acc = ([], false) := by
  obtain ⟨hk, rfl⟩ := List.getElem?_eq_some_iff.1 hx
  rw [List.drop_eq_getElem_cons hk, rfR, if_neg (by rw [h]; exact Bool.false_ne_true)]
theorem rfR_len (s : List Bd) : ∀ (l acc : List Kd), (rfR s l acc).1.length ≤ acc.length + l.length
  | [], acc => Nat.le_refl _
  | x :: l, acc => by
    rw [rfR]
    split
    · have h1 := rfR_len s l (akR acc (walkT s (varTm x.v)) x.k).1
      have h2 := akR_len acc (walkT s (varTm x.v)) x.k
      rw [List.length_cons]
      omega
    · exact Nat.zero_le _

def RfP (s : List Bd) (l : List Kd) : Prop := SubstP s ∧ KdsP l ∧ (rfR s l []).2 = true
open Classical in
noncomputable def rfB (s : List Bd) (l : List Kd) : Bool := decide (RfP s l)
open Classical in
noncomputable def rfL (s : List Bd) (l : List Kd) : List Kd := if SubstP s ∧ KdsP l then (rfR s l []).1 else []
theorem rf_yes {s : List Bd} {l : List Kd} (h : SubstP s ∧ KdsP l) : rfL s l = (rfR s l []).1 ∧ rfB s l = (rfR s l []).2 := by
  refine ⟨if_pos h, ?_⟩
  cases e : (rfR s l []).2 with
  | true => simp [rfB, RfP, h, e]
  | false => simp [rfB, RfP, h, e]
theorem rf_no {s : List Bd} {l : List Kd} (h : ¬ (SubstP s ∧ KdsP l)) : rfL s l = [] ∧ rfB s l = false := ⟨if_neg h, by
  have h2 : ¬ RfP s l := fun hh => h ⟨hh.1, hh.2.1⟩
  simp [rfB, h2]⟩
theorem rf_len (s : List Bd) (l : List Kd) : (rfL s l).length ≤ l.length := by
  by_cases h : SubstP s ∧ KdsP l
  · rw [(rf_yes h).1]; have := rfR_len s l []; simpa using this
  · rw [(rf_no h).1]; exact Nat.zero_le _

end Go.Proofs.Ytnmdnajbafpfiaa

