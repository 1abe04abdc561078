/-
  The model's functions on substitutions, in the form that the laws' walks take.
-/
import Derived.Test.YtnmdnajbafpfiaaSpecComp
import Derived.Test.YtnmdnajbafpfiaaSubsQ
namespace Go.Proofs.Ytnmdnajbafpfiaa
open Go.RowKit
set_option linter.unusedVariables false

theorem ap_sz (s : List Bd) (t : Tm) : (apT s t).sz ≤ 1048576 := by
  by_cases h : SubstP s ∧ Ok t ∧ (putT s t).nodes ≤ 5000
  · rw [(ap_yes h).1]
    have h1 := good_sz (putT_fine h.1 h.2.1).1
    have h2 := h.2.2
    omega
  · rw [(ap_no h).1, zeroTm, Tm.sz, szL]; exact Nat.zero_le _
theorem co_each (s t : List Bd) : EachB (coL s t) := by
  by_cases h : CompP s t
  · rw [(co_yes h).1]; exact h.2.2.2.each
  · rw [(co_no h).1]; exact ⟨Nat.zero_le _, fun b hb => by simp at hb⟩
theorem co_nk (s t : List Bd) : nkB (coL s t) ≤ 4294967296 := by
  by_cases h : CompP s t
  · rw [(co_yes h).1]; exact h.2.2.2.nk
  · rw [(co_no h).1]; exact Nat.zero_le _

theorem rs_each (s : List Bd) (vs : List Int) : EachB (rsB s vs) := by
  by_cases h : SubstP s
  · rw [rs_yes h]; exact keep_each h.each
  · rw [rs_no h]; exact ⟨Nat.zero_le _, fun b hb => by simp at hb⟩
theorem rs_nk (s : List Bd) (vs : List Int) : nkB (rsB s vs) ≤ 4294967296 := by
  by_cases h : SubstP s
  · rw [rs_yes h]
    have h1 := szB_each (M := 1048575) (keep_each (vs := vs) h.each).2
    have h2 : (keep s vs).length ≤ 400 := Nat.le_trans (List.length_filter_le _ _) h.1.2.2
    have h3 : (keep s vs).length * (1048575 + 1) ≤ 400 * (1048575 + 1) := Nat.mul_le_mul_right _ h2
    have h4 := nkB_sz (keep s vs)
    omega
  · rw [rs_no h]; exact Nat.zero_le _
end Go.Proofs.Ytnmdnajbafpfiaa

