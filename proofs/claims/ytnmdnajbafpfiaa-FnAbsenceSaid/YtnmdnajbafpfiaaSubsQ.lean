/-
  The laws' helpers on bindings: eqBinding, eqBindingS, markBindingS, heldBindingS.
  Substitutions: how much they hold; the program's answers that are lists of bindings.
-/
import Derived.Test.YtnmdnajbafpfiaaRows3
import Derived.Deep.RegionHeld3
import Derived.Deep.Cut
import Derived.Test.YtnmdnajbafpfiaaSubstT
import Derived.Test.YtnmdnajbafpfiaaPuts
namespace Go.Proofs.Ytnmdnajbafpfiaa
open Go.RowKit
set_option linter.unusedVariables false
set_option linter.unusedSimpArgs false

def wkB (b : Bd) : Nat := 1 + 3 * b.t.nodes
def markBd (k : Int) (b : Bd) : Bd := ⟨k, markT (k + 1) b.t⟩
def markB (k : Int) (l : List Bd) : List Bd := markW markBd wkB k l
def nkB (l : List Bd) : Nat := sumW wkB l
theorem nkB_sz (l : List Bd) : nkB l ≤ 4 * szB l := by
  unfold nkB szB
  induction l with
  | nil => simp [sumW]
  | cons b l ih =>
    rw [sumW, sumW]
    have := nodes_sz b.t
    have e1 : wkB b = 1 + 3 * b.t.nodes := rfl
    have e2 : wdB b = 1 + b.t.sz := rfl
    omega

end Go.Proofs.Ytnmdnajbafpfiaa

namespace Go.Proofs.Ytnmdnajbafpfiaa
open Go.RowKit
set_option linter.unusedVariables false

theorem nk_bd {l : List Bd} (h : szB l ≤ 1048576) : nkB l ≤ 4294967296 := by have := nkB_sz l; omega
theorem szB_each {l : List Bd} {M : Nat} (h : ∀ b ∈ l, b.t.sz ≤ M) : szB l ≤ l.length * (M + 1) := by
  induction l with
  | nil => simp [szB_nil]
  | cons b l ih =>
    have h1 := ih fun x hx => h x (by simp [hx])
    have h2 := h b (by simp)
    have e : szB (b :: l) = wdB b + szB l := rfl
    have e2 : wdB b = 1 + b.t.sz := rfl
    rw [e, e2, List.length_cons, Nat.succ_mul]
    omega
theorem SubstP.each {s : List Bd} (h : SubstP s) : EachB s := ⟨by have := h.1.2.2; omega, fun b hb => by
  have h1 := good_sz (h.good b hb)
  have h2 := h.nodes b hb
  omega⟩
theorem SubstP.nk {s : List Bd} (h : SubstP s) : nkB s ≤ 4294967296 := by
  have h1 := szB_each (M := 1048575) h.each.2
  have h2 := h.1.2.2
  have h3 : s.length * (1048575 + 1) ≤ 400 * (1048575 + 1) := Nat.mul_le_mul_right _ h2
  have h4 := nkB_sz s
  omega
/-- The program's answer: a new list of the call's own, and whether. -/
def NewB2 (l : List Bd) (b : Bool) (w : World) (e : Ending) (w' : World) : Prop := ∃ v, e = .returned (.tuple #[v, .bool b]) ∧ ListO bdE 73 w' (iv w.heap.size w'.heap.size) v l ∧ Below w.heap.size w w'
/-- The program's answer: a new list of the call's own. -/
def NewB (l : List Bd) (w : World) (e : Ending) (w' : World) : Prop := ∃ v, e = .returned v ∧ ListO bdE 73 w' (iv w.heap.size w'.heap.size) v l ∧ Below w.heap.size w w'
end Go.Proofs.Ytnmdnajbafpfiaa

