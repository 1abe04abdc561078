/-
  The drawing of terms in the laws: a term of the right form, its blocks new, the cursor's block alone written.
-/
import Derived.Test.YtjmmeccfjanpcaaDoorItems
import Derived.Test.YtjmmeccfjanpcaaDoorCursor
namespace Go.Proofs.YtjmmeccfjanpcaaDoor
open Go.RowKit
set_option linter.unusedVariables false
set_option linter.unusedSimpArgs false

theorem only_grown {w w' : World} {p : Nat} (h : w.grownBy w' (some p)) : Only (iv p (p + 1)) w w' := Only.of_grown h ⟨Nat.le_refl _, Nat.lt_succ_self _⟩
/-- What is written later in a block that was new is no write. -/
theorem only_new {w w1 w2 : World} {p b : Nat} (h : Only (iv p (p + 1)) w w1) (h2 : Only (iv b (b + 1)) w1 w2) (hb : w.heap.size ≤ b) : Only (iv p (p + 1)) w w2 :=
  ⟨h2.os.trans h.os, h2.tape.trans h.tape, h2.output.trans h.output, Nat.le_trans h.size h2.size, fun k hk hn => (h2.block k (Nat.lt_of_lt_of_le hk h.size) fun x => by have := x.1; omega).trans (h.block k hk hn)⟩
theorem only_below {S : Nat → Prop} {w w1 w2 : World} (h : Only S w w1) (hb : Below w1.heap.size w1 w2) : Only S w w2 := h.trans (Only.of_below hb)

/-- What a drawn term is: closed under what l02Draw makes, its variables below v. -/
structure Closed (v : Int) (G : Tm → Prop) : Prop where
  nil : G (.mk 0 0 ⟨#[]⟩ [])
  sym : ∀ s, isName s = true → G (.mk 2 0 s [])
  int : ∀ r : Int, 0 ≤ r → r ≤ 100 → G (.mk 3 r ⟨#[]⟩ [])
  var : ∀ i : Int, 0 ≤ i → i < v → G (.mk 1 i ⟨#[]⟩ [])
  pair : ∀ x y, G x → G y → G (.mk 4 0 ⟨#[]⟩ [x, y])
theorem closed_good {v : Int} (h : v ≤ 256) : Closed v Good := ⟨.nil, .sym, fun r _ _ => .int r (by omega) (by omega), fun i _ _ => .var i (by omega) (by omega), .pair⟩
theorem atom_args {w : World} {S : Nat → Prop} {l : List Tm} (h : l = []) : ArgsS w S (.slice none 0 0) l := by subst h; exact .nil _ _

theorem name_letter (x : UInt8) (h : 97 ≤ x.toNat ∧ x.toNat ≤ 122) : isName ⟨#[x]⟩ = true := by
  unfold isName
  rw [decide_eq_true_eq]
  refine ⟨⟨Nat.le_refl _, (by decide : (1 : Nat) ≤ 12)⟩, fun j hj => ?_⟩
  have h0 : j = 0 := by have : j < 1 := hj; omega
  subst h0
  show okByte (x.toNat : Int) 0
  unfold okByte
  omega
end Go.Proofs.YtjmmeccfjanpcaaDoor

