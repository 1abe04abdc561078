/-
  The drawing of terms in the laws: a term of the right form, its blocks new, the cursor's block alone written.
  Terms drawn: l02Atom, l02Draw, MakeTerm, MakeSize.
  Terms drawn: l02Draw.
  Terms drawn by the laws: MakeTerm, MakeTerms, MakeSize.
-/
import Derived.Test.YtnbnepeikdieaaaDoorItems
import Derived.Test.YtnbnepeikdieaaaDoorCursor
import Derived.Deep.RegionHeld3
import Derived.Deep.RegionWith
import Derived.IntWalk
namespace Go.Proofs.YtnbnepeikdieaaaDoor
open Go.RowKit
set_option linter.unusedVariables false
set_option linter.unusedSimpArgs false

theorem only_grown {w w' : World} {p : Nat} (h : w.grownBy w' (some p)) : Only (iv p (p + 1)) w w' := Only.of_grown h ⟨Nat.le_refl _, Nat.lt_succ_self _⟩
/-- What is written later in a block that was new is no write. -/
theorem only_new {w w1 w2 : World} {p b : Nat} (h : Only (iv p (p + 1)) w w1) (h2 : Only (iv b (b + 1)) w1 w2) (hb : w.heap.size ≤ b) : Only (iv p (p + 1)) w w2 :=
  ⟨h2.os.trans h.os, h2.tape.trans h.tape, h2.output.trans h.output, Nat.le_trans h.size h2.size, fun k hk hn => (h2.block k (Nat.lt_of_lt_of_le hk h.size) fun x => by have := x.1; omega).trans (h.block k hk hn)⟩
theorem only_below {S : Nat → Prop} {w w1 w2 : World} (h : Only S w w1) (hb : Below w1.heap.size w1 w2) : Only S w w2 := h.trans (Only.of_below hb)

/-- What a drawn term is: closed under what l02Draw makes, its variables below v. -/
structure Closed (v : Int) (G : Tm → Prop) : Prop where
  nil : G (.mk 0 0 ⟨#[]⟩ [])
  sym : ∀ s, isName s = true → G (.mk 2 0 s [])
  int : ∀ r : Int, 0 ≤ r → r ≤ 100 → G (.mk 3 r ⟨#[]⟩ [])
  var : ∀ i : Int, 0 ≤ i → i < v → G (.mk 1 i ⟨#[]⟩ [])
  pair : ∀ x y, G x → G y → G (.mk 4 0 ⟨#[]⟩ [x, y])
theorem closed_good {v : Int} (h : v ≤ 256) : Closed v Good := ⟨.nil, .sym, fun r _ _ => .int r (by omega) (by omega), fun i _ _ => .var i (by omega) (by omega), .pair⟩
theorem atom_args {w : World} {S : Nat → Prop} {l : List Tm} (h : l = []) : ArgsS w S (.slice none 0 0) l := by subst h; exact .nil _ _

theorem name_letter (x : UInt8) (h : 97 ≤ x.toNat ∧ x.toNat ≤ 122) : isName ⟨#[x]⟩ = true := by
  unfold isName
  rw [decide_eq_true_eq]
  refine ⟨⟨Nat.le_refl _, (by decide : (1 : Nat) ≤ 12)⟩, fun j hj => ?_⟩
  have h0 : j = 0 := by have : j < 1 := hj; omega
  subst h0
  show okByte (x.toNat : Int) 0
  unfold okByte
  omega
end Go.Proofs.YtnbnepeikdieaaaDoor

namespace Go.Proofs.YtnbnepeikdieaaaDoor
open Go.RowKit
set_option linter.unusedVariables false
set_option linter.unusedSimpArgs false

theorem nodes_atom {t : Tm} (h : t.args = []) : (t.nodes : Int) ≤ 1 := by rw [nodes_eq, h, nodesL]; decide
end Go.Proofs.YtnbnepeikdieaaaDoor

namespace Go.Proofs.YtnbnepeikdieaaaDoor
open Go.RowKit
set_option linter.unusedVariables false
set_option linter.unusedSimpArgs false

theorem half_facts {s : Int} (h : 2 < s) : 1 ≤ s / 2 ∧ 2 * (s / 2) ≤ s ∧ s.tdiv 2 = s / 2 := by
  refine ⟨by omega, by omega, Int.tdiv_eq_ediv_of_nonneg (by omega)⟩
theorem even_facts {r : Int} (h : 0 ≤ r) : r.tmod 2 = r % 2 := Int.tmod_eq_emod_of_nonneg h
/-- A bound on the nodes of what is drawn with a size, which is halved at each pair. -/
def HalfB (B : Int → Int) : Prop := (∀ s, 1 ≤ s → 1 ≤ B s) ∧ ∀ s, 2 < s → 1 + 2 * B (s / 2) ≤ B s
theorem half_plain : HalfB fun s => 2 * s - 1 := ⟨fun s h => by show 1 ≤ 2 * s - 1; omega, fun s h => by show 1 + 2 * (2 * (s / 2) - 1) ≤ 2 * s - 1; omega⟩
/-- The bound itself, for small sizes. -/
def smallB (s : Int) : Int := if s ≤ 2 then 1 else if s ≤ 5 then 3 else if s ≤ 11 then 7 else 2 * s - 1
theorem half_small : HalfB smallB := ⟨fun s h => by unfold smallB; split <;> (try split) <;> (try split) <;> omega, fun s h => by unfold smallB; split <;> (try split) <;> (try split) <;> (try split) <;> (try split) <;> (try split) <;> omega⟩
theorem pair_nodes {B : Int → Int} (hB : HalfB B) (x y : Tm) {s : Int} (hx : (x.nodes : Int) ≤ B (s / 2)) (hy : (y.nodes : Int) ≤ B (s / 2)) (hs : 2 < s) : ((Tm.mk 4 0 ⟨#[]⟩ [x, y]).nodes : Int) ≤ B s := by
  have := hB.2 s hs
  rw [Tm.nodes, nodesL, nodesL, nodesL]; omega

end Go.Proofs.YtnbnepeikdieaaaDoor

namespace Go.Proofs.YtnbnepeikdieaaaDoor
open Go.RowKit
set_option linter.unusedVariables false
set_option linter.unusedSimpArgs false

/-- The answer is a term of the right form and at most so many nodes. -/
def MadeG (G : Tm → Prop) (n : Int) (w : World) (e : Ending) (w' : World) : Prop :=
  ∃ (t : Tm) (x : Option Addr) (c : Nat), e = .returned (.agg #[.int .i64 t.kind, .int .i64 t.num, .string t.name, .slice x t.args.length c]) ∧ ArgsAt w' (.slice x t.args.length c) t.args ∧ G t ∧ (t.nodes : Int) ≤ n ∧ Below w.heap.size w w'
def MadeT (n : Int) (w : World) (e : Ending) (w' : World) : Prop := MadeG Good n w e w'

/-- The answer is a list of so many terms of the right form, at most so many nodes each. -/
def MadeL (m : Nat) (n : Int) (w : World) (e : Ending) (w' : World) : Prop :=
  ∃ (xs : List Tm) (x : Option Addr) (c : Nat), e = .returned (.slice x xs.length c) ∧ xs.length = m ∧ (∀ t ∈ xs, Good t ∧ (t.nodes : Int) ≤ n) ∧ ArgsAt w' (.slice x xs.length c) xs ∧ Below w.heap.size w w'

end Go.Proofs.YtnbnepeikdieaaaDoor

