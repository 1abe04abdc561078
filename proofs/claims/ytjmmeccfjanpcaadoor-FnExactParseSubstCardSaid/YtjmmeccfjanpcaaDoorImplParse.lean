/-
  ParseTerms of the program.
-/
import Derived.Test.YtjmmeccfjanpcaaDoorValid
import Derived.Deep.LoopGhost
namespace Go.Proofs.YtjmmeccfjanpcaaDoor
open Go.RowKit
set_option linter.unusedVariables false
set_option linter.unusedSimpArgs false

theorem Rd.grown {w0 w w' : World} {p i cap : Nat} {sa : Option Addr} {T : List ByteArray} {r : Option Nat} (h : Rd w0 p sa cap T i w) (hg : w.grownBy w' r) (hne : ∀ k, r = some k → p < k) : Rd w0 p sa cap T i w' :=
  ⟨(hg.block p h.hi (fun e => by have := hne p e.symm; omega)).trans h.cell, h.toks, h.lo, h.old.trans (below_of_grown hg h.old.size (fun k hk => by have := hne k hk; have := h.lo; omega)), h.le, h.most⟩
theorem pt_none {s : ByteArray} (h : ptO s = none) : ptT s = [] ∧ ptB s = false := by rw [ptT, ptB, h]; exact ⟨rfl, rfl⟩
theorem pt_some {s : ByteArray} {l : List Tm} (h : ptO s = some l) : ptT s = l ∧ ptB s = true := by rw [ptT, ptB, h]; exact ⟨rfl, rfl⟩
theorem ptO_bad {s : ByteArray} (h : (tokensOf s).2 = false) : ptO s = none := by rw [ptO, h]; rfl
theorem ptO_ok {s : ByteArray} (h : (tokensOf s).2 = true) : ptO s = termsP (3 * (tokensOf s).1.length + 1) (tokensOf s).1 := by rw [ptO, h]; rfl
theorem terms_none {k : Nat} {T : List ByteArray} (h : allP k T T.length 0 = none) : termsP k T = none := by rw [termsP, h]
theorem terms_long {k : Nat} {T : List ByteArray} {l : List Tm} (h : allP k T T.length 0 = some l) (hl : 40 < l.length) : termsP k T = none := by rw [termsP, h]; simp only [if_neg (show ¬ l.length ≤ 40 by omega)]
theorem terms_some {k : Nat} {T : List ByteArray} {l : List Tm} (h : allP k T T.length 0 = some l) (hl : l.length ≤ 40) : termsP k T = some l := by rw [termsP, h]; simp only [if_pos hl]

end Go.Proofs.YtjmmeccfjanpcaaDoor

