/-
  Terms read from tokens, plain: over what a token that is no bracket stands for.
-/
import Derived.Test.YtjmmeccfjanpcaaDoorNews
import Derived.Test.YtjmmeccfjanpcaaDoorNums
import Derived.Test.YtjmmeccfjanpcaaDoorPuts
namespace Go.Proofs.YtjmmeccfjanpcaaDoor
open Go.RowKit
set_option linter.unusedVariables false
set_option linter.unusedSimpArgs false

def tokL : ByteArray := ⟨#[40]⟩
def tokR : ByteArray := ⟨#[41]⟩
def tokD : ByteArray := ⟨#[46]⟩
def pairT (x y : Tm) : Tm := .mk 4 0 ⟨#[]⟩ [x, y]
mutual
def anyP (L : ByteArray → Option Tm) : Nat → List ByteArray → Nat → Option (Tm × Nat)
  | 0, _, _ => none
  | k + 1, T, i => if T[i]? = some tokL then (if T[i + 1]? = some tokR then some (zeroTm, i + 2) else elemP L k T (i + 1)) else match T[i]? with | none => none | some x => match L x with | none => none | some t => some (t, i + 1)
def elemP (L : ByteArray → Option Tm) : Nat → List ByteArray → Nat → Option (Tm × Nat)
  | 0, _, _ => none
  | k + 1, T, i => match anyP L k T i with | none => none | some (x, j) => match restP L k T j with | none => none | some (y, m) => some (pairT x y, m)
def restP (L : ByteArray → Option Tm) : Nat → List ByteArray → Nat → Option (Tm × Nat)
  | 0, _, _ => none
  | k + 1, T, i => if T[i]? = some tokR then some (zeroTm, i + 1) else if T[i]? = some tokD then (match anyP L k T (i + 1) with | none => none | some (y, j) => if T[j]? = some tokR then some (y, j + 1) else none) else elemP L k T i
end

theorem at_lt {T : List ByteArray} {i : Nat} {x : ByteArray} (h : T[i]? = some x) : i < T.length := (List.getElem?_eq_some_iff.1 h).1
theorem any_open {L : ByteArray → Option Tm} {k : Nat} {T : List ByteArray} {i : Nat} (h : T[i]? = some tokL) (h2 : T[i + 1]? = some tokR) : anyP L (k + 1) T i = some (zeroTm, i + 2) := by rw [anyP, if_pos h, if_pos h2]
theorem any_elem {L : ByteArray → Option Tm} {k : Nat} {T : List ByteArray} {i : Nat} (h : T[i]? = some tokL) (h2 : ¬ T[i + 1]? = some tokR) : anyP L (k + 1) T i = elemP L k T (i + 1) := by rw [anyP, if_pos h, if_neg h2]
theorem any_end {L : ByteArray → Option Tm} {k : Nat} {T : List ByteArray} {i : Nat} (h : T[i]? = none) : anyP L (k + 1) T i = none := by rw [anyP, if_neg (by rw [h]; simp), h]
theorem any_leaf {L : ByteArray → Option Tm} {k : Nat} {T : List ByteArray} {i : Nat} {x : ByteArray} {t : Tm} (h : T[i]? = some x) (hx : ¬ x = tokL) (hl : L x = some t) : anyP L (k + 1) T i = some (t, i + 1) := by
  rw [anyP, if_neg (by rw [h]; simpa using hx), h]; simp only [hl]
theorem any_no {L : ByteArray → Option Tm} {k : Nat} {T : List ByteArray} {i : Nat} {x : ByteArray} (h : T[i]? = some x) (hx : ¬ x = tokL) (hl : L x = none) : anyP L (k + 1) T i = none := by
  rw [anyP, if_neg (by rw [h]; simpa using hx), h]; simp only [hl]
theorem elem_no1 {L : ByteArray → Option Tm} {k : Nat} {T : List ByteArray} {i : Nat} (h : anyP L k T i = none) : elemP L (k + 1) T i = none := by rw [elemP, h]
theorem elem_no2 {L : ByteArray → Option Tm} {k : Nat} {T : List ByteArray} {i j : Nat} {x : Tm} (h : anyP L k T i = some (x, j)) (h2 : restP L k T j = none) : elemP L (k + 1) T i = none := by rw [elemP, h]; simp only [h2]
theorem elem_yes {L : ByteArray → Option Tm} {k : Nat} {T : List ByteArray} {i j m : Nat} {x y : Tm} (h : anyP L k T i = some (x, j)) (h2 : restP L k T j = some (y, m)) : elemP L (k + 1) T i = some (pairT x y, m) := by rw [elemP, h]; simp only [h2]
theorem rest_close {L : ByteArray → Option Tm} {k : Nat} {T : List ByteArray} {i : Nat} (h : T[i]? = some tokR) : restP L (k + 1) T i = some (zeroTm, i + 1) := by rw [restP, if_pos h]
theorem rest_elem {L : ByteArray → Option Tm} {k : Nat} {T : List ByteArray} {i : Nat} (h : ¬ T[i]? = some tokR) (h2 : ¬ T[i]? = some tokD) : restP L (k + 1) T i = elemP L k T i := by rw [restP, if_neg h, if_neg h2]
theorem rest_no1 {L : ByteArray → Option Tm} {k : Nat} {T : List ByteArray} {i : Nat} (h : T[i]? = some tokD) (h2 : anyP L k T (i + 1) = none) : restP L (k + 1) T i = none := by
  rw [restP, if_neg (by rw [h]; decide), if_pos h, h2]
theorem rest_no2 {L : ByteArray → Option Tm} {k : Nat} {T : List ByteArray} {i j : Nat} {y : Tm} (h : T[i]? = some tokD) (h2 : anyP L k T (i + 1) = some (y, j)) (h3 : ¬ T[j]? = some tokR) : restP L (k + 1) T i = none := by
  rw [restP, if_neg (by rw [h]; decide), if_pos h, h2]; simp only [if_neg h3]
theorem rest_yes {L : ByteArray → Option Tm} {k : Nat} {T : List ByteArray} {i j : Nat} {y : Tm} (h : T[i]? = some tokD) (h2 : anyP L k T (i + 1) = some (y, j)) (h3 : T[j]? = some tokR) : restP L (k + 1) T i = some (y, j + 1) := by
  rw [restP, if_neg (by rw [h]; decide), if_pos h, h2]; simp only [if_pos h3]
end Go.Proofs.YtjmmeccfjanpcaaDoor

