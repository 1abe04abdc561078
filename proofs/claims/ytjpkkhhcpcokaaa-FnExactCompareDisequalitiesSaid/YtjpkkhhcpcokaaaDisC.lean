/-
  The order of disequalities, plain.
-/
import Derived.Test.YtjpkkhhcpcokaaaSubsQ
import Derived.Test.YtjpkkhhcpcokaaaCmps
namespace Go.Proofs.Ytjpkkhhcpcokaaa
open Go.RowKit
set_option linter.unusedVariables false

def bdCmp (a b : Bd) : Int := if a.v = b.v then a.t.cmp b.t else if a.v < b.v then -1 else 1
def dsCmp : List Bd → List Bd → Int
  | [], [] => 0
  | [], _ :: _ => -1
  | _ :: _, [] => 1
  | a :: s, b :: t => if bdCmp a b = 0 then dsCmp s t else bdCmp a b
noncomputable def cdI (d e : List Bd) : Int := if substB d && substB e then dsCmp d e else 2
theorem cd_yes {d e : List Bd} (h1 : SubstP d) (h2 : SubstP e) : cdI d e = dsCmp d e := by rw [cdI, substB_true.2 h1, substB_true.2 h2]; rfl
theorem cd_no {d e : List Bd} (h : substB d = false ∨ substB e = false) : cdI d e = 2 := by
  rw [cdI]
  rcases h with h | h
  · rw [h]; rfl
  · rw [h, Bool.and_false]; rfl
theorem ds_drop {d e : List Bd} {k : Nat} {x y : Bd} (hx : d[k]? = some x) (hy : e[k]? = some y) : dsCmp (d.drop k) (e.drop k) = if bdCmp x y = 0 then dsCmp (d.drop (k + 1)) (e.drop (k + 1)) else bdCmp x y := by
  obtain ⟨h1, rfl⟩ := List.getElem?_eq_some_iff.1 hx
  obtain ⟨h2, rfl⟩ := List.getElem?_eq_some_iff.1 hy
  rw [List.drop_eq_getElem_cons h1, List.drop_eq_getElem_cons h2, dsCmp]
theorem ds_short {d e : List Bd} {k : Nat} (h1 : d.length = k) (h2 : k < e.length) : dsCmp (d.drop k) (e.drop k) = -1 := by
  have e1 : d.drop k = [] := List.drop_eq_nil_of_le (by omega)
  rw [e1, List.drop_eq_getElem_cons h2, dsCmp]
theorem ds_long {d e : List Bd} {k : Nat} (h1 : e.length = k) (h2 : k < d.length) : dsCmp (d.drop k) (e.drop k) = 1 := by
  have e1 : e.drop k = [] := List.drop_eq_nil_of_le (by omega)
  rw [e1, List.drop_eq_getElem_cons h2, dsCmp]
theorem ds_both {d e : List Bd} {k : Nat} (h1 : d.length = k) (h2 : e.length = k) : dsCmp (d.drop k) (e.drop k) = 0 := by
  have e1 : e.drop k = [] := List.drop_eq_nil_of_le (by omega)
  have e2 : d.drop k = [] := List.drop_eq_nil_of_le (by omega)
  rw [e1, e2, dsCmp]
theorem bdCmp_bd (a b : Bd) : -1 ≤ bdCmp a b ∧ bdCmp a b ≤ 1 := by
  unfold bdCmp
  split
  · exact cmp_bd _ _
  · split <;> omega
theorem bdCmp_var {a b : Bd} (h : ¬ a.v = b.v) : bdCmp a b = if decide (a.v < b.v) = true then -1 else 1 := by
  rw [bdCmp, if_neg h]
  simp
theorem bdCmp_same {a b : Bd} (h : a.v = b.v) : bdCmp a b = a.t.cmp b.t := by rw [bdCmp, if_pos h]
end Go.Proofs.Ytjpkkhhcpcokaaa

