/-
  A variable replaced: plain; the contract of the program's replaced.
-/
import Derived.Test.YtokndpmoamjbfaaDoorCopied
import Derived.Test.YtokndpmoamjbfaaDoorOcc
namespace Go.Proofs.YtokndpmoamjbfaaDoor
open Go.RowKit
set_option linter.unusedVariables false
set_option linter.unusedSimpArgs false

mutual
def Tm.put : Tm → Int → Tm → Tm | .mk k i s l, v, b => if k = 1 ∧ i = v then b else .mk k i s (putL l v b)
def putL : List Tm → Int → Tm → List Tm | [], _, _ => [] | t :: l, v, b => t.put v b :: putL l v b
end
theorem put_eq (v : Int) (b t : Tm) : t.put v b = if t.kind = 1 ∧ t.num = v then b else .mk t.kind t.num t.name (putL t.args v b) := by cases t; rw [Tm.put]; rfl
theorem put_var {v : Int} {b t : Tm} (h : t.kind = 1 ∧ t.num = v) : t.put v b = b := by rw [put_eq, if_pos h]
theorem put_atom {v : Int} {b t : Tm} (h : ¬ (t.kind = 1 ∧ t.num = v)) (ha : t.args = []) : t.put v b = t := by
  rw [put_eq, if_neg h, ha, putL]
  have := t.eta
  rw [ha] at this
  exact this
theorem put_pair {v : Int} {b t x y : Tm} (h : ¬ (t.kind = 1 ∧ t.num = v)) (ha : t.args = [x, y]) : t.put v b = .mk t.kind t.num t.name [x.put v b, y.put v b] := by
  rw [put_eq, if_neg h, ha, putL, putL, putL]
theorem good_put {v : Int} {b : Tm} (hb : Good b) {t : Tm} (h : Good t) : Good (t.put v b) := by
  induction h with
  | nil => rw [put_atom (by simp [Tm.kind]) rfl]; exact .nil
  | var i h0 h1 =>
    by_cases hv : i = v
    · rw [put_var (t := .mk 1 i ⟨#[]⟩ []) ⟨rfl, hv⟩]; exact hb
    · rw [put_atom (t := .mk 1 i ⟨#[]⟩ []) (fun h => hv h.2) rfl]; exact .var i h0 h1
  | sym s h => rw [put_atom (by simp [Tm.kind]) rfl]; exact .sym s h
  | int i h0 h1 => rw [put_atom (by simp [Tm.kind]) rfl]; exact .int i h0 h1
  | pair x y hx hy ihx ihy => rw [put_pair (by simp [Tm.kind]) rfl]; exact .pair _ _ ihx ihy
theorem nodes_two (k i : Int) (s : ByteArray) (x y : Tm) : (Tm.mk k i s [x, y]).nodes = 1 + x.nodes + y.nodes := by rw [Tm.nodes, nodesL, nodesL, nodesL]; omega
theorem nodes_put {v : Int} {b t : Tm} (h : Good t) : (t.put v b).nodes + t.occ v = t.nodes + t.occ v * b.nodes := by
  induction h with
  | nil => rw [put_atom (by simp [Tm.kind]) rfl, occ_eq, if_neg (by simp [Tm.kind])]; simp [Tm.args, occL]
  | var i h0 h1 =>
    by_cases hv : i = v
    · rw [put_var (t := .mk 1 i ⟨#[]⟩ []) ⟨rfl, hv⟩, occ_eq v (.mk 1 i ⟨#[]⟩ []), if_pos ⟨rfl, hv⟩, Tm.nodes, nodesL]; omega
    · rw [put_atom (t := .mk 1 i ⟨#[]⟩ []) (fun h => hv h.2) rfl, occ_eq v (.mk 1 i ⟨#[]⟩ []), if_neg (fun h => hv h.2)]; simp [Tm.args, occL]
  | sym s h => rw [put_atom (by simp [Tm.kind]) rfl, occ_eq, if_neg (by simp [Tm.kind])]; simp [Tm.args, occL]
  | int i h0 h1 => rw [put_atom (by simp [Tm.kind]) rfl, occ_eq, if_neg (by simp [Tm.kind])]; simp [Tm.args, occL]
  | pair x y hx hy ihx ihy =>
    rw [put_pair (by simp [Tm.kind]) rfl, nodes_two, nodes_two, occ_eq, if_neg (by simp [Tm.kind])]
    show 1 + (x.put v b).nodes + (y.put v b).nodes + occL v [x, y] = 1 + x.nodes + y.nodes + occL v [x, y] * b.nodes
    rw [occL, occL, occL, Nat.add_zero, Nat.add_mul]
    omega

end Go.Proofs.YtokndpmoamjbfaaDoor

