/-
  GroundTerms of both sides.
-/
import Derived.Test.YtoihimdfmncdoaaImplGround
import Derived.Test.YtoihimdfmncdoaaSpecGround
namespace Go.Proofs.Ytoihimdfmncdoaa
open Go.RowKit
set_option linter.unusedVariables false

theorem gt_ok (u : List Tm) (n : Int) : OkS (gtL u n) := by
  unfold gtL
  split
  · rename_i h
    exact h.2.2
  · exact OkS.nil
theorem gt_each (u : List Tm) (n : Int) : EachT (gtL u n) := okS_each (gt_ok u n)
theorem nodesG : ∀ (l : List Tm), (∀ t ∈ l, t.nodes ≤ 5000) → nodesL l ≤ l.length * 5000
  | [], _ => by simp [nodesL]
  | t :: l, h => by
    have h1 := nodesG l fun x hx => h x (by simp [hx])
    have h2 := h t (by simp)
    simp only [nodesL, List.length_cons]
    omega
theorem gt_nodes (u : List Tm) (n : Int) : nodesL (gtL u n) ≤ 5242885000 := by
  have h := gt_ok u n
  have h1 := nodesG (gtL u n) fun t ht => (h.2 t ht).1
  have h2 := h.1
  omega
theorem implGroundTerms_any (l : List Tm) (V : Value) (n : Int) (w : World) (hA : ArgsAt w V l) (hZ : szL l ≤ 1048576) :
    Calls Try.prog 37 #[V, .int .i64 n] w fun e w' => ∃ u, e = .returned u ∧ Own w' 25 (iv w.heap.size w'.heap.size) u (gtL l n) ∧ Below w.heap.size w w' :=
  (implGroundTerms_e l V n w hA (eachT_of (Nat.le_succ_of_le hZ))).mono fun e w' ⟨u, h1, h2⟩ => ⟨u, h1, h2.1, h2.2⟩
theorem specGroundTerms_any (l : List Tm) (V : Value) (n : Int) (w : World) (hA : ArgsAt w V l) (hZ : szL l ≤ 1048576) :
    Calls Try.prog 36 #[V, .int .i64 n] w fun e w' => ∃ u, e = .returned u ∧ ArgsAt w' u (gtL l n) ∧ Below w.heap.size w w' :=
  specGroundTerms_e l V n w hA (eachT_of (Nat.le_succ_of_le hZ))
end Go.Proofs.Ytoihimdfmncdoaa

