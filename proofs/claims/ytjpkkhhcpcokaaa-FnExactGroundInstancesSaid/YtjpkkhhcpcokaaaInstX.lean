/-
  GroundInstances of both sides.
-/
import Derived.Test.YtjpkkhhcpcokaaaImplInst
import Derived.Test.YtjpkkhhcpcokaaaSpecInst
namespace Go.Proofs.Ytjpkkhhcpcokaaa
open Go.RowKit
set_option linter.unusedVariables false

theorem gi_all (t : Tm) (u : List Tm) : (giL t u).length ≤ 512 ∧ ∀ x ∈ giL t u, Ok x := by
  by_cases h : Ok t ∧ UniP u
  · by_cases h3 : u.length ^ (ordOf [t]).length ≤ 512
    · by_cases h4 : ∀ s ∈ asgL u (ordOf [t]), (putT s t).nodes ≤ 5000
      · rw [inst_eq h.1 h.2 h3 h4]
        refine ⟨by unfold inL; rw [List.length_map, asg_len]; exact h3, fun x hx => ?_⟩
        obtain ⟨s, hs, rfl⟩ := List.mem_map.1 hx
        exact ⟨h4 s hs, (in_asc h.1.2 h.2).2 _ hx⟩
      · have h5 : ∃ s ∈ asgL u (ordOf [t]), ¬ (putT s t).nodes ≤ 5000 := Classical.byContradiction fun hn => h4 fun s hs => Classical.byContradiction fun hb => hn ⟨s, hs, hb⟩
        obtain ⟨s, hs, hb⟩ := h5
        rw [inst_large h.1 h.2 h3 hs hb]
        exact ⟨Nat.zero_le _, fun x hx => by cases hx⟩
    · rw [inst_many h.2 h3]
      exact ⟨Nat.zero_le _, fun x hx => by cases hx⟩
  · rw [inst_bad h]
    exact ⟨Nat.zero_le _, fun x hx => by cases hx⟩
theorem gi_each (t : Tm) (u : List Tm) : EachT (giL t u) := ⟨by have := (gi_all t u).1; omega, fun x hx => by
  have h1 := (gi_all t u).2 x hx
  have h2 := good_sz h1.2
  have h3 := h1.1
  omega⟩
theorem nodesI : ∀ (l : List Tm), (∀ t ∈ l, t.nodes ≤ 5000) → nodesL l ≤ l.length * 5000
  | [], _ => by simp [nodesL]
  | t :: l, h => by
    have h1 := nodesI l fun x hx => h x (by simp [hx])
    have h2 := h t (by simp)
    simp only [nodesL, List.length_cons]
    omega
theorem gi_nodes (t : Tm) (u : List Tm) : nodesL (giL t u) ≤ 5242885000 := by
  have h := gi_all t u
  have h1 := nodesI (giL t u) fun t ht => (h.2 t ht).1
  have h2 := h.1
  omega
theorem implGroundInstances_any (t : Tm) (Vt : Value) (u : List Tm) (Vu : Value) (w : World) (hT : ArgsAt w Vt t.args) (hZt : t.sz ≤ 1048576) (hA : ArgsAt w Vu u) (hZ : szL u ≤ 1048576) :
    Calls Try.prog 25 #[.agg #[.int .i64 t.kind, .int .i64 t.num, .string t.name, Vt], Vu] w fun e w' => ∃ U, e = .returned U ∧ Own w' 46 (iv w.heap.size w'.heap.size) U (giL t u) ∧ Below w.heap.size w w' :=
  (implGroundInstances_e t Vt u Vu w hT hZt hA (eachT_of (Nat.le_succ_of_le hZ))).mono fun e w' ⟨u, h1, h2⟩ => ⟨u, h1, h2.1, h2.2⟩
theorem specGroundInstances_any (t : Tm) (Vt : Value) (u : List Tm) (Vu : Value) (w : World) (hT : ArgsAt w Vt t.args) (hZt : t.sz ≤ 1048576) (hA : ArgsAt w Vu u) (hZ : szL u ≤ 1048576) :
    Calls Try.prog 23 #[.agg #[.int .i64 t.kind, .int .i64 t.num, .string t.name, Vt], Vu] w fun e w' => ∃ U, e = .returned U ∧ ArgsAt w' U (giL t u) ∧ Below w.heap.size w w' :=
  specInst_any t Vt u Vu w hT hZt hA (eachT_of (Nat.le_succ_of_le hZ))
end Go.Proofs.Ytjpkkhhcpcokaaa

