/-
  The model's l04Apply, Lookup, ApplySubst.
-/
import Derived.Test.YtjmmeccfjanpcaaDoorSpecPut4
import Derived.Test.YtjmmeccfjanpcaaDoorSpecSubst
import Derived.Test.YtjmmeccfjanpcaaDoorItems
namespace Go.Proofs.YtjmmeccfjanpcaaDoor
open Go.RowKit
set_option linter.unusedVariables false
set_option linter.unusedSimpArgs false

theorem putT_good {s : List Bd} (hs : ∀ b ∈ s, Good b.t) : ∀ (n : Nat) (t : Tm), t.nodes ≤ n → Good t → Good (putT s t)
  | 0, t, h, _ => by have := nodes_pos t; omega
  | n + 1, t, h, hg => by
    by_cases h1 : t.kind = 1
    · rw [putT_var h1]
      split
      · rename_i x hx
        obtain ⟨b, hb, _, rfl⟩ := getO_some hx
        exact hs b hb
      · exact hg
    · by_cases h4 : t.kind = 4
      · obtain ⟨x, y, hxy⟩ := hg.fit.pair h4
        have hn := nodes_args2 hxy
        have h2 := (good_two hg.fit hxy).1 hg
        rw [putT_two h4 hxy]
        exact .pair _ _ (putT_good hs n x (by omega) h2.1) (putT_good hs n y (by omega) h2.2)
      · rw [putT_atom h1 h4]; exact hg
theorem putT_nodes {s : List Bd} {M : Nat} (hM : 1 ≤ M) (hs : ∀ b ∈ s, b.t.nodes ≤ M) : ∀ (n : Nat) (t : Tm), t.nodes ≤ n → Good t → (putT s t).nodes ≤ M * t.nodes
  | 0, t, h, _ => by have := nodes_pos t; omega
  | n + 1, t, h, hg => by
    have hp := nodes_pos t
    by_cases h1 : t.kind = 1
    · rw [putT_var h1]
      split
      · rename_i x hx
        obtain ⟨b, hb, _, rfl⟩ := getO_some hx
        exact Nat.le_trans (hs b hb) (Nat.le_mul_of_pos_right _ hp)
      · exact Nat.le_mul_of_pos_left _ hM
    · by_cases h4 : t.kind = 4
      · obtain ⟨x, y, hxy⟩ := hg.fit.pair h4
        have hn := nodes_args2 hxy
        have h2 := (good_two hg.fit hxy).1 hg
        have e : (Tm.mk 4 0 ⟨#[]⟩ [putT s x, putT s y]).nodes = 1 + (putT s x).nodes + (putT s y).nodes := nodes_args2 rfl
        have a := putT_nodes hM hs n x (by omega) h2.1
        have b := putT_nodes hM hs n y (by omega) h2.2
        rw [putT_two h4 hxy, e, hn, Nat.mul_add, Nat.mul_add]
        omega
      · rw [putT_atom h1 h4]; exact Nat.le_mul_of_pos_left _ hM
theorem SubstP.good {s : List Bd} (h : SubstP s) : ∀ b ∈ s, Good b.t := fun b hb => by
  obtain ⟨i, hi⟩ := List.getElem?_of_mem hb
  exact (h.1.1 i b hi).2.2
theorem SubstP.nodes {s : List Bd} (h : SubstP s) : ∀ b ∈ s, b.t.nodes ≤ 5000 := fun b hb => by
  obtain ⟨i, hi⟩ := List.getElem?_of_mem hb
  exact (h.1.1 i b hi).2.1
theorem putT_fine {s : List Bd} {t : Tm} (hs : SubstP s) (ht : Ok t) : Good (putT s t) ∧ (putT s t).nodes ≤ 25000000 ∧ (putT s t).sz ≤ 1099511627776 := by
  have h1 := putT_good hs.good t.nodes t (Nat.le_refl _) ht.2
  have h2 := putT_nodes (by decide) hs.nodes t.nodes t (Nat.le_refl _) ht.2
  have h3 : 5000 * t.nodes ≤ 5000 * 5000 := Nat.mul_le_mul_left _ ht.1
  have h4 := good_sz h1
  exact ⟨h1, by omega, by omega⟩

/-- A term, shared with what was there, and whether. -/
def OldS2 (S : Nat → Prop) (t : Tm) (b : Bool) (w : World) (e : Ending) (w' : World) : Prop :=
  ∃ u, e = .returned (.tuple #[.agg #[.int .i64 t.kind, .int .i64 t.num, .string t.name, u], .bool b]) ∧ ArgsS w' (fun k => S k ∨ (w.heap.size ≤ k ∧ k < w'.heap.size)) u t.args ∧ Below w.heap.size w w'
/-- The return of a struct of four cells that lies in the result's variable, and of a second result. -/
theorem bodyPost_row2 {P : Program} {fn : Func} {R : Ending → World → Prop} {a : Act} {w : World} {p q : Tmp} {ty e : TypeId} {b : Nat} {y0 y1 y2 y3 z : Value} {d : TypeDesc} (h : fn.results = #[.cell p ty, .tmp q]) (hp : a.tmps.getD p undef = .pointer (some ⟨b, 0, none⟩)) (hq : a.tmps.getD q undef = z) (hd : a.defers = [])
    (hu : P.underlying ty = some d) (hdd : (match d with | .struct _ | .array _ _ => true | _ => false) = true) (hi : (P.info? ty).map (·.size) = some 4) (hb : w.heap[b]? = some (Obj.cells #[y0, y1, y2, y3] e))
    (hR : R (.returned (.tuple #[.agg #[y0, y1, y2, y3], z])) w) : bodyPost P fn R .ret a w := by
  subst hq
  exact bodyPost_ret (results_cell_row2 h _ _ b e #[y0, y1, y2, y3] (0, 0) d hp hb hu hdd hi) hd hR
theorem only_store4 {w W : World} {b : Nat} (h : Only (fun k => k = b) w W) (y0 y1 y2 y3 : Value) : Only (fun k => k = b) w ((((W.setCell ⟨b, 0, none⟩ y0).setCell ⟨b, 1, none⟩ y1).setCell ⟨b, 2, none⟩ y2).setCell ⟨b, 3, none⟩ y3) := by
  have one : ∀ (W : World) (j : Nat) (u : Value), Only (fun k => k = b) W (W.setCell ⟨b, j, none⟩ u) := fun W j u => ⟨rfl, rfl, rfl, by simp, fun k _ hk => Below.heap_setCell _ _ _ _ hk⟩
  exact (((h.trans (one _ _ _)).trans (one _ _ _)).trans (one _ _ _)).trans (one _ _ _)
theorem fits_dec {n : Nat} : decide (n ≤ 5000) = true ∨ decide (n ≤ 5000) = false := by cases decide (n ≤ 5000) <;> simp

end Go.Proofs.YtjmmeccfjanpcaaDoor

