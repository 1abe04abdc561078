/-
  The contracts of the laws' helpers that copy a term into the program's type: toTerm, toTermS.
-/
import Derived.Test.YtokndpmoamjbfaaSz
import Derived.Handy
namespace Go.Proofs.Ytokndpmoamjbfaa
open Go.RowKit

theorem heap_new (w : World) (o : Obj) : (w.alloc o).heap[w.heap.size]? = some o := by
  show (w.heap.push o)[w.heap.size]? = _
  simp
theorem heap3_1 (w : World) (o1 o2 o3 : Obj) : (((w.alloc o1).alloc o2).alloc o3).heap[w.heap.size + 1]? = some o2 := by
  refine (Below.heap_alloc _ _ _ (by simp)).trans ?_
  have := heap_new (w.alloc o1) o2
  rwa [show (w.alloc o1).heap.size = w.heap.size + 1 from by simp] at this
theorem heap3_2 (w : World) (o1 o2 o3 : Obj) : (((w.alloc o1).alloc o2).alloc o3).heap[w.heap.size + 1 + 1]? = some o3 := by
  have := heap_new ((w.alloc o1).alloc o2) o3
  rwa [show ((w.alloc o1).alloc o2).heap.size = w.heap.size + 1 + 1 from by simp] at this
theorem box_cells {w : World} {b : Nat} {e : TypeId} {x0 x1 x2 x3 : Value} (h : w.heap[b]? = some (Obj.cells #[x0, x1, x2, x3] e)) :
    w.cell? ⟨b, 0, none⟩ = some x0 ∧ w.cell? ⟨b, 1, none⟩ = some x1 ∧ w.cell? ⟨b, 2, none⟩ = some x2 ∧ w.cell? ⟨b, 3, none⟩ = some x3 ∧ ∀ j, w.frozen? ⟨b, j, none⟩ = false :=
  ⟨cell_of_row w b 0 _ _ _ h, cell_of_row w b 1 _ _ _ h, cell_of_row w b 2 _ _ _ h, cell_of_row w b 3 _ _ _ h, fun j => frozen_of_row w b j _ _ h⟩
/-- The return of a struct of four cells that has just been stored into the result's variable. -/
theorem bodyPost_four {P : Program} {fn : Func} {R : Ending → World → Prop} {a : Act} {w : World} {p : Tmp} {ty e : TypeId} {b : Nat} {x0 x1 x2 x3 y0 y1 y2 y3 : Value} {d : TypeDesc} (h : fn.results = #[.cell p ty]) (hp : a.tmps.getD p undef = .pointer (some ⟨b, 0, none⟩)) (hd : a.defers = [])
    (hu : P.underlying ty = some d) (hdd : (match d with | .struct _ | .array _ _ => true | _ => false) = true) (hi : (P.info? ty).map (·.size) = some 4) (hb : w.heap[b]? = some (Obj.cells #[x0, x1, x2, x3] e))
    (hR : ∀ w', Only (fun k => k = b) w w' → R (.returned (.agg #[y0, y1, y2, y3])) w') :
    bodyPost P fn R .ret a ((((w.setCell ⟨b, 0, none⟩ y0).setCell ⟨b, 1, none⟩ y1).setCell ⟨b, 2, none⟩ y2).setCell ⟨b, 3, none⟩ y3) := by
  have h0 := heap_setCell_same w b 0 _ e y0 hb
  have h1 := heap_setCell_same _ b 1 _ e y1 h0
  have h2 := heap_setCell_same _ b 2 _ e y2 h1
  have h3 := heap_setCell_same _ b 3 _ e y3 h2
  refine bodyPost_ret (results_cell_row h _ _ b e #[y0, y1, y2, y3] (0, 0) d hp h3 hu hdd hi) hd (hR _ ?_)
  have one : ∀ (W : World) (j : Nat) (u : Value), Only (fun k => k = b) W (W.setCell ⟨b, j, none⟩ u) := fun W j u => ⟨rfl, rfl, rfl, by simp, fun k _ hk => Below.heap_setCell _ _ _ _ hk⟩
  exact (((one _ _ _).trans (one _ _ _)).trans (one _ _ _)).trans (one _ _ _)
def iv (a b : Nat) (k : Nat) : Prop := a ≤ k ∧ k < b
theorem infoTerm : (Try.prog.info? 25).map (fun i => (i.zero, i.size, i.bytes)) = some (some (.agg #[.int .i64 0, .int .i64 0, .string ⟨#[]⟩, .slice none 0 0]), 4, 56) := by kernel_rfl

/-- The answer is a new tree of the call's own. -/
def NewTree (l : List Tm) (w : World) (u : Value) (w' : World) : Prop := Own w' 25 (iv w.heap.size w'.heap.size) u l ∧ Below w.heap.size w w'

theorem NewTree.after {l : List Tm} {w W w1 w' : World} {u : Value} (h : NewTree l W u w1) (hW : Below w.heap.size w W) (ho : Only (iv w.heap.size W.heap.size) w1 w') : NewTree l w u w' := by
  obtain ⟨h1, h2⟩ := h
  have h3 := h2.size
  have h4 := hW.size
  refine ⟨(h1.only ho fun k hk hx => by unfold iv at hk hx; omega).sub fun k hk => ?_, (hW.trans (h2.mono h4)).trans (ho.below (fun k hk => hk.1) (by omega))⟩
  unfold iv at hk ⊢
  have := ho.size
  omega
theorem only_setCell (w : World) (a : Addr) (u : Value) : Only (fun k => k = a.block) w (w.setCell a u) := ⟨rfl, rfl, rfl, by simp, fun k _ hk => Below.heap_setCell _ _ _ _ hk⟩

def tm0 : Tm × Value := (.mk 0 0 ⟨#[]⟩ [], .slice none 0 0)
theorem zeros_cells (n : Nat) : (madeCells (Value.cells (.agg #[.int .i64 0, .int .i64 0, .string ⟨#[]⟩, .slice none 0 0])) (n * 4)).toList = cellsL (List.replicate n tm0) := by
  apply List.ext_getElem?
  intro j
  by_cases hj : j < n * 4
  · have h1 : (List.replicate n tm0)[j / 4]? = some tm0 := by rw [List.getElem?_replicate, if_pos (by omega)]
    have e : ∀ i v, (cells4 tm0.1 tm0.2)[i]? = some v → j % 4 = i → (cellsL (List.replicate n tm0))[j]? = some v := by
      intro i v hv hm
      have := cellsL_at h1 (i := i) hv
      rwa [show j / 4 * 4 + i = j from by omega] at this
    have hl : (madeCells (Value.cells (.agg #[.int .i64 0, .int .i64 0, .string ⟨#[]⟩, .slice none 0 0])) (n * 4)).toList[j]? = some (#[Value.int .i64 0, .int .i64 0, .string ⟨#[]⟩, .slice none 0 0][j % 4]!) := by
      simp [madeCells, hj, Value.cells]
    rw [hl]
    have hm : j % 4 = 0 ∨ j % 4 = 1 ∨ j % 4 = 2 ∨ j % 4 = 3 := by omega
    rcases hm with hm | hm | hm | hm
    · rw [e 0 _ rfl hm, hm]; rfl
    · rw [e 1 _ rfl hm, hm]; rfl
    · rw [e 2 _ rfl hm, hm]; rfl
    · rw [e 3 _ rfl hm, hm]; rfl
  · rw [List.getElem?_eq_none (by rw [Array.length_toList, size_madeCells]; omega), List.getElem?_eq_none (by rw [cellsL_length, List.length_replicate]; omega)]

theorem own_made {w1 : World} {g n : Nat} {S : Nat → Prop} (h : w1.ownsRow 0 25 4 (.slice (some ⟨g, 0, none⟩) n n) n (madeCells (Value.cells (.agg #[.int .i64 0, .int .i64 0, .string ⟨#[]⟩, .slice none 0 0])) (n * 4)).toList) (hS : S g) :
    Own w1 25 S (.slice (some ⟨g, 0, none⟩) n n) (List.replicate n tm0.1) := by
  rw [zeros_cells] at h
  refine .row S g n n (List.replicate n tm0) (fun _ _ => False) _ (by rw [List.map_replicate]) (by simp) hS h ?_ (fun _ _ _ x => x.elim) (fun _ _ _ _ _ x => x.elim)
  intro j p hp
  have : p = tm0 := by
    rw [List.getElem?_replicate] at hp
    split at hp
    · simpa using hp.symm
    · cases hp
  subst this
  exact .nil _

end Go.Proofs.Ytokndpmoamjbfaa

