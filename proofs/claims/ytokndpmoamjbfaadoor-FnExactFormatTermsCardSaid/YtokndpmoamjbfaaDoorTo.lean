/-
  The contracts of the laws' helpers that copy a term into the program's type: toTerm, toTermS.
-/
import Derived.Test.YtokndpmoamjbfaaDoorSz
import Derived.Handy
namespace Go.Proofs.YtokndpmoamjbfaaDoor
open Go.RowKit

theorem heap_new (w : World) (o : Obj) : (w.alloc o).heap[w.heap.size]? = some o := by
  show (w.heap.push o)[w.heap.size]? = _
  simp
theorem heap3_1 (w : World) (o1 o2 o3 : Obj) : (((w.alloc o1).alloc o2).alloc o3).heap[w.heap.size + 1]? = some o2 := by
  refine (Below.heap_alloc _ _ _ (by simp)).trans ?_
  have := heap_new (w.alloc o1) o2
  rwa [show (w.alloc o1).heap.size = w.heap.size + 1 from by simp] at this
theorem heap3_2 (w : World) (o1 o2 o3 : Obj) : (((w.alloc o1).alloc o2).alloc o3).heap[w.heap.size + 1 + 1]? = some o3 := by
  have := heap_new ((w.alloc o1).alloc o2) o3
  rwa [show ((w.alloc o1).alloc o2).heap.size = w.heap.size + 1 + 1 from by simp] at this
theorem box_cells {w : World} {b : Nat} {e : TypeId} {x0 x1 x2 x3 : Value} (h : w.heap[b]? = some (Obj.cells #[x0, x1, x2, x3] e)) :
    w.cell? ⟨b, 0, none⟩ = some x0 ∧ w.cell? ⟨b, 1, none⟩ = some x1 ∧ w.cell? ⟨b, 2, none⟩ = some x2 ∧ w.cell? ⟨b, 3, none⟩ = some x3 ∧ ∀ j, w.frozen? ⟨b, j, none⟩ = false :=
  ⟨cell_of_row w b 0 _ _ _ h, cell_of_row w b 1 _ _ _ h, cell_of_row w b 2 _ _ _ h, cell_of_row w b 3 _ _ _ h, fun j => frozen_of_row w b j _ _ h⟩
/-- The return of a struct of four cells that has just been stored into the result's variable. -/
theorem bodyPost_four {P : Program} {fn : Func} {R : Ending → World → Prop} {a : Act} {w : World} {p : Tmp} {ty e : TypeId} {b : Nat} {x0 x1 x2 x3 y0 y1 y2 y3 : Value} {d : TypeDesc} (h : fn.results = #[.cell p ty]) (hp : a.tmps.getD p undef = .pointer (some ⟨b, 0, none⟩)) (hd : a.defers = [])
    (hu : P.underlying ty = some d) (hdd : (match d with | .struct _ | .array _ _ => true | _ => false) = true) (hi : (P.info? ty).map (·.size) = some 4) (hb : w.heap[b]? = some (Obj.cells #[x0, x1, x2, x3] e))
    (hR : ∀ w', Only (fun k => k = b) w w' → R (.returned (.agg #[y0, y1, y2, y3])) w') :
    bodyPost P fn R .ret a ((((w.setCell ⟨b, 0, none⟩ y0).setCell ⟨b, 1, none⟩ y1).setCell ⟨b, 2, none⟩ y2).setCell ⟨b, 3, none⟩ y3) := by
  have h0 := heap_setCell_same w b 0 _ e y0 hb
  have h1 := heap_setCell_same _ b 1 _ e y1 h0
  have h2 := heap_setCell_same _ b 2 _ e y2 h1
  have h3 := heap_setCell_same _ b 3 _ e y3 h2
  refine bodyPost_ret (results_cell_row h _ _ b e #[y0, y1, y2, y3] (0, 0) d hp h3 hu hdd hi) hd (hR _ ?_)
  have one : ∀ (W : World) (j : Nat) (u : Value), Only (fun k => k = b) W (W.setCell ⟨b, j, none⟩ u) := fun W j u => ⟨rfl, rfl, rfl, by simp, fun k _ hk => Below.heap_setCell _ _ _ _ hk⟩
  exact (((one _ _ _).trans (one _ _ _)).trans (one _ _ _)).trans (one _ _ _)
def iv (a b : Nat) (k : Nat) : Prop := a ≤ k ∧ k < b
theorem infoTerm : (Tryd.prog.info? 26).map (fun i => (i.zero, i.size, i.bytes)) = some (some (.agg #[.int .i64 0, .int .i64 0, .string ⟨#[]⟩, .slice none 0 0]), 4, 56) := by kernel_rfl

/-- The answer is a new tree of the call's own. -/
def NewTree (l : List Tm) (w : World) (u : Value) (w' : World) : Prop := Own w' 26 (iv w.heap.size w'.heap.size) u l ∧ Below w.heap.size w w'

theorem NewTree.after {l : List Tm} {w W w1 w' : World} {u : Value} (h : NewTree l W u w1) (hW : Below w.heap.size w W) (ho : Only (iv w.heap.size W.heap.size) w1 w') : NewTree l w u w' := by
  obtain ⟨h1, h2⟩ := h
  have h3 := h2.size
  have h4 := hW.size
  refine ⟨(h1.only ho fun k hk hx => by unfold iv at hk hx; omega).sub fun k hk => ?_, (hW.trans (h2.mono h4)).trans (ho.below (fun k hk => hk.1) (by omega))⟩
  unfold iv at hk ⊢
  have := ho.size
  omega
theorem only_setCell (w : World) (a : Addr) (u : Value) : Only (fun k => k = a.block) w (w.setCell a u) := ⟨rfl, rfl, rfl, by simp, fun k _ hk => Below.heap_setCell _ _ _ _ hk⟩

set_option maxHeartbeats 400000 in
theorem toTerm_of (k i : Int) (s : ByteArray) (V : Value) (l : List Tm) (w : World)
    (HR : Hid (∀ W, Below w.heap.size w W → Calls Tryd.prog 24 #[V] W fun e w' => ∃ u, e = .returned u ∧ NewTree l W u w')) :
    Calls Tryd.prog 17 #[.agg #[.int .i64 k, .int .i64 i, .string s, V]] w fun e w' => ∃ u, e = .returned (.agg #[.int .i64 k, .int .i64 i, .string s, u]) ∧ NewTree l w u w' := by
  go_enter Tryd.func17, Tryd.ntmps17
  go_wp2_with fail
  refine (HR.out _ ((((Below.refl _ _).alloc (Nat.le_refl _) _).alloc (by simp) _).alloc (by simp; omega) _)).mono ?_
  rintro e w1 ⟨u, rfl, hown, hb⟩
  obtain ⟨a, cap, rfl⟩ := hown.argsAt.slice
  have h1 := (hb.block (w.heap.size + 1) (by simp)).trans (heap3_1 _ _ _ _)
  have h2 := (hb.block (w.heap.size + 1 + 1) (by simp)).trans (heap3_2 _ _ _ _)
  obtain ⟨c10, c11, c12, c13, f1⟩ := box_cells h1
  obtain ⟨c20, c21, c22, c23, f2⟩ := box_cells h2
  have H1 := Lib.hid h1
  clear h1 h2
  have HB := Lib.hid hb
  have HO := Lib.hid hown
  clear hb hown
  go_wp2_with fail
  refine bodyPost_four (e := 26) (b := w.heap.size + 1) rfl rfl rfl Tryd.underlying26 rfl (by kernel_rfl) ((Below.heap_setCell _ _ _ _ (by simp)).trans H1.out) ?_
  intro w' hw
  refine ⟨_, rfl, NewTree.after ⟨HO.out, HB.out⟩ ((((Below.refl _ _).alloc (Nat.le_refl _) _).alloc (by simp) _).alloc (by simp; omega) _) (((only_setCell w1 _ _).sub fun k hk => ?_).trans (hw.sub fun k hk => ?_))⟩
  · subst hk; unfold iv; simp; omega
  · subst hk; unfold iv; simp

def tm0 : Tm × Value := (.mk 0 0 ⟨#[]⟩ [], .slice none 0 0)
theorem zeros_cells (n : Nat) : (madeCells (Value.cells (.agg #[.int .i64 0, .int .i64 0, .string ⟨#[]⟩, .slice none 0 0])) (n * 4)).toList = cellsL (List.replicate n tm0) := by
  apply List.ext_getElem?
  intro j
  by_cases hj : j < n * 4
  · have h1 : (List.replicate n tm0)[j / 4]? = some tm0 := by rw [List.getElem?_replicate, if_pos (by omega)]
    have e : ∀ i v, (cells4 tm0.1 tm0.2)[i]? = some v → j % 4 = i → (cellsL (List.replicate n tm0))[j]? = some v := by
      intro i v hv hm
      have := cellsL_at h1 (i := i) hv
      rwa [show j / 4 * 4 + i = j from by omega] at this
    have hl : (madeCells (Value.cells (.agg #[.int .i64 0, .int .i64 0, .string ⟨#[]⟩, .slice none 0 0])) (n * 4)).toList[j]? = some (#[Value.int .i64 0, .int .i64 0, .string ⟨#[]⟩, .slice none 0 0][j % 4]!) := by
      simp [madeCells, hj, Value.cells]
    rw [hl]
    have hm : j % 4 = 0 ∨ j % 4 = 1 ∨ j % 4 = 2 ∨ j % 4 = 3 := by omega
    rcases hm with hm | hm | hm | hm
    · rw [e 0 _ rfl hm, hm]; rfl
    · rw [e 1 _ rfl hm, hm]; rfl
    · rw [e 2 _ rfl hm, hm]; rfl
    · rw [e 3 _ rfl hm, hm]; rfl
  · rw [List.getElem?_eq_none (by rw [Array.length_toList, size_madeCells]; omega), List.getElem?_eq_none (by rw [cellsL_length, List.length_replicate]; omega)]

theorem own_made {w1 : World} {g n : Nat} {S : Nat → Prop} (h : w1.ownsRow 0 26 4 (.slice (some ⟨g, 0, none⟩) n n) n (madeCells (Value.cells (.agg #[.int .i64 0, .int .i64 0, .string ⟨#[]⟩, .slice none 0 0])) (n * 4)).toList) (hS : S g) :
    Own w1 26 S (.slice (some ⟨g, 0, none⟩) n n) (List.replicate n tm0.1) := by
  rw [zeros_cells] at h
  refine .row S g n n (List.replicate n tm0) (fun _ _ => False) _ (by rw [List.map_replicate]) (by simp) hS h ?_ (fun _ _ _ x => x.elim) (fun _ _ _ _ _ x => x.elim)
  intro j p hp
  have : p = tm0 := by
    rw [List.getElem?_replicate] at hp
    split at hp
    · simpa using hp.symm
    · cases hp
  subst this
  exact .nil _

set_option maxHeartbeats 400000 in
theorem toTerms_any (N : Nat) : ∀ (l : List Tm) (V : Value) (w : World), nodesL l < N → ArgsAt w V l → l.length ≤ 1048576 → szL l ≤ 1048576 →
    Calls Tryd.prog 24 #[V] w fun e w' => ∃ u, e = .returned u ∧ NewTree l w u w' := by
  induction N with
  | zero => intro l V w hN; omega
  | succ N ih =>
    intro l V w hN hA hL hZ
    obtain ⟨i0, hi, hz0, hz1, hz2⟩ := info_parts infoTerm
    obtain ⟨a, cap, rfl⟩ := hA.slice
    have HA := Lib.hid hA
    have HI := Lib.hid ih
    clear hA ih
    go_enter Tryd.func24, Tryd.ntmps24
    go_wp2_with (at_make; refine wpList_make_full _ rfl _ _ 23 rfl 0 26 i0 _ 4 Tryd.underlying23 hi hz0 hz1 _ _ _ _ l.length rfl rfl rfl rfl (by rw [hz2]; omega) (by unfold maxLen; omega) (Nat.zero_le _) ?_; intro w1 hown hg; have HO1 := Lib.hid hown; have HG1 := Lib.hid hg; clear hown hg)
    have HB1 := Lib.hid (below_of_grown (B := w.heap.size) HG1.out (Nat.le_refl _) (fun k hk => by cases hk))
    have hgt : w.heap.size < w1.heap.size := row_hit HO1.out
    have HO := Lib.hid (own_made (S := iv w.heap.size w1.heap.size) HO1.out (by unfold iv; omega))
    clear HO1 HG1
    go_loopw [4] (fun i wr => ∃ (k : Nat) (xs : List Tm), k ≤ l.length ∧ i = .int .i64 k ∧ xs.length = l.length ∧ (∀ i, i < k → xs[i]? = l[i]?) ∧ Own wr 26 (iv w.heap.size wr.heap.size) (.slice (some ⟨w.heap.size, 0, none⟩) l.length l.length) xs ∧
        Below w.heap.size w wr ∧ w.heap.size < wr.heap.size) (fun i _ => l.length - (intOf i).toNat)
    case atStart => exact ⟨0, _, Nat.zero_le _, rfl, by simp, fun i hi => absurd hi (Nat.not_lt_zero _), HO.out, HB1.out, hgt⟩
    case round =>
      obtain ⟨k, xs, hk, rfl, hl, hxs, hown, hb, hgr⟩ := hrel
      have HL := Lib.hid hl
      have HX := Lib.hid hxs
      have HW := Lib.hid hown
      have HB := Lib.hid hb
      clear hl hxs hown hb HO
      by_cases hlt : k < l.length
      · obtain ⟨t, ht⟩ : ∃ t, l[k]? = some t := ⟨_, List.getElem?_eq_getElem hlt⟩
        obtain ⟨x, hx⟩ : ∃ x, xs[k]? = some x := ⟨_, List.getElem?_eq_getElem (by rw [HL.out]; omega)⟩
        obtain ⟨g, off, cap', V, hv, hg, hc, hch⟩ := HA.out.parts (by intro e; subst e; simp at hlt)
        simp only [Value.slice.injEq] at hv
        obtain ⟨rfl, _, rfl⟩ := hv
        obtain ⟨c0, c1, c2, c3⟩ := hc k t ht
        have d0 := (HB.out.cell (p := ⟨g, off + k * 4, none⟩) hg).trans c0
        have d1 := (HB.out.cell (p := ⟨g, off + k * 4 + 1, none⟩) hg).trans c1
        have d2 := (HB.out.cell (p := ⟨g, off + k * 4 + 2, none⟩) hg).trans c2
        have d3 := (HB.out.cell (p := ⟨g, off + k * 4 + 3, none⟩) hg).trans c3
        obtain ⟨a', cap3, hV⟩ := (hch k t ht).slice
        rw [hV] at d3
        have HT := Lib.hid ht
        have HC := Lib.hid (hch k t ht)
        rw [hV] at HC
        have hN' : nodesL t.args < N := by have := nodes_at HT.out; rw [nodes_eq] at this; omega
        have hZ' : szL t.args ≤ 1048576 := by have h1 := sz_at HT.out; have h2 := sz_eq t; omega
        have hL' : t.args.length ≤ 1048576 := by have := length_szL t.args; omega
        have HXX := Lib.hid hx
        clear hc hch c0 c1 c2 c3 ht hV hx
        go_wp2_with fail
        refine (toTerm_of t.kind t.num t.name _ t.args wr (Lib.hid fun W bW => HI.out t.args _ W hN' (HC.out.kept (HB.out.trans (bW.mono HB.out.size))) hL' hZ')).mono ?_
        rintro e w2 ⟨u, rfl, hnt, hb2⟩
        have HO2 := Lib.hid (HW.out.kept hb2)
        have hb3 := HB.out.trans (hb2.mono HB.out.size)
        have HB3 := Lib.hid hb3
        have hsz2 := hb2.size
        obtain ⟨u1, u2, rfl⟩ := hnt.argsAt.slice
        obtain ⟨g4, cap4, V4, C4, hv4, _, _, _, f4, e0, e1, e2, e3, _⟩ := HO2.out.at HXX.out
        simp only [Value.slice.injEq, Option.some.injEq, Addr.mk.injEq] at hv4
        obtain ⟨⟨rfl, _⟩, hq, rfl⟩ := hv4
        clear hq
        have HP := Lib.hid (HO2.out.put HXX.out hnt fun k hk hx => by unfold iv at hk hx; omega)
        clear hnt hb2 hb3
        have htl := List.getElem?_eq_some_iff.1 HXX.out
        go_wp2
        go_roundw
        case rel =>
          have hP := HP.out
          have hbl : Below w.heap.size w _ := HB3.out.trans (hP.1.below (fun k hk => hk.1) (by omega))
          refine ⟨k + 1, xs.set k t, by omega, by go_num, by simpa using HL.out, ?_, hP.2.sub fun m hm => ?_, hbl, ?_⟩
          · intro i hi
            by_cases e : i = k
            · subst e
              rw [List.getElem?_set_self htl.1, HT.out]
            · rw [List.getElem?_set_ne (fun x => e x.symm)]
              exact HX.out i (by omega)
          · have := hP.1.size
            unfold iv at hm ⊢
            omega
          · have := hP.1.size
            omega
        case measure => simp [intOf]; omega
      · go_wp2
        go_ret
        obtain rfl : k = l.length := by omega
        have e : xs = l := by
          apply List.ext_getElem?
          intro i
          by_cases hi : i < l.length
          · exact HX.out i hi
          · rw [List.getElem?_eq_none (by rw [HL.out]; omega), List.getElem?_eq_none (by omega)]
        have h := HW.out
        rw [e] at h
        exact ⟨_, rfl, h, HB.out⟩
end Go.Proofs.YtokndpmoamjbfaaDoor

