/-
  For the program's ListTerm: own trees through a turn of a block that is no cells, and inside the heap; a list built from its end.
-/
import Derived.Test.YtokndpmoamjbfaaBackward
import Derived.Test.YtokndpmoamjbfaaSpecListTerm
import Derived.Test.YtokndpmoamjbfaaItems
namespace Go.Proofs.Ytokndpmoamjbfaa
open Go.RowKit
set_option linter.unusedVariables false

theorem own_turn {w w' : World} {e : TypeId} {S : Nat → Prop} {v : Value} {l : List Tm} {row : Option Nat} (h : Own w e S v l) (hg : w.grownBy w' row) (hr : ∀ r, row = some r → ∃ o : Obj, w.heap[r]? = some o ∧ o.isCells = false) : Own w' e S v l := by
  induction h with
  | nil S => exact .nil S
  | row S g n cap L C l hl hn hgS hown hrr hC hd ih =>
    refine .row S g n cap L C l hl hn hgS (row_moved hown (hg.block g (row_hit hown) fun he => ?_)) ih hC hd
    obtain ⟨o, ho, hc⟩ := hr g he.symm
    rcases hown.2 with ⟨h, _⟩ | ⟨g', cap', cur, hv, _, hcell, _⟩
    · cases h
    · cases hv
      rw [hcell] at ho
      cases ho
      cases hc
theorem own_inside {w : World} {e : TypeId} {S : Nat → Prop} {v : Value} {l : List Tm} (h : Own w e S v l) : Own w e (fun k => S k ∧ k < w.heap.size) v l := by
  induction h with
  | nil S => exact .nil _
  | row S g n cap L C l hl hn hgS hown hrr hC hd ih =>
    refine .row _ g n cap L (fun j k => C j k ∧ k < w.heap.size) l hl hn ⟨hgS, row_hit hown⟩ hown ih (fun j k hj hk => ⟨⟨(hC j k hj hk.1).1, hk.2⟩, (hC j k hj hk.1).2⟩) fun i j k hi hj h1 h2 => hd i j k hi hj h1.1 h2.1

/-- What a list is when the items of some places have been put before it, one after the other. -/
def foldB (l : List Tm) (t : Tm) (pre : List Nat) : Tm := pre.foldl (fun acc j => .mk 4 0 ⟨#[]⟩ [l.getD j zeroTm, acc]) t
theorem foldB_snoc (l : List Tm) (t : Tm) (pre : List Nat) (j : Nat) : foldB l t (pre ++ [j]) = .mk 4 0 ⟨#[]⟩ [l.getD j zeroTm, foldB l t pre] := by simp [foldB]
theorem foldB_all (l : List Tm) (t : Tm) : foldB l t (List.range l.length).reverse = listT l t := by
  rw [foldB, List.foldl_reverse]
  suffices h : ∀ (a : List Tm) (k : Nat), (∀ i, i < a.length → l.getD (k + i) zeroTm = a.getD i zeroTm) → ((List.range a.length).map (k + ·)).foldr (fun j acc => Tm.mk 4 0 ⟨#[]⟩ [l.getD j zeroTm, acc]) t = listT a t by
    have := h l 0 (fun i _ => by rw [Nat.zero_add])
    simpa using this
  intro a
  induction a with
  | nil => intro k _; rfl
  | cons x a ih =>
    intro k hk
    rw [List.length_cons, List.range_succ_eq_map, List.map_cons, List.foldr_cons, List.map_map, listT_cons]
    have h0 := hk 0 (by simp)
    have h1 := ih (k + 1) (fun i hi => by have := hk (i + 1) (by simp; omega); rw [show k + (i + 1) = k + 1 + i by omega] at this; simpa using this)
    have h2 : ((fun x => k + x) ∘ Nat.succ) = fun x => k + 1 + x := by funext i; simp; omega
    rw [h2, h1]
    congr 1
    simp at h0
    simp [h0]

theorem argsAt_table {w : World} {a : Option Addr} {n cap : Nat} {l : List Tm} (h : ArgsAt w (.slice a n cap) l) (h0 : 0 < w.heap.size) : ∃ (b off : Nat) (U1 : Nat → Option Addr) (U2 : Nat → Nat), b < w.heap.size ∧ (0 < l.length → a = some ⟨b, off, none⟩) ∧ ∀ j, j < l.length →
    (∀ W, Below w.heap.size w W → W.cell? ⟨b, off + j * 4, none⟩ = some (.int .i64 (l.getD j zeroTm).kind) ∧ W.cell? ⟨b, off + j * 4 + 1, none⟩ = some (.int .i64 (l.getD j zeroTm).num) ∧ W.cell? ⟨b, off + j * 4 + 2, none⟩ = some (.string (l.getD j zeroTm).name) ∧ W.cell? ⟨b, off + j * 4 + 3, none⟩ = some (.slice (U1 j) (l.getD j zeroTm).args.length (U2 j))) ∧
      ArgsAt w (.slice (U1 j) (l.getD j zeroTm).args.length (U2 j)) (l.getD j zeroTm).args := by
  by_cases hl : 0 < l.length
  · obtain ⟨x0, hx0⟩ : ∃ x, l[0]? = some x := ⟨_, List.getElem?_eq_getElem hl⟩
    obtain ⟨g, off, _, _, rfl, hg, _, _, _⟩ := h.elem hx0
    have key : ∀ j, ∃ u : Option Addr × Nat, j < l.length → (∀ W, Below w.heap.size w W → W.cell? ⟨g, off + j * 4, none⟩ = some (.int .i64 (l.getD j zeroTm).kind) ∧ W.cell? ⟨g, off + j * 4 + 1, none⟩ = some (.int .i64 (l.getD j zeroTm).num) ∧ W.cell? ⟨g, off + j * 4 + 2, none⟩ = some (.string (l.getD j zeroTm).name) ∧ W.cell? ⟨g, off + j * 4 + 3, none⟩ = some (.slice u.1 (l.getD j zeroTm).args.length u.2)) ∧
        ArgsAt w (.slice u.1 (l.getD j zeroTm).args.length u.2) (l.getD j zeroTm).args := by
      intro j
      by_cases hj : j < l.length
      · have hx : l[j]? = some (l.getD j zeroTm) := by simp [List.getD, hj]
        obtain ⟨g', off', u1, u2, he, _, _, hc, hch⟩ := h.elem hx
        simp only [Option.some.injEq, Addr.mk.injEq, and_true] at he
        obtain ⟨rfl, rfl⟩ := he
        exact ⟨(u1, u2), fun _ => ⟨hc, hch⟩⟩
      · exact ⟨(none, 0), fun hh => absurd hh hj⟩
    exact ⟨g, off, fun j => (Classical.choose (key j)).1, fun j => (Classical.choose (key j)).2, hg, fun _ => rfl, fun j hj => Classical.choose_spec (key j) hj⟩
  · exact ⟨0, 0, fun _ => none, fun _ => 0, h0, fun hh => absurd hh hl, fun j hj => absurd hj (by omega)⟩

/-- Between two rounds: the list so far in its variable, its blocks own; the result's variable untouched. -/
def IL (w w4 : World) (l : List Tm) (t : Tm) (pre : List (Idx l.length)) (W : World) : Prop :=
  ∃ (c : Tm) (ad : Option Addr) (cp : Nat), c = foldB l t (pre.map Subtype.val) ∧ BoxP w4.heap.size #[.int .i64 c.kind, .int .i64 c.num, .string c.name, .slice ad c.args.length cp] 25 W ∧ Own W 25 (fun k => w.heap.size + 1 + 1 ≤ k ∧ k ≠ w4.heap.size) (.slice ad c.args.length cp) c.args ∧
    BoxP (w.heap.size + 1) #[.int .i64 0, .int .i64 0, .string ⟨#[]⟩, .slice none 0 0] 25 W ∧ Below w4.heap.size w4 W ∧ w4.heap.size + 2 ≤ W.heap.size
theorem box_turn {b : Nat} {xs : Array Value} {e : TypeId} {A B : World} {row : Option Nat} (h : BoxP b xs e A) (hg : A.grownBy B row) (hr : ∀ r, row = some r → ∃ o : Obj, A.heap[r]? = some o ∧ o.isCells = false) : BoxP b xs e B := by
  have hb : A.heap[b]? = some (.cells xs e) := h
  refine (hg.block b (Array.getElem?_eq_some_iff.1 hb).1 fun he => ?_).trans hb
  obtain ⟨o, ho, hc⟩ := hr b he.symm
  rw [hb] at ho
  cases ho
  cases hc
theorem IL_own (w w4 : World) (l : List Tm) (t : Tm) (B : Nat) (hB : w4.heap.size ≤ B) : OwnFrom B (IL w w4 l t) := by
  rintro s A A' row ⟨c, ad, cp, h1, h2, h3, h4, h5, h6⟩ hg hr
  have hr' : ∀ r, row = some r → ∃ o : Obj, A.heap[r]? = some o ∧ o.isCells = false := fun r e => (hr r e).2
  exact ⟨c, ad, cp, h1, box_turn h2 hg hr', own_turn h3 hg hr', box_turn h4 hg hr', h5.grown hg h5.size (fun k e => Nat.le_trans hB (hr k e).1), Nat.le_trans h6 hg.size⟩
theorem IL_below {w w4 W W' : World} {l : List Tm} {t : Tm} {pre : List (Idx l.length)} (h : IL w w4 l t pre W) (hb : Below W.heap.size W W') : IL w w4 l t pre W' := by
  obtain ⟨c, ad, cp, h1, h2, h3, h4, h5, h6⟩ := h
  have e2 : W.heap[w4.heap.size]? = some _ := h2
  have e4 : W.heap[w.heap.size + 1]? = some _ := h4
  exact ⟨c, ad, cp, h1, (hb.block _ (Array.getElem?_eq_some_iff.1 e2).1).trans h2, h3.kept hb, (hb.block _ (Array.getElem?_eq_some_iff.1 e4).1).trans h4, belowOn h5 (Nat.le_refl _) hb, Nat.le_trans h6 hb.size⟩
theorem IL_step {w w4 W WA WB WC : World} {l : List Tm} {t c : Tm} {pre : List (Idx l.length)} {ad : Option Addr} {cp g B : Nat} {u : Value} (x : Idx l.length) (h1 : c = foldB l t (pre.map Subtype.val))
    (h2 : BoxP w4.heap.size #[.int .i64 c.kind, .int .i64 c.num, .string c.name, .slice ad c.args.length cp] 25 W) (h3 : Own W 25 (fun k => w.heap.size + 1 + 1 ≤ k ∧ k ≠ w4.heap.size) (.slice ad c.args.length cp) c.args)
    (h4 : BoxP (w.heap.size + 1) #[.int .i64 0, .int .i64 0, .string ⟨#[]⟩, .slice none 0 0] 25 W) (h5 : Below w4.heap.size w4 W) (h6 : w4.heap.size + 2 ≤ W.heap.size) (hw : w.heap.size + 1 < w4.heap.size)
    (hA : Below W.heap.size W WA) (hn : NewTree (l.getD x.1 zeroTm).args WA u WB) (hC : Below WB.heap.size WB WC) (hg : WB.heap.size ≤ g)
    (hp : WC.heap[g]? = some (.cells #[.int .i64 (l.getD x.1 zeroTm).kind, .int .i64 (l.getD x.1 zeroTm).num, .string (l.getD x.1 zeroTm).name, u, .int .i64 c.kind, .int .i64 c.num, .string c.name, .slice ad c.args.length cp] 25)) :
    KeepsFrom B W ((((WC.setCell ⟨w4.heap.size, 0, none⟩ (.int .i64 4)).setCell ⟨w4.heap.size, 1, none⟩ (.int .i64 0)).setCell ⟨w4.heap.size, 2, none⟩ (.string ⟨#[]⟩)).setCell ⟨w4.heap.size, 3, none⟩ (.slice (some ⟨g, 0, none⟩) 2 2)) ∧
    KpB w4.heap.size (w4.heap.size + 1) W ((((WC.setCell ⟨w4.heap.size, 0, none⟩ (.int .i64 4)).setCell ⟨w4.heap.size, 1, none⟩ (.int .i64 0)).setCell ⟨w4.heap.size, 2, none⟩ (.string ⟨#[]⟩)).setCell ⟨w4.heap.size, 3, none⟩ (.slice (some ⟨g, 0, none⟩) 2 2)) ∧
    IL w w4 l t (pre ++ [x]) ((((WC.setCell ⟨w4.heap.size, 0, none⟩ (.int .i64 4)).setCell ⟨w4.heap.size, 1, none⟩ (.int .i64 0)).setCell ⟨w4.heap.size, 2, none⟩ (.string ⟨#[]⟩)).setCell ⟨w4.heap.size, 3, none⟩ (.slice (some ⟨g, 0, none⟩) 2 2)) := by
  have hWC : Below W.heap.size W WC := belowOn (belowOn hA (Nat.le_refl _) hn.2) (Nat.le_refl _) hC
  have sA := hA.size
  have sn := hn.2.size
  have sC := hC.size
  have hbox : WC.heap[w4.heap.size]? = some (.cells #[.int .i64 c.kind, .int .i64 c.num, .string c.name, .slice ad c.args.length cp] 25) := (hWC.block _ (by omega)).trans h2
  have st := store4 hbox (.int .i64 4) (.int .i64 0) (.string ⟨#[]⟩) (.slice (some ⟨g, 0, none⟩) 2 2)
  have hown : Own WC 25 (fun k => w.heap.size + 1 + 1 ≤ k ∧ k ≠ w4.heap.size) (.slice (some ⟨g, 0, none⟩) 2 2) [l.getD x.1 zeroTm, c] :=
    own_pair hp ⟨by omega, by omega⟩ (hn.1.kept' hC fun k hk => hk.2) ((own_inside h3).kept hWC) (fun k hk => by unfold iv at hk; exact ⟨⟨by omega, by omega⟩, by omega⟩) (fun k hk => ⟨hk.1, by have := hk.2; omega⟩) (fun k hk hk' => by unfold iv at hk; have := hk'.2; omega)
  have ss := st.2.size
  have blk : ∀ k, k < W.heap.size → k ≠ w4.heap.size → ((((WC.setCell ⟨w4.heap.size, 0, none⟩ (.int .i64 4)).setCell ⟨w4.heap.size, 1, none⟩ (.int .i64 0)).setCell ⟨w4.heap.size, 2, none⟩ (.string ⟨#[]⟩)).setCell ⟨w4.heap.size, 3, none⟩ (.slice (some ⟨g, 0, none⟩) 2 2)).heap[k]? = W.heap[k]? := fun k hk hne =>
    (st.2.block k (by omega) (fun e => by unfold iv at e; omega)).trans (hWC.block k hk)
  have hbe : Below w4.heap.size W ((((WC.setCell ⟨w4.heap.size, 0, none⟩ (.int .i64 4)).setCell ⟨w4.heap.size, 1, none⟩ (.int .i64 0)).setCell ⟨w4.heap.size, 2, none⟩ (.string ⟨#[]⟩)).setCell ⟨w4.heap.size, 3, none⟩ (.slice (some ⟨g, 0, none⟩) 2 2)) := (hWC.mono (by omega)).trans (st.2.below (fun k hk => hk.1) (by omega))
  refine ⟨⟨by omega, fun k o _ hk ho => ?_⟩, ⟨hbe, blk _ (by omega) (by omega)⟩, .mk 4 0 ⟨#[]⟩ [l.getD x.1 zeroTm, c], some ⟨g, 0, none⟩, 2, ?_, st.1, hown.frame fun k hk hks => st.2.block k hks (fun e => by unfold iv at e; have := hk.2; omega), (blk _ (by omega) (by omega)).trans h4, h5.trans hbe, by omega⟩
  · by_cases hke : k = w4.heap.size
    · have e2 : W.heap[w4.heap.size]? = some _ := h2
      rw [hke, e2] at hk
      cases hk
      cases ho
    · exact (blk k (Array.getElem?_eq_some_iff.1 hk).1 hke).trans hk
  · rw [List.map_append, List.map_cons, List.map_nil, foldB_snoc, ← h1]
theorem list_end {P : Program} {F : Fence} {n : Nat} {fn : Func} {a : Act} {w w4 W : World} {c : Tm} {ad : Option Addr} {cp D : Nat} {p q : Tmp} {fs : Array Field} (h : fn.results = #[.cell p 25, .tmp q]) (hp : a.tmps.getD p undef = .pointer (some ⟨w.heap.size + 1, 0, none⟩)) (hq : a.tmps.getD q undef = .bool true) (hd : a.defers = [{ target := .collected D, args := #[] }])
    (hu : P.underlying 25 = some (.struct fs)) (hi : (P.info? 25).map (·.size) = some 4)
    (h3 : Own W 25 (fun k => w.heap.size + 1 + 1 ≤ k ∧ k ≠ w4.heap.size) (.slice ad c.args.length cp) c.args)
    (h4 : BoxP (w.heap.size + 1) #[.int .i64 0, .int .i64 0, .string ⟨#[]⟩, .slice none 0 0] 25 W) (hbw : Below w.heap.size w W) (hK : W.heap[D]? = some (.deferred (some []))) (hD : w.heap.size + 1 < D) :
    bodyPostM F n P fn (NewTm2 c true w) .ret a ((((W.setCell ⟨w.heap.size + 1, 0, none⟩ (.int .i64 c.kind)).setCell ⟨w.heap.size + 1, 1, none⟩ (.int .i64 c.num)).setCell ⟨w.heap.size + 1, 2, none⟩ (.string c.name)).setCell ⟨w.heap.size + 1, 3, none⟩ (.slice ad c.args.length cp)) := by
  show LeavesInM F n P fn a.tmps _ a.defers .returning _
  rw [hd]
  have hst := store4 h4 (.int .i64 c.kind) (.int .i64 c.num) (.string c.name) (.slice ad c.args.length cp)
  have ss := hst.2.size
  have hDl : D < W.heap.size := (Array.getElem?_eq_some_iff.1 hK).1
  have hKs := (hst.2.block D hDl (fun e => by unfold iv at e; omega)).trans hK
  refine ⟨by simp, .inl ⟨D, _, rfl, run_takeDeferred hKs, ?_⟩⟩
  have hr := (World.putObj_heap_other (w := ((((W.setCell ⟨w.heap.size + 1, 0, none⟩ (.int .i64 c.kind)).setCell ⟨w.heap.size + 1, 1, none⟩ (.int .i64 c.num)).setCell ⟨w.heap.size + 1, 2, none⟩ (.string c.name)).setCell ⟨w.heap.size + 1, 3, none⟩ (.slice ad c.args.length cp))) (o := .deferred none) (show w.heap.size + 1 ≠ D by omega)).trans hst.1
  refine ⟨_, results_cell_row2 h _ _ _ _ _ (0, 0) _ hp hr hu rfl hi, _, by rw [hq], ?_, ?_⟩
  · refine (own_inside (own_turn (h3.frame fun k hk hks => hst.2.block k hks (fun e => by unfold iv at e; omega)) (grownBy_putObj' _ D (.deferred none)) (fun r e => by cases e; exact ⟨_, hKs, rfl⟩))).sub fun k hk => ?_
    unfold iv
    have := hk.1
    exact ⟨by omega, hk.2⟩
  · exact (hbw.trans (hst.2.below (fun k hk => by have := hk.1; omega) hbw.size)).trans (belowK_b (w := w) (Nat.le_refl _) _ D _ _ (by omega) hKs rfl rfl)
end Go.Proofs.Ytokndpmoamjbfaa

