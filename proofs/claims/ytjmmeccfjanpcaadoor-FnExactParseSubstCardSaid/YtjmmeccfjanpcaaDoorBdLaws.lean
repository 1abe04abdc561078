/-
  The laws' helpers on bindings: szBinding, szBindingS, toBinding, toBindingS, eqBinding, eqBindingS, markBindingS, heldBindingS.
-/
import Derived.Test.YtjmmeccfjanpcaaDoorElems
import Derived.Test.YtjmmeccfjanpcaaDoorLaws
namespace Go.Proofs.YtjmmeccfjanpcaaDoor
open Go.RowKit
set_option linter.unusedVariables false
set_option linter.unusedSimpArgs false

/-! ### Lists with a weight an element -/
def sumW {α : Type} (wd : α → Nat) : List α → Nat | [] => 0 | x :: l => wd x + sumW wd l
theorem sumW_append {α : Type} (wd : α → Nat) (a b : List α) : sumW wd (a ++ b) = sumW wd a + sumW wd b := by
  induction a with
  | nil => simp [sumW]
  | cons x a ih => rw [List.cons_append, sumW, sumW, ih]; omega
theorem takeE {α : Type} {l : List α} {j : Nat} {x : α} (h : l[j]? = some x) : l.take (j + 1) = l.take j ++ [x] := by rw [List.take_add_one, h]; rfl
theorem sumW_take {α : Type} {wd : α → Nat} {l : List α} {j : Nat} {x : α} (h : l[j]? = some x) : sumW wd (l.take (j + 1)) = sumW wd (l.take j) + wd x := by
  rw [takeE h, sumW_append]; simp [sumW]
theorem sumW_take_le {α : Type} (wd : α → Nat) (l : List α) (j : Nat) : sumW wd (l.take j) ≤ sumW wd l := by
  conv => rhs; rw [← List.take_append_drop j l]
  rw [sumW_append]; omega
theorem sumW_at {α : Type} {wd : α → Nat} {l : List α} {j : Nat} {x : α} (h : l[j]? = some x) : sumW wd (l.take j) + wd x ≤ sumW wd l := by
  rw [← sumW_take h]; exact sumW_take_le wd l _
theorem sumW_len {α : Type} {wd : α → Nat} (h1 : ∀ x, 1 ≤ wd x) (l : List α) : l.length ≤ sumW wd l := by
  induction l with
  | nil => simp
  | cons x l ih => rw [sumW, List.length_cons]; have := h1 x; omega
def markW {α : Type} (f : Int → α → α) (wd : α → Nat) (k : Int) : List α → List α | [] => [] | x :: l => f k x :: markW f wd (k + (wd x : Int)) l
theorem markW_length {α : Type} (f : Int → α → α) (wd : α → Nat) (k : Int) (l : List α) : (markW f wd k l).length = l.length := by
  induction l generalizing k with
  | nil => rfl
  | cons x l ih => rw [markW, List.length_cons, ih, List.length_cons]
theorem markW_append {α : Type} (f : Int → α → α) (wd : α → Nat) (k : Int) (a b : List α) : markW f wd k (a ++ b) = markW f wd k a ++ markW f wd (k + (sumW wd a : Int)) b := by
  induction a generalizing k with
  | nil => simp [markW, sumW]
  | cons x a ih =>
    rw [List.cons_append, markW, markW, ih, sumW, List.cons_append]
    congr 3
    push_cast
    omega
theorem markW_take {α : Type} {f : Int → α → α} {wd : α → Nat} {k : Int} {l : List α} {j : Nat} {x : α} (h : l[j]? = some x) : markW f wd k (l.take (j + 1)) = markW f wd k (l.take j) ++ [f (k + (sumW wd (l.take j) : Int)) x] := by
  rw [takeE h, markW_append]; rfl
theorem markW_at {α : Type} {f : Int → α → α} {wd : α → Nat} {k : Int} {l : List α} {j : Nat} {x : α} (h : l[j]? = some x) : (markW f wd k l)[j]? = some (f (k + (sumW wd (l.take j) : Int)) x) := by
  have hl : j < l.length := (List.getElem?_eq_some_iff.1 h).1
  have e : markW f wd k l = markW f wd k (l.take (j + 1)) ++ markW f wd (k + (sumW wd (l.take (j + 1)) : Int)) (l.drop (j + 1)) := by rw [← markW_append, List.take_append_drop]
  rw [e, List.getElem?_append_left (by rw [markW_length, List.length_take]; omega), markW_take h, List.getElem?_append_right (by rw [markW_length, List.length_take]; omega)]
  rw [markW_length, List.length_take, show j - min j l.length = 0 from by omega]
  rfl
/-- A list marked as far as j. -/
def mixW {α : Type} (f : Int → α → α) (wd : α → Nat) (k : Int) (l : List α) (j : Nat) : List α := markW f wd k (l.take j) ++ l.drop j
theorem mixW_zero {α : Type} (f : Int → α → α) (wd : α → Nat) (k : Int) (l : List α) : mixW f wd k l 0 = l := by simp [mixW, markW]
theorem mixW_end {α : Type} (f : Int → α → α) (wd : α → Nat) (k : Int) (l : List α) : mixW f wd k l l.length = markW f wd k l := by simp [mixW]
theorem mixW_length {α : Type} {f : Int → α → α} {wd : α → Nat} {k : Int} {l : List α} {j : Nat} (h : j ≤ l.length) : (mixW f wd k l j).length = l.length := by
  unfold mixW; rw [List.length_append, markW_length, List.length_take, List.length_drop]; omega
theorem mixW_at {α : Type} {f : Int → α → α} {wd : α → Nat} {k : Int} {l : List α} {j : Nat} {x : α} (h : l[j]? = some x) : (mixW f wd k l j)[j]? = some x := by
  have hl : j < l.length := (List.getElem?_eq_some_iff.1 h).1
  unfold mixW
  rw [List.getElem?_append_right (by rw [markW_length, List.length_take]; omega), markW_length, List.length_take, show j - min j l.length = 0 from by omega, List.getElem?_drop]
  exact h
theorem mixW_set {α : Type} {f : Int → α → α} {wd : α → Nat} {k : Int} {l : List α} {j : Nat} {x : α} (h : l[j]? = some x) : (mixW f wd k l j).set j (f (k + (sumW wd (l.take j) : Int)) x) = mixW f wd k l (j + 1) := by
  have hl : j < l.length := (List.getElem?_eq_some_iff.1 h).1
  unfold mixW
  rw [List.set_append_right _ _ (by rw [markW_length, List.length_take]; omega), markW_length, List.length_take, show j - min j l.length = 0 from by omega, markW_take h, List.append_assoc]
  congr 1
  obtain ⟨_, hx⟩ := List.getElem?_eq_some_iff.1 h
  rw [List.drop_eq_getElem_cons hl, List.set_cons_zero]
  rfl

/-! ### Bindings -/
def wdB (b : Bd) : Nat := 1 + b.t.sz
def szB (l : List Bd) : Nat := sumW wdB l
def wfI (v : Int) : Prop := (Lit.int .i64 v).wf = true
/-- Terms that can be read, variables that are integers. -/
def fineB (l : List Bd) : Prop := ∀ b ∈ l, b.t.fine ∧ wfI b.v
theorem szB_len (l : List Bd) : l.length ≤ szB l := sumW_len (fun x => by unfold wdB; omega) l
theorem szB_at {l : List Bd} {j : Nat} {x : Bd} (h : l[j]? = some x) : szB (l.take j) + (1 + x.t.sz) ≤ szB l := sumW_at h
theorem szB_take {l : List Bd} {j : Nat} {x : Bd} (h : l[j]? = some x) : szB (l.take (j + 1)) = szB (l.take j) + (1 + x.t.sz) := sumW_take h
theorem szB_nil : szB [] = 0 := rfl
theorem szB_app (a b : List Bd) : szB (a ++ b) = szB a + szB b := sumW_append wdB a b
theorem szB_one (b : Bd) : szB [b] = 1 + b.t.sz := by unfold szB sumW sumW wdB; omega

/-- Not too long, no term too large to be read. -/
def EachB (s : List Bd) : Prop := s.length ≤ 1048576 ∧ ∀ b ∈ s, b.t.sz ≤ 1048575
theorem eachB_of {s : List Bd} (h : szB s ≤ 1048576) : EachB s := ⟨by have := szB_len s; omega, fun b hb => by
  obtain ⟨j, hj⟩ := List.getElem?_of_mem hb
  have := szB_at hj
  omega⟩

set_option maxHeartbeats 400000 in
theorem szBinding_any (b : Bd) (V : Value) (left : Int) (w : World) (hA : ArgsAt w V b.t.args) (hf : b.t.fine) (h0 : 0 ≤ left) (h1 : left ≤ 1048576) :
    Calls Tryd.prog 14 #[.agg #[.int .i64 b.v, .int .i64 b.t.kind, .int .i64 b.t.num, .string b.t.name, V], .int .i64 left] w (SzP b.t.sz left w) := by
  obtain ⟨a, cap, rfl⟩ := hA.slice
  have hal : Below w.heap.size w (w.alloc (.cells #[.int .i64 b.v, .int .i64 b.t.kind, .int .i64 b.t.num, .string b.t.name, .slice a b.t.args.length cap] 38)) := belowAlloc (Below.refl _ _) _
  have HC := Lib.hid (szTerm_any b.t _ left _ (hA.kept hal) hf h0 h1)
  have HW := Lib.hid hal
  clear hal hA hf
  go_enter Tryd.func14, Tryd.ntmps14
  go_wp2_with fail
  refine HC.out.mono ?_
  rintro e w' ⟨r, rfl, hr1, hr2, hr, hb⟩
  have HB := Lib.hid (belowOn HW.out (Nat.le_refl _) hb)
  have HR := Lib.hid hr
  clear hb HC hr
  by_cases hn : r < 0
  · go_wp2
    go_ret
    exact ⟨-1, rfl, by omega, by omega, fun x => by omega, HB.out⟩
  · go_wp2
    go_ret
    exact ⟨r, rfl, hr1, hr2, HR.out, HB.out⟩

set_option maxHeartbeats 400000 in
theorem szBindingL_any (l : List Bd) (V : Value) (left : Int) (w : World) (hA : ListS bdE w Any V l) (hF : fineB l) (hL : l.length ≤ maxLen) (h0 : 0 ≤ left) (h1 : left ≤ 1048576) :
    Calls Tryd.prog 5 #[V, .int .i64 left] w (SzP (szB l) left w) := by
  unfold maxLen at hL
  obtain ⟨a, cap, rfl⟩ := hA.slice
  have HA := Lib.hid hA
  have HF := Lib.hid hF
  clear hA hF
  by_cases hneg : left - l.length < 0
  · go_enter Tryd.func5, Tryd.ntmps5
    go_wp2
    go_ret
    exact ⟨-1, rfl, by omega, by omega, fun x => by omega, Below.refl _ _⟩
  · go_enter Tryd.func5, Tryd.ntmps5
    go_wp2
    go_loopw [1, 5] (fun lv i wr => ∃ (k : Nat) (r : Int), k ≤ l.length ∧ i = .int .i64 k ∧ lv = .int .i64 r ∧ 0 ≤ r ∧ r ≤ left ∧ Hid (r = left - l.length - (szB (l.take k) - k)) ∧ Hid (Below w.heap.size w wr)) (fun _ i _ => l.length - (intOf i).toNat)
    case atStart => exact ⟨0, left - l.length, Nat.zero_le _, rfl, by go_num, by omega, by omega, Lib.hid (by simp [szB_nil]), Lib.hid (Below.refl _ _)⟩
    case round =>
      obtain ⟨k, r, hk, rfl, rfl, hr0, hr1, HR, HB⟩ := hrel
      by_cases hlt : k < l.length
      · obtain ⟨b, hb⟩ : ∃ b, l[k]? = some b := ⟨_, List.getElem?_eq_getElem hlt⟩
        obtain ⟨g, off, u1, u2, rfl, hg, hq, hc, hu⟩ := HA.out.bd hb
        obtain ⟨d0, d1, d2, d3, d4⟩ := hc wr HB.out
        have hfb := (HF.out b (List.mem_of_getElem? hb)).1
        have HS := Lib.hid (szBinding_any b _ r wr (hu.at.kept HB.out) hfb hr0 (by omega))
        have HX := Lib.hid hb
        clear hc hu hq hfb hb
        go_wp2_with fail
        refine HS.out.mono ?_
        rintro e w' ⟨q, rfl, hq1, hq2, hq, hb⟩
        have HQ := Lib.hid hq
        have HB2 := Lib.hid (belowOn HB.out (Nat.le_refl _) hb)
        clear hq hb HS d0 d1 d2 d3 d4
        by_cases hn : q < 0
        · go_wp2
          go_ret
          have h2 := szB_at HX.out
          have h4 := HR.out
          have h5 := szB_len (l.take k)
          rw [List.length_take] at h5
          exact ⟨-1, rfl, by omega, by omega, fun x => by omega, HB2.out⟩
        · go_wp2
          go_roundw
          case rel =>
            have h1 := HQ.out (by omega)
            have h2 := HR.out
            have h3 := szB_take HX.out
            exact ⟨k + 1, q, by omega, by go_num, rfl, by omega, by omega, Lib.hid (by rw [h3]; omega), HB2⟩
          case measure => simp [intOf]; omega
      · go_wp2
        go_ret
        obtain rfl : k = l.length := by omega
        have h4 := HR.out
        rw [List.take_length] at h4
        exact ⟨r, rfl, by omega, by omega, fun _ => by have := szB_len l; omega, HB.out⟩

theorem infoBinding : (Tryd.prog.info? 45).map (fun i => (i.zero, i.size, i.bytes)) = some (some (.agg #[.int .i64 0, .int .i64 0, .int .i64 0, .string ⟨#[]⟩, .slice none 0 0]), 5, 64) := by kernel_rfl
/-- The return of a struct of five cells that has just been stored into the result's variable. -/
theorem bodyPost_five {P : Program} {fn : Func} {R : Ending → World → Prop} {a : Act} {w : World} {p : Tmp} {ty e : TypeId} {b : Nat} {x0 x1 x2 x3 x4 y0 y1 y2 y3 y4 : Value} {d : TypeDesc} (h : fn.results = #[.cell p ty]) (hp : a.tmps.getD p undef = .pointer (some ⟨b, 0, none⟩)) (hd : a.defers = [])
    (hu : P.underlying ty = some d) (hdd : (match d with | .struct _ | .array _ _ => true | _ => false) = true) (hi : (P.info? ty).map (·.size) = some 5) (hb : w.heap[b]? = some (Obj.cells #[x0, x1, x2, x3, x4] e))
    (hR : ∀ w', Only (fun k => k = b) w w' → R (.returned (.agg #[y0, y1, y2, y3, y4])) w') :
    bodyPost P fn R .ret a (((((w.setCell ⟨b, 0, none⟩ y0).setCell ⟨b, 1, none⟩ y1).setCell ⟨b, 2, none⟩ y2).setCell ⟨b, 3, none⟩ y3).setCell ⟨b, 4, none⟩ y4) := by
  have h0 := heap_setCell_same w b 0 _ e y0 hb
  have h1 := heap_setCell_same _ b 1 _ e y1 h0
  have h2 := heap_setCell_same _ b 2 _ e y2 h1
  have h3 := heap_setCell_same _ b 3 _ e y3 h2
  have h4 := heap_setCell_same _ b 4 _ e y4 h3
  refine bodyPost_ret (results_cell_row h _ _ b e #[y0, y1, y2, y3, y4] (0, 0) d hp h4 hu hdd hi) hd (hR _ ?_)
  have one : ∀ (W : World) (j : Nat) (u : Value), Only (fun k => k = b) W (W.setCell ⟨b, j, none⟩ u) := fun W j u => ⟨rfl, rfl, rfl, by simp, fun k _ hk => Below.heap_setCell _ _ _ _ hk⟩
  exact ((((one _ _ _).trans (one _ _ _)).trans (one _ _ _)).trans (one _ _ _)).trans (one _ _ _)
theorem box_cells5 {w : World} {b : Nat} {e : TypeId} {x0 x1 x2 x3 x4 : Value} (h : w.heap[b]? = some (Obj.cells #[x0, x1, x2, x3, x4] e)) :
    w.cell? ⟨b, 0, none⟩ = some x0 ∧ w.cell? ⟨b, 1, none⟩ = some x1 ∧ w.cell? ⟨b, 2, none⟩ = some x2 ∧ w.cell? ⟨b, 3, none⟩ = some x3 ∧ w.cell? ⟨b, 4, none⟩ = some x4 ∧ ∀ j, w.frozen? ⟨b, j, none⟩ = false :=
  ⟨cell_of_row w b 0 _ _ _ h, cell_of_row w b 1 _ _ _ h, cell_of_row w b 2 _ _ _ h, cell_of_row w b 3 _ _ _ h, cell_of_row w b 4 _ _ _ h, fun j => frozen_of_row w b j _ _ h⟩

set_option maxHeartbeats 1000000 in
set_option maxRecDepth 100000 in
theorem toBinding_any (b : Bd) (V : Value) (w : World) (hA : ArgsAt w V b.t.args) (hZ : b.t.sz ≤ 1048576) :
    Calls Tryd.prog 19 #[.agg #[.int .i64 b.v, .int .i64 b.t.kind, .int .i64 b.t.num, .string b.t.name, V]] w fun e w' => ∃ u, e = .returned (.agg #[.int .i64 b.v, .int .i64 b.t.kind, .int .i64 b.t.num, .string b.t.name, u]) ∧ NewTree b.t.args w u w' := by
  obtain ⟨a, cap, rfl⟩ := hA.slice
  have HA := Lib.hid (at_args hA)
  have HF := Lib.hid (fun W (h : Below w.heap.size w W) => toTerm_any b.t (.slice a b.t.args.length cap) W (HA.out.read h).argsAt hZ)
  clear hA
  go_enter Tryd.func19, Tryd.ntmps19
  go_wp2_with fail
  refine (HF.out _ ((((Below.refl _ _).alloc (Nat.le_refl _) _).alloc (by simp) _).alloc (by simp; omega) _)).mono ?_
  rintro e w1 ⟨u, rfl, hown, hb⟩
  obtain ⟨ua, uc, rfl⟩ := hown.argsAt.slice
  have h1 := (hb.block (w.heap.size + 1) (by simp)).trans (heap3_1 _ _ _ _)
  have h2 := (hb.block (w.heap.size + 1 + 1) (by simp)).trans (heap3_2 _ _ _ _)
  obtain ⟨c10, c11, c12, c13, c14, f1⟩ := box_cells5 h1
  obtain ⟨c20, c21, c22, c23, c24, f2⟩ := box_cells5 h2
  have H1 := Lib.hid h1
  clear h1 h2
  have HB := Lib.hid hb
  have HO := Lib.hid hown
  clear hb hown HA HF
  go_wp2_with fail
  refine bodyPost_five (e := 45) (b := w.heap.size + 1) rfl rfl rfl Tryd.underlying45 rfl (by kernel_rfl) (((((Below.heap_setCell _ _ _ _ (by simp)).trans (Below.heap_setCell _ _ _ _ (by simp))).trans (Below.heap_setCell _ _ _ _ (by simp))).trans (Below.heap_setCell _ _ _ _ (by simp))).trans H1.out) ?_
  intro w' hw
  refine ⟨_, rfl, NewTree.after ⟨HO.out, HB.out⟩ ((((Below.refl _ _).alloc (Nat.le_refl _) _).alloc (by simp) _).alloc (by simp; omega) _) (((((((only_setCell w1 _ _).trans ((only_setCell _ _ _).sub fun k hk => ?_)).trans ((only_setCell _ _ _).sub fun k hk => ?_)).trans ((only_setCell _ _ _).sub fun k hk => ?_))).sub fun k hk => ?_).trans (hw.sub fun k hk => ?_))⟩
  · exact hk
  · exact hk
  · exact hk
  · subst hk; unfold iv; simp; omega
  · subst hk; unfold iv; simp

/-! ### Rows just made -/
theorem made_cells {α : Type} {E : El α} {x0 : α} {U0 : Value} {z : Array Value} (hz : z.toList = E.cells x0 U0) (n : Nat) : (madeCells z (n * E.n)).toList = cellsE E (List.replicate n (x0, U0)) := by
  have hzs : z.size = E.n := by have := congrArg List.length hz; rw [E.len] at this; simpa using this
  apply List.ext_getElem?
  intro j
  by_cases hj : j < n * E.n
  · have hr : j % E.n < E.n := Nat.mod_lt _ E.pos
    have hq : j / E.n < n := Nat.div_lt_of_lt_mul (by rw [Nat.mul_comm]; exact hj)
    have h1 : (List.replicate n (x0, U0))[j / E.n]? = some (x0, U0) := by rw [List.getElem?_replicate, if_pos hq]
    obtain ⟨v, hv⟩ : ∃ v, (E.cells x0 U0)[j % E.n]? = some v := ⟨_, List.getElem?_eq_getElem (by rw [E.len]; exact hr)⟩
    have h2 := cellsE_at (E := E) h1 hv
    rw [show j / E.n * E.n + j % E.n = j from by rw [Nat.mul_comm]; exact Nat.div_add_mod j E.n] at h2
    rw [h2]
    have h3 : z[j % E.n]? = some v := by rw [← Array.getElem?_toList, hz]; exact hv
    obtain ⟨h4, h5⟩ := Array.getElem?_eq_some_iff.1 h3
    have h6 : (madeCells z (n * E.n)).toList[j]? = some (z[j % z.size]!) := by simp [madeCells, hj]
    rw [h6, hzs, getElem!_pos z _ h4, h5]
  · rw [List.getElem?_eq_none (by rw [Array.length_toList, size_madeCells]; omega), List.getElem?_eq_none (by rw [cellsE_length, List.length_replicate]; omega)]
theorem listO_made {α : Type} {E : El α} {e : TypeId} {w1 : World} {g n : Nat} {S : Nat → Prop} {x0 : α} {U0 : Value} {z : Array Value} (hz : z.toList = E.cells x0 U0)
    (h : w1.ownsRow 0 e E.n (.slice (some ⟨g, 0, none⟩) n n) n (madeCells z (n * E.n)).toList) (hS : S g) (h0 : E.own w1 (fun _ => False) U0 x0) : ListO E e w1 S (.slice (some ⟨g, 0, none⟩) n n) (List.replicate n x0) := by
  rw [made_cells hz] at h
  refine .row g n n (List.replicate n (x0, U0)) (fun _ _ => False) _ (by rw [List.map_replicate]) (by simp) hS h ?_ (fun _ _ _ x => x.elim) (fun _ _ _ _ _ x => x.elim)
  intro j p hp
  have : p = (x0, U0) := by
    rw [List.getElem?_replicate] at hp
    split at hp
    · simpa using hp.symm
    · cases hp
  subst this
  exact h0
def zeroBd : Bd := ⟨0, zeroTm⟩

/-- A whole binding put into a list. -/
theorem ListO.bdPut {e : TypeId} {w : World} {S S' : Nat → Prop} {g n cap : Nat} {l : List Bd} (h : ListO bdE e w S (.slice (some ⟨g, 0, none⟩) n cap) l) {j : Nat} {x b : Bd} (hj : l[j]? = some x) {u : Value} (hu : Own w 43 S' u b.t.args) (hd : ∀ k, S' k → ¬ S k) :
    Only S w (((((w.setCell ⟨g, j * 5, none⟩ (.int .i64 b.v)).setCell ⟨g, j * 5 + 1, none⟩ (.int .i64 b.t.kind)).setCell ⟨g, j * 5 + 2, none⟩ (.int .i64 b.t.num)).setCell ⟨g, j * 5 + 3, none⟩ (.string b.t.name)).setCell ⟨g, j * 5 + 4, none⟩ u) ∧
      ListO bdE e (((((w.setCell ⟨g, j * 5, none⟩ (.int .i64 b.v)).setCell ⟨g, j * 5 + 1, none⟩ (.int .i64 b.t.kind)).setCell ⟨g, j * 5 + 2, none⟩ (.int .i64 b.t.num)).setCell ⟨g, j * 5 + 3, none⟩ (.string b.t.name)).setCell ⟨g, j * 5 + 4, none⟩ u) (fun k => S k ∨ S' k) (.slice (some ⟨g, 0, none⟩) n cap) (l.set j b) := by
  obtain ⟨g0, cap0, U0, C0, hv0, hS0, _, _, _, _, _, _, _, k0⟩ := h.at hj
  simp only [Value.slice.injEq, Option.some.injEq, Addr.mk.injEq] at hv0
  obtain ⟨⟨rfl, _⟩, _, rfl⟩ := hv0
  obtain ⟨g1, o1⟩ := k0 b u S' hu hd
  exact ⟨Only.of_grown g1 hS0, o1⟩
/-- The first three cells of a binding written. -/
theorem ListO.bdInts {e : TypeId} {w : World} {S : Nat → Prop} {g n cap : Nat} {l : List Bd} (h : ListO bdE e w S (.slice (some ⟨g, 0, none⟩) n cap) l) {j : Nat} {x : Bd} (hj : l[j]? = some x) (k0 k1 k2 : Int) :
    Only S w (((w.setCell ⟨g, j * 5, none⟩ (.int .i64 k0)).setCell ⟨g, j * 5 + 1, none⟩ (.int .i64 k1)).setCell ⟨g, j * 5 + 2, none⟩ (.int .i64 k2)) ∧
      ListO bdE e (((w.setCell ⟨g, j * 5, none⟩ (.int .i64 k0)).setCell ⟨g, j * 5 + 1, none⟩ (.int .i64 k1)).setCell ⟨g, j * 5 + 2, none⟩ (.int .i64 k2)) S (.slice (some ⟨g, 0, none⟩) n cap) (l.set j ⟨k0, .mk k1 k2 x.t.name x.t.args⟩) := by
  obtain ⟨g0, cap0, U0, C0, hv0, hS0, _, _, _, _, hown, _, hp, _⟩ := h.at hj
  simp only [Value.slice.injEq, Option.some.injEq, Addr.mk.injEq] at hv0
  obtain ⟨⟨rfl, _⟩, _, rfl⟩ := hv0
  obtain ⟨g1, o1⟩ := hp ⟨k0, .mk k1 k2 x.t.name x.t.args⟩ 0 [.int .i64 k0, .int .i64 k1, .int .i64 k2] (fun w' hf => Own.frame (show Own w 43 C0 U0 x.t.args from hown) hf) rfl (by show 3 ≤ 5; decide)
  exact ⟨Only.of_grown g1 hS0, o1⟩
/-- The fourth cell of a binding written; what it holds. -/
theorem ListO.bdName {e : TypeId} {w : World} {S : Nat → Prop} {g n cap : Nat} {l : List Bd} (h : ListO bdE e w S (.slice (some ⟨g, 0, none⟩) n cap) l) {j : Nat} {x : Bd} (hj : l[j]? = some x) (s : ByteArray) :
    Only S w (w.setCell ⟨g, j * 5 + 3, none⟩ (.string s)) ∧ ∃ (a : Option Addr) (c : Nat) (C : Nat → Prop), w.cell? ⟨g, j * 5 + 4, none⟩ = some (.slice a x.t.args.length c) ∧ (∀ k, C k → S k) ∧
      Own (w.setCell ⟨g, j * 5 + 3, none⟩ (.string s)) 43 C (.slice a x.t.args.length c) x.t.args ∧
      ∀ w' bs, Own w' 43 C (.slice a x.t.args.length c) bs → Only C (w.setCell ⟨g, j * 5 + 3, none⟩ (.string s)) w' → ListO bdE e w' S (.slice (some ⟨g, 0, none⟩) n cap) (l.set j ⟨x.v, .mk x.t.kind x.t.num s bs⟩) := by
  have hjl : j < l.length := (List.getElem?_eq_some_iff.1 hj).1
  obtain ⟨g0, cap0, V0, C0, hv0, hS0, _, _, _, hc, hown, _, hp, _⟩ := h.at hj
  simp only [Value.slice.injEq, Option.some.injEq, Addr.mk.injEq] at hv0
  obtain ⟨⟨rfl, _⟩, _, rfl⟩ := hv0
  obtain ⟨g1, o1⟩ := hp ⟨x.v, .mk x.t.kind x.t.num s x.t.args⟩ 3 [.string s] (fun w' hf => Own.frame (show Own w 43 C0 V0 x.t.args from hown) hf) rfl (by show 4 ≤ 5; decide)
  have o1' : ListO bdE e (w.setCell ⟨g, j * 5 + 3, none⟩ (.string s)) S (.slice (some ⟨g, 0, none⟩) n cap) (l.set j ⟨x.v, .mk x.t.kind x.t.num s x.t.args⟩) := o1
  have g1' : w.grownBy (w.setCell ⟨g, j * 5 + 3, none⟩ (.string s)) (some g) := g1
  obtain ⟨g', cap', V1, C1, hv1, hS1, hC1, _, _, hc1, hown1, hx, _, _⟩ := o1'.at (x := ⟨x.v, .mk x.t.kind x.t.num s x.t.args⟩) (j := j) (by rw [List.getElem?_set_self hjl])
  simp only [Value.slice.injEq, Option.some.injEq, Addr.mk.injEq] at hv1
  obtain ⟨⟨rfl, _⟩, _, rfl⟩ := hv1
  have d4 : w.cell? ⟨g, j * 5 + 4, none⟩ = some V0 := hc 4 _ rfl
  have e4 : (w.setCell ⟨g, j * 5 + 3, none⟩ (.string s)).cell? ⟨g, j * 5 + 4, none⟩ = some V1 := hc1 4 _ rfl
  have hV : V0 = V1 := by
    have h3 : (w.setCell ⟨g, j * 5 + 3, none⟩ (.string s)).cell? ⟨g, j * 5 + 4, none⟩ = w.cell? ⟨g, j * 5 + 4, none⟩ := World.cell?_setCell_other _ _ _ _ (by simp)
    have h4 := (h3.symm.trans e4).symm.trans d4
    exact (Option.some.inj h4).symm
  subst hV
  have hch : Own (w.setCell ⟨g, j * 5 + 3, none⟩ (.string s)) 43 C1 V0 x.t.args := hown1
  obtain ⟨a, c, hVa⟩ := hch.argsAt.slice
  subst hVa
  refine ⟨Only.of_grown g1' hS0, a, c, C1, d4, fun k hk => (hC1 k hk).1, hch, fun w' bs h1 h2 => ?_⟩
  have := hx w' ⟨x.v, .mk x.t.kind x.t.num s bs⟩ h2 h1 rfl
  rw [List.set_set] at this
  exact this

set_option maxHeartbeats 1000000 in
set_option maxRecDepth 100000 in
theorem toBindingL_any (l : List Bd) (V : Value) (w : World) (hA : ListS bdE w Any V l) (hZ : szB l ≤ 1048576) :
    Calls Tryd.prog 7 #[V] w fun e w' => ∃ u, e = .returned u ∧ NewList bdE 45 l w u w' := by
  obtain ⟨i0, hi, hz0, hz1, hz2⟩ := info_parts infoBinding
  obtain ⟨a, cap, rfl⟩ := hA.slice
  have HA := Lib.hid hA
  have hL : l.length ≤ 1048576 := by have := szB_len l; omega
  clear hA
  go_enter Tryd.func7, Tryd.ntmps7
  go_wp2_with (at_make; refine wpList_make_full _ rfl _ _ 25 rfl 0 45 i0 _ 5 Tryd.underlying25 hi hz0 hz1 _ _ _ _ l.length rfl rfl rfl rfl (by rw [hz2]; omega) (by unfold maxLen; omega) (Nat.zero_le _) ?_; intro w1 hown hg; have HO1 := Lib.hid hown; have HG1 := Lib.hid hg; clear hown hg)
  have HB1 := Lib.hid (below_of_grown (B := w.heap.size) HG1.out (Nat.le_refl _) (fun k hk => by cases hk))
  have hgt : w.heap.size < w1.heap.size := rowE_hit HO1.out
  have HO : Hid (ListO bdE 45 w1 (iv w.heap.size w1.heap.size) (.slice (some ⟨w.heap.size, 0, none⟩) l.length l.length) (List.replicate l.length zeroBd)) := Lib.hid (listO_made (U0 := .slice none 0 0) rfl HO1.out (by unfold iv; omega) (Own.nil _))
  clear HO1 HG1
  go_loopw [4] (fun i wr => ∃ (k : Nat) (xs : List Bd), k ≤ l.length ∧ i = .int .i64 k ∧ Hid (xs.length = l.length) ∧ Hid (∀ i, i < k → xs[i]? = l[i]?) ∧ Hid (ListO bdE 45 wr (iv w.heap.size wr.heap.size) (.slice (some ⟨w.heap.size, 0, none⟩) l.length l.length) xs) ∧
      Hid (Below w.heap.size w wr) ∧ w.heap.size < wr.heap.size) (fun i _ => l.length - (intOf i).toNat)
  case atStart => exact ⟨0, _, Nat.zero_le _, rfl, Lib.hid (by simp), Lib.hid (fun i hi => absurd hi (Nat.not_lt_zero _)), HO, HB1, hgt⟩
  case round =>
    obtain ⟨k, xs, hk, rfl, HL, HX, HW, HB, hgr⟩ := hrel
    clear HO
    by_cases hlt : k < l.length
    · obtain ⟨t, ht⟩ : ∃ t, l[k]? = some t := ⟨_, List.getElem?_eq_getElem hlt⟩
      obtain ⟨x, hx⟩ : ∃ x, xs[k]? = some x := ⟨_, List.getElem?_eq_getElem (by rw [HL.out]; omega)⟩
      obtain ⟨g, off, v1, v2, rfl, hg, hq, hc, hu⟩ := HA.out.bd ht
      obtain ⟨d0, d1, d2, d3, d4⟩ := hc wr HB.out
      have HT := Lib.hid ht
      have HC := Lib.hid (toBinding_any t _ wr (hu.at.kept HB.out) (by have := szB_at ht; omega))
      have HXX := Lib.hid hx
      clear hc hu hq ht hx
      go_wp2_with fail
      refine HC.out.mono ?_
      rintro e w2 ⟨u, rfl, hnt, hb2⟩
      have HO2 := Lib.hid (HW.out.kept hb2)
      have HB3 := Lib.hid (belowOn HB.out (Nat.le_refl _) hb2)
      have hsz2 := hb2.size
      obtain ⟨u1, u2, rfl⟩ := hnt.argsAt.slice
      obtain ⟨g4, cap4, V4, C4, hv4, _, _, _, f4, hcc, _⟩ := HO2.out.at HXX.out
      simp only [Value.slice.injEq, Option.some.injEq, Addr.mk.injEq] at hv4
      obtain ⟨⟨rfl, _⟩, hq, rfl⟩ := hv4
      clear hq
      have e0 : w2.cell? ⟨w.heap.size, k * 5, none⟩ = some (.int .i64 x.v) := hcc 0 _ rfl
      have e1 : w2.cell? ⟨w.heap.size, k * 5 + 1, none⟩ = some (.int .i64 x.t.kind) := hcc 1 _ rfl
      have e2 : w2.cell? ⟨w.heap.size, k * 5 + 2, none⟩ = some (.int .i64 x.t.num) := hcc 2 _ rfl
      have e3 : w2.cell? ⟨w.heap.size, k * 5 + 3, none⟩ = some (.string x.t.name) := hcc 3 _ rfl
      have e4 : w2.cell? ⟨w.heap.size, k * 5 + 4, none⟩ = some V4 := hcc 4 _ rfl
      have HP := Lib.hid (HO2.out.bdPut HXX.out hnt fun k hk hx => by unfold iv at hk hx; omega)
      clear hnt hb2 hcc HC d0 d1 d2 d3 d4
      have htl := List.getElem?_eq_some_iff.1 HXX.out
      go_wp2
      go_roundw
      case rel =>
        have hP := HP.out
        have hbl : Below w.heap.size w _ := HB3.out.trans (hP.1.below (fun k hk => hk.1) (by omega))
        refine ⟨k + 1, xs.set k t, by omega, by go_num, Lib.hid (by simpa using HL.out), Lib.hid ?_, Lib.hid (hP.2.sub fun m hm => ?_), Lib.hid hbl, ?_⟩
        · intro i hi
          by_cases e : i = k
          · subst e
            rw [List.getElem?_set_self htl.1, HT.out]
          · rw [List.getElem?_set_ne (fun x => e x.symm)]
            exact HX.out i (by omega)
        · have := hP.1.size
          unfold iv at hm ⊢
          omega
        · have := hP.1.size
          omega
      case measure => simp [intOf]; omega
    · go_wp2
      go_ret
      obtain rfl : k = l.length := by omega
      have e : xs = l := by
        apply List.ext_getElem?
        intro i
        by_cases hi : i < l.length
        · exact HX.out i hi
        · rw [List.getElem?_eq_none (by rw [HL.out]; omega), List.getElem?_eq_none (by omega)]
      have h := HW.out
      rw [e] at h
      exact ⟨_, rfl, h, HB.out⟩
end Go.Proofs.YtjmmeccfjanpcaaDoor

