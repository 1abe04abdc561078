/-
  Rows of VarKinds: the laws' sizes, copies, comparison, marks. (Written by wip/tools/gen_flat.py.)
-/
import Derived.Test.YtnmdnajbafpfiaaRows3
import Derived.Test.YtnmdnajbafpfiaaLaws
namespace Go.Proofs.Ytnmdnajbafpfiaa
open Go.RowKit
set_option linter.unusedVariables false
set_option linter.unusedSimpArgs false

structure Kd where
  v : Int
  k : Int
def kdE : El Kd where
  n := 2
  cells := fun b _ => [.int .i64 b.v, .int .i64 b.k]
  kid := fun _ _ _ _ => True
  own := fun _ _ _ _ => True
  pos := by decide
  len := fun _ _ => rfl
  kidFrame := fun _ _ _ => trivial
  kidSub := fun _ _ => trivial
  ownFrame := fun _ _ => trivial
  ownSub := fun _ _ => trivial
  ownKid := fun _ => trivial
/-- One element of a list: its cells in every later world. -/
theorem ListS.kd {w : World} {S : Nat → Prop} {a : Option Addr} {n cap : Nat} {l : List Kd} (h : ListS kdE w S (.slice a n cap) l) {k : Nat} {x : Kd} (hx : l[k]? = some x) :
    ∃ g off, a = some ⟨g, off, none⟩ ∧ g < w.heap.size ∧ n = l.length ∧ (∀ W, Below w.heap.size w W → W.cell? ⟨g, off + k * 2, none⟩ = some (.int .i64 x.v) ∧ W.cell? ⟨g, off + k * 2 + 1, none⟩ = some (.int .i64 x.k)) := by
  obtain ⟨g, off, U, rfl, hS, hg, hn, hc, hk⟩ := h.elem hx
  exact ⟨g, off, rfl, hg, hn, fun W hW => ⟨hc W hW 0 _ rfl, hc W hW 1 _ rfl⟩⟩
/-- An element put into a list; one of its cells written. -/
theorem ListO.kdPut {e : TypeId} {w : World} {S : Nat → Prop} {g n cap : Nat} {l : List Kd} (h : ListO kdE e w S (.slice (some ⟨g, 0, none⟩) n cap) l) {j : Nat} {x : Kd} (hj : l[j]? = some x) (b : Kd) :
    Only S w ((w.setCell ⟨g, j * 2, none⟩ (.int .i64 b.v)).setCell ⟨g, j * 2 + 1, none⟩ (.int .i64 b.k)) ∧ ListO kdE e ((w.setCell ⟨g, j * 2, none⟩ (.int .i64 b.v)).setCell ⟨g, j * 2 + 1, none⟩ (.int .i64 b.k)) S (.slice (some ⟨g, 0, none⟩) n cap) (l.set j b) := by
  obtain ⟨g0, cap0, U0, C0, hv0, hS0, _, _, _, _, _, _, _, k0⟩ := h.at hj
  simp only [Value.slice.injEq, Option.some.injEq, Addr.mk.injEq] at hv0
  obtain ⟨⟨rfl, _⟩, _, rfl⟩ := hv0
  obtain ⟨g1, o1⟩ := k0 b U0 (fun _ => False) trivial (fun _ h => h.elim)
  exact ⟨Only.of_grown g1 hS0, ListO.sub o1 fun k hk => hk.elim id False.elim⟩
theorem ListO.kdOne {e : TypeId} {w : World} {S : Nat → Prop} {g n cap : Nat} {l : List Kd} (h : ListO kdE e w S (.slice (some ⟨g, 0, none⟩) n cap) l) {j : Nat} {x : Kd} (hj : l[j]? = some x) (c : Int) :
    Only S w (w.setCell ⟨g, j * 2, none⟩ (.int .i64 c)) ∧ ListO kdE e (w.setCell ⟨g, j * 2, none⟩ (.int .i64 c)) S (.slice (some ⟨g, 0, none⟩) n cap) (l.set j ⟨c, x.k⟩) := by
  obtain ⟨g0, cap0, U0, C0, hv0, hS0, _, _, _, _, hown, _, hp, _⟩ := h.at hj
  simp only [Value.slice.injEq, Option.some.injEq, Addr.mk.injEq] at hv0
  obtain ⟨⟨rfl, _⟩, _, rfl⟩ := hv0
  obtain ⟨g1, o1⟩ := hp ⟨c, x.k⟩ 0 [.int .i64 c] (fun _ _ => trivial) rfl (by show 1 ≤ 2; decide)
  exact ⟨Only.of_grown g1 hS0, o1⟩
theorem ListO.kdTwo {e : TypeId} {w : World} {S : Nat → Prop} {g n cap : Nat} {l : List Kd} (h : ListO kdE e w S (.slice (some ⟨g, 0, none⟩) n cap) l) {j : Nat} {x : Kd} (hj : l[j]? = some x) (c : Int) :
    Only S w (w.setCell ⟨g, j * 2 + 1, none⟩ (.int .i64 c)) ∧ ListO kdE e (w.setCell ⟨g, j * 2 + 1, none⟩ (.int .i64 c)) S (.slice (some ⟨g, 0, none⟩) n cap) (l.set j ⟨x.v, c⟩) := by
  obtain ⟨g0, cap0, U0, C0, hv0, hS0, _, _, _, _, hown, _, hp, _⟩ := h.at hj
  simp only [Value.slice.injEq, Option.some.injEq, Addr.mk.injEq] at hv0
  obtain ⟨⟨rfl, _⟩, _, rfl⟩ := hv0
  obtain ⟨g1, o1⟩ := hp ⟨x.v, c⟩ 1 [.int .i64 c] (fun _ _ => trivial) rfl (by show 2 ≤ 2; decide)
  exact ⟨Only.of_grown g1 hS0, o1⟩

theorem szVarKinds_any (l : List Kd) (V : Value) (left : Int) (w : World) (hA : ListS kdE w Any V l) (hL : l.length ≤ maxLen) (h0 : 0 ≤ left) (h1 : left ≤ 1048576) :
    Calls Try.prog 22 #[V, .int .i64 left] w (SzP l.length left w) := by
  unfold maxLen at hL
  obtain ⟨a, cap, rfl⟩ := hA.slice
  clear hA
  by_cases hneg : left - l.length < 0
  · go_enter Try.func22, Try.ntmps22
    go_wp2
    go_ret
    exact ⟨-1, rfl, by omega, by omega, fun x => by omega, Below.refl _ _⟩
  · go_enter Try.func22, Try.ntmps22
    go_wp2
    go_ret
    exact ⟨left - l.length, rfl, by omega, by omega, fun x => by omega, Below.refl _ _⟩

theorem box_cells2kd {w : World} {b : Nat} {e : TypeId} {x0 x1 : Value} (h : w.heap[b]? = some (Obj.cells #[x0, x1] e)) :
    w.cell? ⟨b, 0, none⟩ = some x0 ∧ w.cell? ⟨b, 1, none⟩ = some x1 ∧ ∀ j, w.frozen? ⟨b, j, none⟩ = false :=
  ⟨cell_of_row w b 0 _ _ _ h, cell_of_row w b 1 _ _ _ h, fun j => frozen_of_row w b j _ _ h⟩
theorem bodyPost_twokd {P : Program} {fn : Func} {R : Ending → World → Prop} {a : Act} {w : World} {p : Tmp} {ty e : TypeId} {b : Nat} {x0 x1 y0 y1 : Value} {d : TypeDesc} (h : fn.results = #[.cell p ty]) (hp : a.tmps.getD p undef = .pointer (some ⟨b, 0, none⟩)) (hd : a.defers = [])
    (hu : P.underlying ty = some d) (hdd : (match d with | .struct _ | .array _ _ => true | _ => false) = true) (hi : (P.info? ty).map (·.size) = some 2) (hb : w.heap[b]? = some (Obj.cells #[x0, x1] e))
    (hR : ∀ w', Only (fun k => k = b) w w' → R (.returned (.agg #[y0, y1])) w') :
    bodyPost P fn R .ret a ((w.setCell ⟨b, 0, none⟩ y0).setCell ⟨b, 1, none⟩ y1) := by
  have h0 := heap_setCell_same w b 0 _ e y0 hb
  have h1 := heap_setCell_same _ b 1 _ e y1 h0
  refine bodyPost_ret (results_cell_row h _ _ b e #[y0, y1] (0, 0) d hp h1 hu hdd hi) hd (hR _ ?_)
  have one : ∀ (W : World) (j : Nat) (u : Value), Only (fun k => k = b) W (W.setCell ⟨b, j, none⟩ u) := fun W j u => ⟨rfl, rfl, rfl, by simp, fun k _ hk => Below.heap_setCell _ _ _ _ hk⟩
  exact (one _ _ _).trans (one _ _ _)
theorem infoVarKind : (Try.prog.info? 39).map (fun i => (i.zero, i.size, i.bytes)) = some (some (.agg #[.int .i64 0, .int .i64 0]), 2, 16) := by kernel_rfl

set_option maxHeartbeats 1000000 in
set_option maxRecDepth 100000 in
theorem toVarKind_any (b : Kd) (w : World) :
    Calls Try.prog 52 #[.agg #[.int .i64 b.v, .int .i64 b.k]] w fun e w' => e = .returned (.agg #[.int .i64 b.v, .int .i64 b.k]) ∧ Below w.heap.size w w' := by
  obtain ⟨v, k⟩ := b
  have hb1 : Below w.heap.size w ((w.alloc (.cells #[.int .i64 v, .int .i64 k] 93)).alloc (.cells #[.int .i64 0, .int .i64 0] 39)) := belowAlloc (belowAlloc (Below.refl _ _) _) _
  go_enter Try.func52, Try.ntmps52
  go_wp2
  refine bodyPost_ret (results_cell_row rfl _ _ (w.heap.size + 1) 39 #[.int .i64 v, .int .i64 k] (0, 0) _ rfl (heap3_1 _ _ _ _) Try.underlying39 rfl (by kernel_rfl)) rfl ⟨rfl, ?_⟩
  exact (((Below.refl _ w).alloc (Nat.le_refl _) _).alloc (by simp) _).alloc (by simp; omega) _

set_option maxHeartbeats 2000000 in
set_option maxRecDepth 100000 in
theorem toVarKinds_any (l : List Kd) (V : Value) (w : World) (hA : ListS kdE w Any V l) (hL : l.length ≤ 1048576) :
    Calls Try.prog 24 #[V] w fun e w' => ∃ u, e = .returned u ∧ NewList kdE 39 l w u w' ∧ u = .slice (some ⟨w.heap.size, 0, none⟩) l.length l.length := by
  obtain ⟨i0, hi, hz0, hz1, hz2⟩ := info_parts infoVarKind
  obtain ⟨a, cap, rfl⟩ := hA.slice
  have HA := Lib.hid hA
  clear hA
  go_enter Try.func24, Try.ntmps24
  go_wp2_with (at_make; refine wpList_make_full _ rfl _ _ 31 rfl 0 39 i0 _ 2 Try.underlying31 hi hz0 hz1 _ _ _ _ l.length rfl rfl rfl rfl (by rw [hz2]; omega) (by unfold maxLen; omega) (Nat.zero_le _) ?_; intro w1 hown hg; have HO1 := Lib.hid hown; have HG1 := Lib.hid hg; clear hown hg)
  have HB1 := Lib.hid (below_of_grown (B := w.heap.size) HG1.out (Nat.le_refl _) (fun k hk => by cases hk))
  have hgt : w.heap.size < w1.heap.size := rowE_hit HO1.out
  have HO : Hid (ListO kdE 39 w1 (iv w.heap.size w1.heap.size) (.slice (some ⟨w.heap.size, 0, none⟩) l.length l.length) (List.replicate l.length (⟨0, 0⟩ : Kd))) := Lib.hid (listO_made (E := kdE) (x0 := (⟨0, 0⟩ : Kd)) (U0 := .slice none 0 0) rfl HO1.out (by unfold iv; omega) trivial)
  clear HO1 HG1
  go_loopw [4] (fun i wr => ∃ (k : Nat) (xs : List Kd), k ≤ l.length ∧ i = .int .i64 k ∧ Hid (xs.length = l.length) ∧ Hid (∀ i, i < k → xs[i]? = l[i]?) ∧ Hid (ListO kdE 39 wr (iv w.heap.size wr.heap.size) (.slice (some ⟨w.heap.size, 0, none⟩) l.length l.length) xs) ∧
      Hid (Below w.heap.size w wr) ∧ w.heap.size < wr.heap.size) (fun i _ => l.length - (intOf i).toNat)
  case atStart => exact ⟨0, _, Nat.zero_le _, rfl, Lib.hid (by simp), Lib.hid (fun i hi => absurd hi (Nat.not_lt_zero _)), HO, HB1, hgt⟩
  case round =>
    obtain ⟨k, xs, hk, rfl, HL, HX, HW, HB, hgr⟩ := hrel
    clear HO
    by_cases hlt : k < l.length
    · obtain ⟨t, ht⟩ : ∃ t, l[k]? = some t := ⟨_, List.getElem?_eq_getElem hlt⟩
      obtain ⟨x, hx⟩ : ∃ x, xs[k]? = some x := ⟨_, List.getElem?_eq_getElem (by rw [HL.out]; omega)⟩
      obtain ⟨g, off, rfl, hg, hq, hc⟩ := HA.out.kd ht
      obtain ⟨d0, d1⟩ := hc wr HB.out
      have HT := Lib.hid ht
      have HC := Lib.hid (toVarKind_any t wr)
      have HXX := Lib.hid hx
      clear hc hq ht hx
      go_wp2_with fail
      refine HC.out.mono ?_
      rintro e w2 ⟨rfl, hb2⟩
      have HO2 := Lib.hid (HW.out.kept hb2)
      have HB3 := Lib.hid (belowOn HB.out (Nat.le_refl _) hb2)
      have hsz2 := hb2.size
      obtain ⟨g4, cap4, V4, C4, hv4, _, _, _, f4, hcc, _⟩ := HO2.out.at HXX.out
      simp only [Value.slice.injEq, Option.some.injEq, Addr.mk.injEq] at hv4
      obtain ⟨⟨rfl, _⟩, hq, rfl⟩ := hv4
      clear hq
      have e0 : w2.cell? ⟨w.heap.size, k * 2, none⟩ = some (.int .i64 x.v) := hcc 0 _ rfl
      have e1 : w2.cell? ⟨w.heap.size, k * 2 + 1, none⟩ = some (.int .i64 x.k) := hcc 1 _ rfl
      have HP := Lib.hid (HO2.out.kdPut HXX.out t)
      clear hb2 hcc HC d0 d1
      have htl := List.getElem?_eq_some_iff.1 HXX.out
      go_wp2
      go_roundw
      case rel =>
        have hP := HP.out
        have hbl : Below w.heap.size w _ := HB3.out.trans (hP.1.below (fun k hk => hk.1) (by omega))
        refine ⟨k + 1, xs.set k t, by omega, by go_num, Lib.hid (by simpa using HL.out), Lib.hid ?_, Lib.hid (hP.2.sub fun m hm => ?_), Lib.hid hbl, ?_⟩
        · intro i hi
          by_cases e : i = k
          · subst e
            rw [List.getElem?_set_self htl.1, HT.out]
          · rw [List.getElem?_set_ne (fun x => e x.symm)]
            exact HX.out i (by omega)
        · have := hP.1.size
          unfold iv at hm ⊢
          omega
        · have := hP.1.size
          omega
      case measure => simp [intOf]; omega
    · go_wp2
      go_ret
      obtain rfl : k = l.length := by omega
      have e : xs = l := by
        apply List.ext_getElem?
        intro i
        by_cases hi : i < l.length
        · exact HX.out i hi
        · rw [List.getElem?_eq_none (by rw [HL.out]; omega), List.getElem?_eq_none (by omega)]
      have h := HW.out
      rw [e] at h
      exact ⟨_, rfl, ⟨h, HB.out⟩, rfl⟩

set_option maxHeartbeats 1000000 in
set_option maxRecDepth 100000 in
theorem eqVarKind_any (b : Kd) (w : World) :
    Calls Try.prog 53 #[.agg #[.int .i64 b.v, .int .i64 b.k], .agg #[.int .i64 b.v, .int .i64 b.k]] w (Yes w) := by
  obtain ⟨v, k⟩ := b
  have q0 : (v != v) = false := by simp
  have q1 : (k != k) = false := by simp
  go_enter Try.func53, Try.ntmps53
  go_wp2
  go_ret
  exact ⟨rfl, belowAlloc (belowAlloc (Below.refl _ _) _) _⟩

set_option maxHeartbeats 2000000 in
set_option maxRecDepth 100000 in
theorem eqVarKinds_any (l : List Kd) (V V' : Value) (w : World) (hA : ListS kdE w Any V l) (hA' : ListS kdE w Any V' l) (hL : l.length ≤ 1048577) :
    Calls Try.prog 25 #[V, V'] w (Yes w) := by
  obtain ⟨a, cap, rfl⟩ := hA.slice
  obtain ⟨a', cap', rfl⟩ := hA'.slice
  have HA := Lib.hid hA
  have HA' := Lib.hid hA'
  clear hA hA'
  go_enter Try.func25, Try.ntmps25
  go_wp2
  go_loopw [5] (fun i wr => ∃ k : Nat, k ≤ l.length ∧ i = .int .i64 k ∧ Hid (Below w.heap.size w wr)) (fun i _ => l.length - (intOf i).toNat)
  case atStart => exact ⟨0, Nat.zero_le _, rfl, Lib.hid (Below.refl _ _)⟩
  case round =>
    obtain ⟨k, hk, rfl, HB⟩ := hrel
    by_cases hlt : k < l.length
    · have hltI : (k : Int) < (l.length : Int) := by omega
      obtain ⟨t, ht⟩ : ∃ t, l[k]? = some t := ⟨_, List.getElem?_eq_getElem hlt⟩
      obtain ⟨g, off, rfl, hg, hq, hc⟩ := HA.out.kd ht
      obtain ⟨g', off', rfl, hg', hq', hc'⟩ := HA'.out.kd ht
      have HCE : Hid (∀ W, Below wr.heap.size wr W → W.cell? ⟨g, off + k * 2, none⟩ = some (.int .i64 t.v) ∧ W.cell? ⟨g, off + k * 2 + 1, none⟩ = some (.int .i64 t.k) ∧ W.cell? ⟨g', off' + k * 2, none⟩ = some (.int .i64 t.v) ∧ W.cell? ⟨g', off' + k * 2 + 1, none⟩ = some (.int .i64 t.k)) := Lib.hid fun W bW => by
        have hb := belowOn HB.out (Nat.le_refl _) bW
        obtain ⟨d0, d1⟩ := hc W hb
        obtain ⟨e0, e1⟩ := hc' W hb
        exact ⟨d0, d1, e0, e1⟩
      have HEQ : Hid (∀ W, Below wr.heap.size wr W → Calls Try.prog 53 #[.agg #[.int .i64 t.v, .int .i64 t.k], .agg #[.int .i64 t.v, .int .i64 t.k]] W (Yes W)) := Lib.hid fun W bW => eqVarKind_any t W
      clear hc hc' hq hq' ht
      have hb0 : Below wr.heap.size wr wr := Below.refl _ _
      have hbd : Below wr.heap.size wr wr.drew := hb0.drew
      obtain ⟨d0, d1, e0, e1⟩ := HCE.out wr hb0
      have HTR : Hid (∀ a b, Below wr.heap.size wr a → Below a.heap.size a b → Below wr.heap.size wr b) := Lib.hid fun a b h1 h2 => belowOn h1 (Nat.le_refl _) h2
      generalize t.v = tv at HCE HEQ d0 e0
      generalize t.k = tk at HCE HEQ d1 e1
      go_wp2_with fail
      go_region_held3 (fun w' => Below wr.heap.size wr w' ∧ w'.cell? ⟨g, off + k * 2, none⟩ = some (.int .i64 tv) ∧ w'.cell? ⟨g, off + k * 2 + 1, none⟩ = some (.int .i64 tk) ∧ w'.cell? ⟨g', off' + k * 2, none⟩ = some (.int .i64 tv) ∧ w'.cell? ⟨g', off' + k * 2 + 1, none⟩ = some (.int .i64 tk)) (go_keep)
        (first
          | (go_at_call 53; (with_reducible refine Calls.mono (HEQ.out _ ?_) ?_); (assumption); rintro e w' ⟨rfl, hb⟩; have hB' := HTR.out _ _ (by assumption) hb; obtain ⟨k0, k1, k2, k3⟩ := HCE.out _ hB'))
      all_goals (go_wp2; go_roundw; (case rel => exact ⟨k + 1, by omega, by go_num, Lib.hid (belowOn HB.out (Nat.le_refl _) (by assumption))⟩); (case measure => simp [intOf]; omega))
    · go_wp2
      go_ret
      exact ⟨rfl, HB.out⟩

/-! ### Marks -/
def wkK (_ : Kd) : Nat := 2
def markKd (c : Int) (_ : Kd) : Kd := ⟨c, c + 1⟩
def markK (k : Int) (l : List Kd) : List Kd := markW markKd wkK k l
theorem wkK_sum : ∀ l : List Kd, sumW wkK l = 2 * l.length
  | [] => rfl
  | x :: l => by rw [sumW, wkK_sum l, List.length_cons, wkK]; omega
theorem markK_length (k : Int) (l : List Kd) : (markK k l).length = l.length := markW_length _ _ _ _
def nkK (l : List Kd) : Nat := sumW wkK l
theorem nkK_len (l : List Kd) : nkK l = 2 * l.length := wkK_sum l
theorem nkK_bd {l : List Kd} (h : l.length ≤ 1048577) : nkK l ≤ 4294967296 := by rw [nkK_len]; omega

end Go.Proofs.Ytnmdnajbafpfiaa

