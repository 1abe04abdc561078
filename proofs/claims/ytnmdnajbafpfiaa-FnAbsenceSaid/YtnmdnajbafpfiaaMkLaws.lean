/-
  Rows of Marks: the laws' sizes, copies, comparison, marks. (Written by wip/tools/gen_flat.py.)
-/
import Derived.Test.YtnmdnajbafpfiaaRows3
import Derived.Test.YtnmdnajbafpfiaaLaws
namespace Go.Proofs.Ytnmdnajbafpfiaa
open Go.RowKit
set_option linter.unusedVariables false
set_option linter.unusedSimpArgs false

structure Mk where
  v : Int
  tag : ByteArray
def mkE : El Mk where
  n := 2
  cells := fun b _ => [.int .i64 b.v, .string b.tag]
  kid := fun _ _ _ _ => True
  own := fun _ _ _ _ => True
  pos := by decide
  len := fun _ _ => rfl
  kidFrame := fun _ _ _ => trivial
  kidSub := fun _ _ => trivial
  ownFrame := fun _ _ => trivial
  ownSub := fun _ _ => trivial
  ownKid := fun _ => trivial
/-- One element of a list: its cells in every later world. -/
theorem ListS.mk {w : World} {S : Nat → Prop} {a : Option Addr} {n cap : Nat} {l : List Mk} (h : ListS mkE w S (.slice a n cap) l) {k : Nat} {x : Mk} (hx : l[k]? = some x) :
    ∃ g off, a = some ⟨g, off, none⟩ ∧ g < w.heap.size ∧ n = l.length ∧ (∀ W, Below w.heap.size w W → W.cell? ⟨g, off + k * 2, none⟩ = some (.int .i64 x.v) ∧ W.cell? ⟨g, off + k * 2 + 1, none⟩ = some (.string x.tag)) := by
  obtain ⟨g, off, U, rfl, hS, hg, hn, hc, hk⟩ := h.elem hx
  exact ⟨g, off, rfl, hg, hn, fun W hW => ⟨hc W hW 0 _ rfl, hc W hW 1 _ rfl⟩⟩
/-- An element put into a list; one of its cells written. -/
theorem ListO.mkPut {e : TypeId} {w : World} {S : Nat → Prop} {g n cap : Nat} {l : List Mk} (h : ListO mkE e w S (.slice (some ⟨g, 0, none⟩) n cap) l) {j : Nat} {x : Mk} (hj : l[j]? = some x) (b : Mk) :
    Only S w ((w.setCell ⟨g, j * 2, none⟩ (.int .i64 b.v)).setCell ⟨g, j * 2 + 1, none⟩ (.string b.tag)) ∧ ListO mkE e ((w.setCell ⟨g, j * 2, none⟩ (.int .i64 b.v)).setCell ⟨g, j * 2 + 1, none⟩ (.string b.tag)) S (.slice (some ⟨g, 0, none⟩) n cap) (l.set j b) := by
  obtain ⟨g0, cap0, U0, C0, hv0, hS0, _, _, _, _, _, _, _, k0⟩ := h.at hj
  simp only [Value.slice.injEq, Option.some.injEq, Addr.mk.injEq] at hv0
  obtain ⟨⟨rfl, _⟩, _, rfl⟩ := hv0
  obtain ⟨g1, o1⟩ := k0 b U0 (fun _ => False) trivial (fun _ h => h.elim)
  exact ⟨Only.of_grown g1 hS0, ListO.sub o1 fun k hk => hk.elim id False.elim⟩
theorem ListO.mkOne {e : TypeId} {w : World} {S : Nat → Prop} {g n cap : Nat} {l : List Mk} (h : ListO mkE e w S (.slice (some ⟨g, 0, none⟩) n cap) l) {j : Nat} {x : Mk} (hj : l[j]? = some x) (c : Int) :
    Only S w (w.setCell ⟨g, j * 2, none⟩ (.int .i64 c)) ∧ ListO mkE e (w.setCell ⟨g, j * 2, none⟩ (.int .i64 c)) S (.slice (some ⟨g, 0, none⟩) n cap) (l.set j ⟨c, x.tag⟩) := by
  obtain ⟨g0, cap0, U0, C0, hv0, hS0, _, _, _, _, hown, _, hp, _⟩ := h.at hj
  simp only [Value.slice.injEq, Option.some.injEq, Addr.mk.injEq] at hv0
  obtain ⟨⟨rfl, _⟩, _, rfl⟩ := hv0
  obtain ⟨g1, o1⟩ := hp ⟨c, x.tag⟩ 0 [.int .i64 c] (fun _ _ => trivial) rfl (by show 1 ≤ 2; decide)
  exact ⟨Only.of_grown g1 hS0, o1⟩
theorem ListO.mkTwo {e : TypeId} {w : World} {S : Nat → Prop} {g n cap : Nat} {l : List Mk} (h : ListO mkE e w S (.slice (some ⟨g, 0, none⟩) n cap) l) {j : Nat} {x : Mk} (hj : l[j]? = some x) (c : ByteArray) :
    Only S w (w.setCell ⟨g, j * 2 + 1, none⟩ (.string c)) ∧ ListO mkE e (w.setCell ⟨g, j * 2 + 1, none⟩ (.string c)) S (.slice (some ⟨g, 0, none⟩) n cap) (l.set j ⟨x.v, c⟩) := by
  obtain ⟨g0, cap0, U0, C0, hv0, hS0, _, _, _, _, hown, _, hp, _⟩ := h.at hj
  simp only [Value.slice.injEq, Option.some.injEq, Addr.mk.injEq] at hv0
  obtain ⟨⟨rfl, _⟩, _, rfl⟩ := hv0
  obtain ⟨g1, o1⟩ := hp ⟨x.v, c⟩ 1 [.string c] (fun _ _ => trivial) rfl (by show 2 ≤ 2; decide)
  exact ⟨Only.of_grown g1 hS0, o1⟩

def wdM (x : Mk) : Nat := 1 + x.tag.size
def szM (l : List Mk) : Nat := sumW wdM l
def fineM (l : List Mk) : Prop := ∀ x ∈ l, x.tag.size ≤ maxLen
theorem szM_len (l : List Mk) : l.length ≤ szM l := sumW_len (fun x => by unfold wdM; omega) l
theorem szM_at {l : List Mk} {j : Nat} {x : Mk} (h : l[j]? = some x) : szM (l.take j) + (1 + x.tag.size) ≤ szM l := sumW_at h
theorem szM_take {l : List Mk} {j : Nat} {x : Mk} (h : l[j]? = some x) : szM (l.take (j + 1)) = szM (l.take j) + (1 + x.tag.size) := sumW_take h
set_option maxRecDepth 100000 in
theorem szMark_any (x : Mk) (left : Int) (w : World) (hf : x.tag.size ≤ maxLen) (h0 : 0 ≤ left) (h1 : left ≤ 1048576) :
    Calls Try.prog 54 #[.agg #[.int .i64 x.v, .string x.tag], .int .i64 left] w (SzP x.tag.size left w) := by
  unfold maxLen at hf
  obtain ⟨v, k⟩ := x
  have hf' : k.size ≤ 9223372036854775807 := hf
  clear hf
  have hw : IntKind.i64.wrap (left - (k.size : Int)) = left - (k.size : Int) := IntWalk.i64_in _ (by omega)
  by_cases hneg : left - (k.size : Int) < 0
  · go_enter Try.func54, Try.ntmps54
    go_wp2
    go_ret
    exact ⟨-1, rfl, by omega, by omega, fun x => by omega, belowAlloc (Below.refl _ _) _⟩
  · go_enter Try.func54, Try.ntmps54
    go_wp2
    go_ret
    exact ⟨left - k.size, rfl, by omega, by omega, fun x => by omega, belowAlloc (Below.refl _ _) _⟩
set_option maxRecDepth 100000 in
theorem szMarks_any (l : List Mk) (V : Value) (left : Int) (w : World) (hA : ListS mkE w Any V l) (hF : fineM l) (hL : l.length ≤ maxLen) (h0 : 0 ≤ left) (h1 : left ≤ 1048576) :
    Calls Try.prog 26 #[V, .int .i64 left] w (SzP (szM l) left w) := by
  unfold maxLen at hL
  obtain ⟨a, cap, rfl⟩ := hA.slice
  have HA := Lib.hid hA
  have HF := Lib.hid hF
  clear hA hF
  by_cases hneg : left - l.length < 0
  · go_enter Try.func26, Try.ntmps26
    go_wp2
    go_ret
    exact ⟨-1, rfl, by omega, by omega, fun x => by omega, Below.refl _ _⟩
  · go_enter Try.func26, Try.ntmps26
    go_wp2
    go_loopw [1, 5] (fun lv i wr => ∃ (k : Nat) (r : Int), k ≤ l.length ∧ i = .int .i64 k ∧ lv = .int .i64 r ∧ 0 ≤ r ∧ r ≤ left ∧ Hid (r = left - l.length - (szM (l.take k) - k)) ∧ Hid (Below w.heap.size w wr)) (fun _ i _ => l.length - (intOf i).toNat)
    case atStart => exact ⟨0, left - l.length, Nat.zero_le _, rfl, by go_num, by omega, by omega, Lib.hid (by simp [szM, sumW]), Lib.hid (Below.refl _ _)⟩
    case round =>
      obtain ⟨k, r, hk, rfl, rfl, hr0, hr1, HR, HB⟩ := hrel
      by_cases hlt : k < l.length
      · obtain ⟨b, hb⟩ : ∃ b, l[k]? = some b := ⟨_, List.getElem?_eq_getElem hlt⟩
        obtain ⟨g, off, rfl, hg, hq, hc⟩ := HA.out.mk hb
        obtain ⟨d0, d1⟩ := hc wr HB.out
        have HS := Lib.hid (szMark_any b r wr (HF.out b (List.mem_of_getElem? hb)) hr0 (by omega))
        have HX := Lib.hid hb
        clear hc hq hb
        go_wp2_with fail
        refine HS.out.mono ?_
        rintro e w' ⟨q, rfl, hq1, hq2, hq, hb⟩
        have HQ := Lib.hid hq
        have HB2 := Lib.hid (belowOn HB.out (Nat.le_refl _) hb)
        clear hq hb HS d0 d1
        by_cases hn : q < 0
        · go_wp2
          go_ret
          have h2 := szM_at HX.out
          have h4 := HR.out
          have h5 := szM_len (l.take k)
          rw [List.length_take] at h5
          exact ⟨-1, rfl, by omega, by omega, fun x => by omega, HB2.out⟩
        · go_wp2
          go_roundw
          case rel =>
            have h1 := HQ.out (by omega)
            have h2 := HR.out
            have h3 := szM_take HX.out
            exact ⟨k + 1, q, by omega, by go_num, rfl, by omega, by omega, Lib.hid (by rw [h3]; omega), HB2⟩
          case measure => simp [intOf]; omega
      · go_wp2
        go_ret
        obtain rfl : k = l.length := by omega
        have h4 := HR.out
        rw [List.take_length] at h4
        exact ⟨r, rfl, by omega, by omega, fun _ => by have := szM_len l; omega, HB.out⟩

theorem box_cells2mk {w : World} {b : Nat} {e : TypeId} {x0 x1 : Value} (h : w.heap[b]? = some (Obj.cells #[x0, x1] e)) :
    w.cell? ⟨b, 0, none⟩ = some x0 ∧ w.cell? ⟨b, 1, none⟩ = some x1 ∧ ∀ j, w.frozen? ⟨b, j, none⟩ = false :=
  ⟨cell_of_row w b 0 _ _ _ h, cell_of_row w b 1 _ _ _ h, fun j => frozen_of_row w b j _ _ h⟩
theorem bodyPost_twomk {P : Program} {fn : Func} {R : Ending → World → Prop} {a : Act} {w : World} {p : Tmp} {ty e : TypeId} {b : Nat} {x0 x1 y0 y1 : Value} {d : TypeDesc} (h : fn.results = #[.cell p ty]) (hp : a.tmps.getD p undef = .pointer (some ⟨b, 0, none⟩)) (hd : a.defers = [])
    (hu : P.underlying ty = some d) (hdd : (match d with | .struct _ | .array _ _ => true | _ => false) = true) (hi : (P.info? ty).map (·.size) = some 2) (hb : w.heap[b]? = some (Obj.cells #[x0, x1] e))
    (hR : ∀ w', Only (fun k => k = b) w w' → R (.returned (.agg #[y0, y1])) w') :
    bodyPost P fn R .ret a ((w.setCell ⟨b, 0, none⟩ y0).setCell ⟨b, 1, none⟩ y1) := by
  have h0 := heap_setCell_same w b 0 _ e y0 hb
  have h1 := heap_setCell_same _ b 1 _ e y1 h0
  refine bodyPost_ret (results_cell_row h _ _ b e #[y0, y1] (0, 0) d hp h1 hu hdd hi) hd (hR _ ?_)
  have one : ∀ (W : World) (j : Nat) (u : Value), Only (fun k => k = b) W (W.setCell ⟨b, j, none⟩ u) := fun W j u => ⟨rfl, rfl, rfl, by simp, fun k _ hk => Below.heap_setCell _ _ _ _ hk⟩
  exact (one _ _ _).trans (one _ _ _)
theorem infoMark : (Try.prog.info? 49).map (fun i => (i.zero, i.size, i.bytes)) = some (some (.agg #[.int .i64 0, .string ⟨#[]⟩]), 2, 24) := by kernel_rfl

set_option maxHeartbeats 1000000 in
set_option maxRecDepth 100000 in
theorem toMark_any (b : Mk) (w : World) :
    Calls Try.prog 57 #[.agg #[.int .i64 b.v, .string b.tag]] w fun e w' => e = .returned (.agg #[.int .i64 b.v, .string b.tag]) ∧ Below w.heap.size w w' := by
  obtain ⟨v, k⟩ := b
  have hb1 : Below w.heap.size w ((w.alloc (.cells #[.int .i64 v, .string k] 96)).alloc (.cells #[.int .i64 0, .string ⟨#[]⟩] 49)) := belowAlloc (belowAlloc (Below.refl _ _) _) _
  go_enter Try.func57, Try.ntmps57
  go_wp2
  refine bodyPost_ret (results_cell_row rfl _ _ (w.heap.size + 1) 49 #[.int .i64 v, .string k] (0, 0) _ rfl (heap3_1 _ _ _ _) Try.underlying49 rfl (by kernel_rfl)) rfl ⟨rfl, ?_⟩
  exact (((Below.refl _ w).alloc (Nat.le_refl _) _).alloc (by simp) _).alloc (by simp; omega) _

set_option maxHeartbeats 2000000 in
set_option maxRecDepth 100000 in
theorem toMarks_any (l : List Mk) (V : Value) (w : World) (hA : ListS mkE w Any V l) (hL : l.length ≤ 1048576) :
    Calls Try.prog 28 #[V] w fun e w' => ∃ u, e = .returned u ∧ NewList mkE 49 l w u w' ∧ u = .slice (some ⟨w.heap.size, 0, none⟩) l.length l.length := by
  obtain ⟨i0, hi, hz0, hz1, hz2⟩ := info_parts infoMark
  obtain ⟨a, cap, rfl⟩ := hA.slice
  have HA := Lib.hid hA
  clear hA
  go_enter Try.func28, Try.ntmps28
  go_wp2_with (at_make; refine wpList_make_full _ rfl _ _ 42 rfl 0 49 i0 _ 2 Try.underlying42 hi hz0 hz1 _ _ _ _ l.length rfl rfl rfl rfl (by rw [hz2]; omega) (by unfold maxLen; omega) (Nat.zero_le _) ?_; intro w1 hown hg; have HO1 := Lib.hid hown; have HG1 := Lib.hid hg; clear hown hg)
  have HB1 := Lib.hid (below_of_grown (B := w.heap.size) HG1.out (Nat.le_refl _) (fun k hk => by cases hk))
  have hgt : w.heap.size < w1.heap.size := rowE_hit HO1.out
  have HO : Hid (ListO mkE 49 w1 (iv w.heap.size w1.heap.size) (.slice (some ⟨w.heap.size, 0, none⟩) l.length l.length) (List.replicate l.length (⟨0, ⟨#[]⟩⟩ : Mk))) := Lib.hid (listO_made (E := mkE) (x0 := (⟨0, ⟨#[]⟩⟩ : Mk)) (U0 := .slice none 0 0) rfl HO1.out (by unfold iv; omega) trivial)
  clear HO1 HG1
  go_loopw [4] (fun i wr => ∃ (k : Nat) (xs : List Mk), k ≤ l.length ∧ i = .int .i64 k ∧ Hid (xs.length = l.length) ∧ Hid (∀ i, i < k → xs[i]? = l[i]?) ∧ Hid (ListO mkE 49 wr (iv w.heap.size wr.heap.size) (.slice (some ⟨w.heap.size, 0, none⟩) l.length l.length) xs) ∧
      Hid (Below w.heap.size w wr) ∧ w.heap.size < wr.heap.size) (fun i _ => l.length - (intOf i).toNat)
  case atStart => exact ⟨0, _, Nat.zero_le _, rfl, Lib.hid (by simp), Lib.hid (fun i hi => absurd hi (Nat.not_lt_zero _)), HO, HB1, hgt⟩
  case round =>
    obtain ⟨k, xs, hk, rfl, HL, HX, HW, HB, hgr⟩ := hrel
    clear HO
    by_cases hlt : k < l.length
    · obtain ⟨t, ht⟩ : ∃ t, l[k]? = some t := ⟨_, List.getElem?_eq_getElem hlt⟩
      obtain ⟨x, hx⟩ : ∃ x, xs[k]? = some x := ⟨_, List.getElem?_eq_getElem (by rw [HL.out]; omega)⟩
      obtain ⟨g, off, rfl, hg, hq, hc⟩ := HA.out.mk ht
      obtain ⟨d0, d1⟩ := hc wr HB.out
      have HT := Lib.hid ht
      have HC := Lib.hid (toMark_any t wr)
      have HXX := Lib.hid hx
      clear hc hq ht hx
      go_wp2_with fail
      refine HC.out.mono ?_
      rintro e w2 ⟨rfl, hb2⟩
      have HO2 := Lib.hid (HW.out.kept hb2)
      have HB3 := Lib.hid (belowOn HB.out (Nat.le_refl _) hb2)
      have hsz2 := hb2.size
      obtain ⟨g4, cap4, V4, C4, hv4, _, _, _, f4, hcc, _⟩ := HO2.out.at HXX.out
      simp only [Value.slice.injEq, Option.some.injEq, Addr.mk.injEq] at hv4
      obtain ⟨⟨rfl, _⟩, hq, rfl⟩ := hv4
      clear hq
      have e0 : w2.cell? ⟨w.heap.size, k * 2, none⟩ = some (.int .i64 x.v) := hcc 0 _ rfl
      have e1 : w2.cell? ⟨w.heap.size, k * 2 + 1, none⟩ = some (.string x.tag) := hcc 1 _ rfl
      have HP := Lib.hid (HO2.out.mkPut HXX.out t)
      clear hb2 hcc HC d0 d1
      have htl := List.getElem?_eq_some_iff.1 HXX.out
      go_wp2
      go_roundw
      case rel =>
        have hP := HP.out
        have hbl : Below w.heap.size w _ := HB3.out.trans (hP.1.below (fun k hk => hk.1) (by omega))
        refine ⟨k + 1, xs.set k t, by omega, by go_num, Lib.hid (by simpa using HL.out), Lib.hid ?_, Lib.hid (hP.2.sub fun m hm => ?_), Lib.hid hbl, ?_⟩
        · intro i hi
          by_cases e : i = k
          · subst e
            rw [List.getElem?_set_self htl.1, HT.out]
          · rw [List.getElem?_set_ne (fun x => e x.symm)]
            exact HX.out i (by omega)
        · have := hP.1.size
          unfold iv at hm ⊢
          omega
        · have := hP.1.size
          omega
      case measure => simp [intOf]; omega
    · go_wp2
      go_ret
      obtain rfl : k = l.length := by omega
      have e : xs = l := by
        apply List.ext_getElem?
        intro i
        by_cases hi : i < l.length
        · exact HX.out i hi
        · rw [List.getElem?_eq_none (by rw [HL.out]; omega), List.getElem?_eq_none (by omega)]
      have h := HW.out
      rw [e] at h
      exact ⟨_, rfl, ⟨h, HB.out⟩, rfl⟩

set_option maxHeartbeats 1000000 in
set_option maxRecDepth 100000 in
theorem eqMark_any (b : Mk) (w : World) :
    Calls Try.prog 58 #[.agg #[.int .i64 b.v, .string b.tag], .agg #[.int .i64 b.v, .string b.tag]] w (Yes w) := by
  obtain ⟨v, k⟩ := b
  have q0 : (v != v) = false := by simp
  have q1 : (k.toList != k.toList) = false := by simp
  go_enter Try.func58, Try.ntmps58
  go_wp2
  go_ret
  exact ⟨rfl, belowAlloc (belowAlloc (Below.refl _ _) _) _⟩

set_option maxHeartbeats 2000000 in
set_option maxRecDepth 100000 in
theorem eqMarks_any (l : List Mk) (V V' : Value) (w : World) (hA : ListS mkE w Any V l) (hA' : ListS mkE w Any V' l) (hL : l.length ≤ 6000000000) :
    Calls Try.prog 29 #[V, V'] w (Yes w) := by
  obtain ⟨a, cap, rfl⟩ := hA.slice
  obtain ⟨a', cap', rfl⟩ := hA'.slice
  have HA := Lib.hid hA
  have HA' := Lib.hid hA'
  clear hA hA'
  go_enter Try.func29, Try.ntmps29
  go_wp2
  go_loopw [5] (fun i wr => ∃ k : Nat, k ≤ l.length ∧ i = .int .i64 k ∧ Hid (Below w.heap.size w wr)) (fun i _ => l.length - (intOf i).toNat)
  case atStart => exact ⟨0, Nat.zero_le _, rfl, Lib.hid (Below.refl _ _)⟩
  case round =>
    obtain ⟨k, hk, rfl, HB⟩ := hrel
    by_cases hlt : k < l.length
    · have hltI : (k : Int) < (l.length : Int) := by omega
      obtain ⟨t, ht⟩ : ∃ t, l[k]? = some t := ⟨_, List.getElem?_eq_getElem hlt⟩
      obtain ⟨g, off, rfl, hg, hq, hc⟩ := HA.out.mk ht
      obtain ⟨g', off', rfl, hg', hq', hc'⟩ := HA'.out.mk ht
      have HCE : Hid (∀ W, Below wr.heap.size wr W → W.cell? ⟨g, off + k * 2, none⟩ = some (.int .i64 t.v) ∧ W.cell? ⟨g, off + k * 2 + 1, none⟩ = some (.string t.tag) ∧ W.cell? ⟨g', off' + k * 2, none⟩ = some (.int .i64 t.v) ∧ W.cell? ⟨g', off' + k * 2 + 1, none⟩ = some (.string t.tag)) := Lib.hid fun W bW => by
        have hb := belowOn HB.out (Nat.le_refl _) bW
        obtain ⟨d0, d1⟩ := hc W hb
        obtain ⟨e0, e1⟩ := hc' W hb
        exact ⟨d0, d1, e0, e1⟩
      have HEQ : Hid (∀ W, Below wr.heap.size wr W → Calls Try.prog 58 #[.agg #[.int .i64 t.v, .string t.tag], .agg #[.int .i64 t.v, .string t.tag]] W (Yes W)) := Lib.hid fun W bW => eqMark_any t W
      clear hc hc' hq hq' ht
      have hb0 : Below wr.heap.size wr wr := Below.refl _ _
      have hbd : Below wr.heap.size wr wr.drew := hb0.drew
      obtain ⟨d0, d1, e0, e1⟩ := HCE.out wr hb0
      have HTR : Hid (∀ a b, Below wr.heap.size wr a → Below a.heap.size a b → Below wr.heap.size wr b) := Lib.hid fun a b h1 h2 => belowOn h1 (Nat.le_refl _) h2
      generalize t.v = tv at HCE HEQ d0 e0
      generalize t.tag = tk at HCE HEQ d1 e1
      go_wp2_with fail
      go_region_held3 (fun w' => Below wr.heap.size wr w' ∧ w'.cell? ⟨g, off + k * 2, none⟩ = some (.int .i64 tv) ∧ w'.cell? ⟨g, off + k * 2 + 1, none⟩ = some (.string tk) ∧ w'.cell? ⟨g', off' + k * 2, none⟩ = some (.int .i64 tv) ∧ w'.cell? ⟨g', off' + k * 2 + 1, none⟩ = some (.string tk)) (go_keep)
        (first
          | (go_at_call 58; (with_reducible refine Calls.mono (HEQ.out _ ?_) ?_); (assumption); rintro e w' ⟨rfl, hb⟩; have hB' := HTR.out _ _ (by assumption) hb; obtain ⟨k0, k1, k2, k3⟩ := HCE.out _ hB'))
      all_goals (go_wp2; go_roundw; (case rel => exact ⟨k + 1, by omega, by go_num, Lib.hid (belowOn HB.out (Nat.le_refl _) (by assumption))⟩); (case measure => simp [intOf]; omega))
    · go_wp2
      go_ret
      exact ⟨rfl, HB.out⟩

/-! ### Marks -/
def wkM (_ : Mk) : Nat := 2
def markMk (c : Int) (_ : Mk) : Mk := ⟨c, mtx (c + 1)⟩
def markM (k : Int) (l : List Mk) : List Mk := markW markMk wkM k l
theorem wkM_sum : ∀ l : List Mk, sumW wkM l = 2 * l.length
  | [] => rfl
  | x :: l => by rw [sumW, wkM_sum l, List.length_cons, wkM]; omega
theorem markM_length (k : Int) (l : List Mk) : (markM k l).length = l.length := markW_length _ _ _ _
def nkM (l : List Mk) : Nat := sumW wkM l
theorem nkM_len (l : List Mk) : nkM l = 2 * l.length := wkM_sum l
theorem nkM_bd {l : List Mk} (h : l.length ≤ 6000000000) : nkM l ≤ 12000000000 := by rw [nkM_len]; omega

end Go.Proofs.Ytnmdnajbafpfiaa

