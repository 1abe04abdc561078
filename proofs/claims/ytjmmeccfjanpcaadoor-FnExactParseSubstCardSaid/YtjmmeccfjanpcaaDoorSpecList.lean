/-
  The model's l02List.
-/
import Derived.Test.YtjmmeccfjanpcaaDoorListOk
import Derived.Test.YtjmmeccfjanpcaaDoorItems
namespace Go.Proofs.YtjmmeccfjanpcaaDoor
open Go.RowKit
set_option linter.unusedVariables false
set_option linter.unusedSimpArgs false

def offC (C : Nat → Prop) (B : Nat) (k : Nat) : Prop := C k ∨ B + 1 + 1 ≤ k
theorem offC_out {C : Nat → Prop} {B k : Nat} (h : offC C B k) (hC : ∀ k, C k → k < B) : k < B ∨ B + 1 + 1 ≤ k := h.imp (hC k) id
theorem ArgsS.lt {w : World} {S : Nat → Prop} {v : Value} {l : List Tm} (h : ArgsS w S v l) : ArgsS w (fun k => S k ∧ k < w.heap.size) v l := by
  induction h with
  | nil a cap => exact .nil a cap
  | row g off n cap V l hn hs hg hc hr ih => exact .row g off n cap V l hn ⟨hs, hg⟩ hg hc ih
set_option maxRecDepth 100000 in
set_option maxHeartbeats 4000000 in
theorem specListS_any (C : Nat → Prop) (l : List Tm) (t : Tm) (V Vt : Value) (w : World) (hCl : ∀ k, C k → k < w.heap.size) (hA : ArgsS w C V l) (hT : ArgsS w C Vt t.args) (hL : l.length ≤ 1048576) :
    Calls Tryd.prog 67 #[V, .agg #[.int .i64 t.kind, .int .i64 t.num, .string t.name, Vt]] w (OldS C (listT l t) w) := by
  obtain ⟨a, cap, rfl⟩ := hA.at.slice
  obtain ⟨ta, tc, rfl⟩ := hT.at.slice
  have HCL := Lib.hid hCl
  have HA := Lib.hid hA
  have HT := Lib.hid hT
  clear hA hT hCl
  have HX := Lib.hid ((at_box w #[.int .i64 t.kind, .int .i64 t.num, .string t.name, .slice ta t.args.length tc] 43).read (belowAlloc (Below.refl _ _) (.cells #[.int .i64 0, .int .i64 0, .string ⟨#[]⟩, .slice none 0 0] 43)))
  have HR := Lib.hid (at_box_of (w.alloc (.cells #[.int .i64 t.kind, .int .i64 t.num, .string t.name, .slice ta t.args.length tc] 43)) #[.int .i64 0, .int .i64 0, .string ⟨#[]⟩, .slice none 0 0] 43 (w.heap.size + 1) (by simp))
  have HW : Hid (Below w.heap.size w ((w.alloc (.cells #[.int .i64 t.kind, .int .i64 t.num, .string t.name, .slice ta t.args.length tc] 43)).alloc (.cells #[.int .i64 0, .int .i64 0, .string ⟨#[]⟩, .slice none 0 0] 43))) := Lib.hid (belowAlloc (belowAlloc (Below.refl _ _) _) _)
  have HSZ : Hid (w.heap.size + 1 + 1 ≤ ((w.alloc (.cells #[.int .i64 t.kind, .int .i64 t.num, .string t.name, .slice ta t.args.length tc] 43)).alloc (.cells #[.int .i64 0, .int .i64 0, .string ⟨#[]⟩, .slice none 0 0] 43)).heap.size) := Lib.hid (by simp)
  go_enter Tryd.func67, Tryd.ntmps67
  go_upto_region 1 with (fail)
  generalize hw0 : (w.alloc (.cells #[.int .i64 t.kind, .int .i64 t.num, .string t.name, .slice ta t.args.length tc] 43)).alloc (.cells #[.int .i64 0, .int .i64 0, .string ⟨#[]⟩, .slice none 0 0] 43) = w0 at HX HR HW HSZ ⊢
  clear hw0
  go_wp2
  go_loopw [5] (fun i wr => ∃ (k : Nat) (c : Tm) (ad : Option Addr) (cp : Nat), k ≤ l.length ∧ i = .int .i64 ((k : Int) - 1) ∧ Hid (c = listT (l.drop k) t) ∧ Hid (ArgsS wr (offC C w.heap.size) (.slice ad c.args.length cp) c.args) ∧
      Hid (At wr w.heap.size (w.heap.size + 1) (BoxP w.heap.size #[.int .i64 c.kind, .int .i64 c.num, .string c.name, .slice ad c.args.length cp] 43)) ∧ Hid (At wr (w.heap.size + 1) (w.heap.size + 1 + 1) (BoxP (w.heap.size + 1) #[.int .i64 0, .int .i64 0, .string ⟨#[]⟩, .slice none 0 0] 43)) ∧
      Hid (Below w.heap.size w wr) ∧ w.heap.size + 1 + 1 ≤ wr.heap.size)
    (fun i _ => (intOf i + 1).toNat)
  case atStart => exact ⟨l.length, t, ta, tc, Nat.le_refl _, rfl, Lib.hid (by rw [List.drop_length]; rfl), Lib.hid ((HT.out.frame HW.out.size fun k hk _ => HW.out.block k (HCL.out k hk)).sub fun k hk => .inl hk), HX, HR, HW, HSZ.out⟩
  case round =>
    obtain ⟨k, c, ad, cp, hk, rfl, HC, HCA, HXr, HRr, HWr, hsz⟩ := hrel
    clear HX HR HW HSZ HT
    cases k with
    | zero =>
      have HRE := Lib.hid HRr.out.now
      obtain ⟨c0a, c0b, c0c, c0d⟩ := HXr.out.cells
      obtain ⟨r0, r1, r2, r3, rf⟩ := box_cells HRr.out.now
      have z0 := HXr.out.le
      have z1 := HRr.out.le
      go_wp2
      refine bodyPost_four (e := 43) (b := w.heap.size + 1) rfl rfl rfl Tryd.underlying43 rfl (by kernel_rfl) HRE.out ?_
      intro w' hw
      have hc : c = listT l t := HC.out
      rw [← hc]
      exact ⟨_, rfl, (HCA.out.frame hw.size fun j hj hjs => hw.block j hjs (fun e => by have := offC_out hj HCL.out; omega)).lt.sub fun j hj => hj.1.imp id fun h => ⟨by omega, hj.2⟩, HWr.out.trans (hw.below (fun j hj => by omega) HWr.out.size)⟩
    | succ j =>
      rw [show (((j + 1 : Nat) : Int) - 1) = (j : Int) by omega]
      obtain ⟨x, hx⟩ : ∃ x, l[j]? = some x := ⟨_, List.getElem?_eq_getElem (by omega)⟩
      have hd : l.drop j = x :: l.drop (j + 1) := by
        rw [List.drop_eq_getElem_cons (by omega)]
        congr 1
        exact Option.some.inj ((List.getElem?_eq_getElem (by omega)).symm.trans hx)
      have HN : Hid (Tm.mk 4 0 ⟨#[]⟩ [x, c] = listT (l.drop j) t) := Lib.hid (by rw [hd, listT_cons, ← HC.out])
      obtain ⟨g, off, u1, u2, rfl, hg, hq, hc, hch⟩ := HA.out.elem hx
      have HCH := Lib.hid hch
      have HCE : Hid (∀ W, Below wr.heap.size wr W → (W.cell? ⟨g, off + j * 4, none⟩ = some (.int .i64 x.kind) ∧ W.cell? ⟨g, off + j * 4 + 1, none⟩ = some (.int .i64 x.num) ∧ W.cell? ⟨g, off + j * 4 + 2, none⟩ = some (.string x.name) ∧ W.cell? ⟨g, off + j * 4 + 3, none⟩ = some (.slice u1 x.args.length u2)) ∧
          W.heap[w.heap.size]? = some (.cells #[.int .i64 c.kind, .int .i64 c.num, .string c.name, .slice ad c.args.length cp] 43)) := Lib.hid fun W hW => ⟨hc W (belowOn HWr.out (Nat.le_refl _) hW), (HXr.out.read hW).now⟩
      have hgw : g < wr.heap.size := by omega
      have hjl : j < l.length := by omega
      have HP := Lib.hid (fun W => specPair_any x.kind x.num x.name u1 x.args.length u2 c.kind c.num c.name ad c.args.length cp W)
      clear hx hd hq hc hch HA
      have hself : Below wr.heap.size wr wr := Below.refl _ _
      have hdrew : Below wr.heap.size wr wr.drew := hself.drew
      obtain ⟨⟨x0, x1, x2, x3⟩, hb0⟩ := HCE.out _ hself
      obtain ⟨⟨y0, y1, y2, y3⟩, hb1⟩ := HCE.out _ hdrew
      obtain ⟨b0, b1, b2, b3, bf⟩ := box_cells hb0
      obtain ⟨d0, d1, d2, d3, df⟩ := box_cells hb1
      have n1 : ¬ g = w.heap.size := by omega
      have n2 : ¬ w.heap.size = g := by omega
      clear hb0 hb1
      go_wp2_with fail
      go_region_law (go_simp; go_at_call 79; (with_reducible refine Calls.mono (HP.out _) ?_); rintro e wB ⟨gg, rfl, hg1, hg2, hgB, hbB⟩; have hbW : Below wr.heap.size wr wB := (by first | exact belowOn hself (Nat.le_refl _) hbB | exact belowOn hdrew (Nat.le_refl _) hbB); obtain ⟨_, hxB⟩ := HCE.out _ hbW; obtain ⟨p0, p1, p2, p3, pf⟩ := box_cells hxB; have zB : w.heap.size < wB.heap.size := World.block_lt_of_cell? wB _ p0; have HXB := Lib.hid hxB; have HGB := Lib.hid hgB; have HBW := Lib.hid hbW; clear hxB hgB hbB)
      all_goals
        go_wp2
        go_roundw
        case rel =>
          have hs1 := HBW.out.size
          have hgg : wr.heap.size ≤ gg := by first | exact hg1 | (simpa using hg1)
          have hst := store4 HXB.out (.int .i64 4) (.int .i64 0) (.string ⟨#[]⟩) (.slice (some ⟨gg, 0, none⟩) 2 2)
          have ho := hst.2
          have hso := ho.size
          have hpair : ArgsS wB (offC C w.heap.size) (.slice (some ⟨gg, 0, none⟩) 2 2) [x, c] := argsS_pair HGB.out hg2 (.inr (by omega)) (((HCH.out.frame HWr.out.size fun k hk _ => HWr.out.block k (HCL.out k hk)).kept HBW.out).sub fun k hk => .inl hk) (HCA.out.kept HBW.out)
          exact ⟨j, .mk 4 0 ⟨#[]⟩ [x, c], some ⟨gg, 0, none⟩, 2, by omega, by go_num, HN, Lib.hid (hpair.frame hso fun k hk hks => ho.block k hks (fun e => by have e1 := e.1; have e2 := e.2; have := offC_out hk HCL.out; omega)), Lib.hid ⟨hst.1, stays_box _ _ _, by omega⟩, Lib.hid ((HRr.out.read HBW.out).only ho (by omega)), Lib.hid ((belowOn HWr.out (Nat.le_refl _) HBW.out).trans (ho.below (fun k hk => by have := hk.1; omega) (by have := HWr.out.size; omega))), by omega⟩
        case measure => simp [intOf] <;> omega
theorem specList_any (l : List Tm) (t : Tm) (V Vt : Value) (w : World) (hA : ArgsAt w V l) (hT : ArgsAt w Vt t.args) (hL : l.length ≤ 1048576) :
    Calls Tryd.prog 67 #[V, .agg #[.int .i64 t.kind, .int .i64 t.num, .string t.name, Vt]] w (OldTm (listT l t) w) :=
  (specListS_any (fun k => k < w.heap.size) l t V Vt w (fun _ h => h) hA.inS hT.inS hL).mono fun _ _ h => h.old
end Go.Proofs.YtjmmeccfjanpcaaDoor

