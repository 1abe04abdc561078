/-
  strings.Builder's WriteByte; the text of a term written: leafText, writeText, FormatTerm of the program.
-/
import Derived.Test.YtjmmeccfjanpcaaDoorTextSpec
import Derived.Test.YtjmmeccfjanpcaaDoorBuilder
import Derived.Test.YtjmmeccfjanpcaaDoorJoin
import Derived.Test.YtjmmeccfjanpcaaDoorNums
namespace Go.Proofs.YtjmmeccfjanpcaaDoor
open Go.RowKit
set_option linter.unusedVariables false
set_option linter.unusedSimpArgs false

set_option maxHeartbeats 2000000 in
set_option maxRecDepth 100000 in
theorem writeByte_any (B b : Nat) (bs : List Value) (c : Int) (w : World) (h : Lib.IsBuilder 76 5 B b bs w) (hlen : bs.length + 1 ≤ 1099511627776) (hBw : B ≤ w.heap.size) :
    Calls Tryd.prog 61 #[.pointer (some ⟨b, 0, none⟩), .int .u8 c] w fun e w' => e = .returned .nilIface ∧
      (Lib.IsBuilder 76 5 B b (bs ++ [.int .u8 c]) w' ∧ Below B w w') := by
  obtain ⟨i0, hi, hz0, hz1, hz2⟩ := info_parts infoByte
  have H := Lib.hid (copyCheck_any B b bs w h)
  go_enter Tryd.func61, Tryd.ntmps61
  go_wp2_with fail
  refine H.out.mono ?_
  rintro e w1 ⟨rfl, h1, hb1⟩
  obtain ⟨hB, v, hbk, hown, hne⟩ := h1
  have c0 : w1.cell? ⟨b, 0, none⟩ = some (.pointer (some ⟨b, 0, none⟩)) := by rw [Lib.cell_of_heap hbk]; rfl
  have c1 : w1.cell? ⟨b, 1, none⟩ = some v := by rw [Lib.cell_of_heap hbk]; rfl
  have hsz := hb1.size
  have hlt : b < w1.heap.size := by
    rcases Nat.lt_or_ge b w1.heap.size with h' | h'
    · exact h'
    · simp [Array.getElem?_eq_none h'] at hbk
  have HOWN := Lib.hid hown
  have HBK := Lib.hid hbk
  have HNE := Lib.hid hne
  have HB1 := Lib.hid hb1
  clear hown hbk hne hb1 H
  go_wp2_with (at_builtin; refine wpList_append_lies _ rfl _ _ 68 rfl B 5 i0 _ 1 1 Tryd.underlying68 hi hz0 hz1 hz2 rfl (by decide) v bs.length bs rfl (HOWN.out.alloc _) ⟨w1.heap.size, 0, none⟩ 1 1 [.int .u8 c] rfl rfl (World.news_of_block (heap_alloc_new w1 _)) (by simp [Value.oneCell']) (by decide) (by unfold maxLen; omega) (by omega) (by simp <;> omega) (w1.heap.size + 1) (by simp) ?_; intro gg cap' w2 hown2 hgrow hat hlt2; have HAP := Lib.hid (And.intro hown2 (And.intro hgrow (And.intro hat hlt2))); have hb2 : w2.heap[b]? = some (.cells #[.pointer (some ⟨b, 0, none⟩), v] 76 (0, 0)) := (hgrow.block b (by simp <;> omega) (fun e => HNE.out e.symm)).trans ((Below.heap_alloc w1 _ b hlt).trans HBK.out); have d0 : w2.cell? ⟨b, 0, none⟩ = some (.pointer (some ⟨b, 0, none⟩)) := (by rw [Lib.cell_of_heap hb2]; rfl); have d1 : w2.cell? ⟨b, 1, none⟩ = some v := (by rw [Lib.cell_of_heap hb2]; rfl); have f1 : w2.frozen? ⟨b, 1, none⟩ = false := Lib.frozen_of_heap hb2 1; have HB2 := Lib.hid hb2; clear hown2 hgrow hat hlt2 hb2)
  go_wp2
  go_ret
  refine ⟨rfl, .inr ?_, ?_⟩
  · exact Lib.BuilderAt.put (T := 76) (e := 5) hB HB2.out (bs' := bs ++ [.int .u8 c]) (by simpa using HAP.out.1) (by decide)
  · exact ((HB1.out.alloc (by omega) _).grown HAP.out.2.1 (by simp <;> omega) (fun k hk => (HOWN.out.lt k hk).1)).setCell (p := ⟨b, 1, none⟩) hB _

theorem isB_kept {B b : Nat} {bs : List Value} {w w' : World} (h : Lib.IsBuilder 76 5 B b bs w) (hb : Below w.heap.size w w') : Lib.IsBuilder 76 5 B b bs w' := by
  have key : ∀ p, Lib.BuilderAt 76 5 B b p bs w → Lib.BuilderAt 76 5 B b p bs w' := by
    rintro p ⟨h1, v, h2, h3, h4⟩
    have hlt : b < w.heap.size := by
      rcases Nat.lt_or_ge b w.heap.size with h' | h'
      · exact h'
      · simp [Array.getElem?_eq_none h'] at h2
    refine ⟨h1, v, (hb.block b hlt).trans h2, ⟨h3.1, ?_⟩, h4⟩
    rcases h3.2 with hn | ⟨g, cap, cur, rfl, k1, k2, k3⟩
    · exact .inl hn
    · exact .inr ⟨g, cap, cur, rfl, k1, (hb.block g (Array.getElem?_eq_some_iff.1 k2).1).trans k2, k3⟩
  exact h.imp (key _) (key _)

set_option maxHeartbeats 1000000 in
theorem leafText_any (t : Tm) (aa : Option Addr) (ca : Nat) (w : World) (ht : Tab w) (hG : Good t) (hk4 : ¬ t.kind = 4) :
    Calls Tryd.prog 60 #[.agg #[.int .i64 t.kind, .int .i64 t.num, .string t.name, .slice aa t.args.length ca]] w fun e w' => e = .returned (.string (leafT t)) ∧ Below w.heap.size w w' := by
  have HX := Lib.hid (at_box w #[.int .i64 t.kind, .int .i64 t.num, .string t.name, .slice aa t.args.length ca] 43)
  have HW : Hid (Below w.heap.size w (w.alloc (.cells #[.int .i64 t.kind, .int .i64 t.num, .string t.name, .slice aa t.args.length ca] 43))) := Lib.hid (belowAlloc (Below.refl _ _) _)
  obtain ⟨hn0, hn1⟩ := good_num hG
  have HF := Lib.hid (implFmt_any t.num _ (ht.kept HW.out) hn0 hn1)
  have hfs := fmt_len t.num hn0 hn1
  have hkk : t.kind = 0 ∨ t.kind = 1 ∨ t.kind = 2 ∨ t.kind = 3 := by have := good_kinds hG; omega
  clear ht hG hk4 hn0 hn1
  go_enter Tryd.func60, Tryd.ntmps60
  go_upto_region 1 with (fail)
  generalize hw0 : w.alloc (.cells #[.int .i64 t.kind, .int .i64 t.num, .string t.name, .slice aa t.args.length ca] 43) = w0 at HX HW HF ⊢
  clear hw0
  obtain ⟨c0a, c0b, c0c, c0d⟩ := HX.out.cells
  have z0 := HX.out.le
  rcases hkk with hk | hk | hk | hk
  · have HL := Lib.hid (leafT0 hk)
    have d1 : (t.kind == 1) = false := by rw [hk]; rfl
    have d2 : (t.kind == 2) = false := by rw [hk]; rfl
    have d3 : (t.kind == 3) = false := by rw [hk]; rfl
    clear hk HF
    go_wp2
    go_ret
    exact ⟨by rw [HL.out]; rfl, HW.out⟩
  · have HL := Lib.hid (leafT1 hk)
    have d1 : (t.kind == 1) = true := by rw [hk]; rfl
    clear hk
    generalize fmt t.num = f at HF HL hfs
    go_wp2_with fail
    refine HF.out.mono ?_
    rintro e w1 ⟨rfl, hb⟩
    have HB := Lib.hid (belowOn HW.out (Nat.le_refl _) hb)
    clear hb
    go_wp2
    go_ret
    exact ⟨by rw [HL.out]; rfl, HB.out⟩
  · have HL := Lib.hid (leafT2 hk)
    have d1 : (t.kind == 1) = false := by rw [hk]; rfl
    have d2 : (t.kind == 2) = true := by rw [hk]; rfl
    clear hk HF
    go_wp2
    go_ret
    exact ⟨by rw [HL.out]; rfl, HW.out⟩
  · have HL := Lib.hid (leafT3 hk)
    have d1 : (t.kind == 1) = false := by rw [hk]; rfl
    have d2 : (t.kind == 2) = false := by rw [hk]; rfl
    have d3 : (t.kind == 3) = true := by rw [hk]; rfl
    clear hk
    generalize fmt t.num = f at HF HL hfs
    go_wp2_with fail
    refine HF.out.mono ?_
    rintro e w1 ⟨rfl, hb⟩
    have HB := Lib.hid (belowOn HW.out (Nat.le_refl _) hb)
    clear hb
    go_wp2
    go_ret
    exact ⟨by rw [HL.out]; rfl, HB.out⟩
end Go.Proofs.YtjmmeccfjanpcaaDoor

