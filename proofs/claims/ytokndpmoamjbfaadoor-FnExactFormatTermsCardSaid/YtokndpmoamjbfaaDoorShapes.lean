/-
  The contracts of the model's test of a term, over all terms: l02Shape, TermOk, TermSize; and of the program's: TermSize, TermOk.
-/
import Derived.Test.YtokndpmoamjbfaaDoorShape
import Derived.Test.YtokndpmoamjbfaaDoorSize
namespace Go.Proofs.YtokndpmoamjbfaaDoor
open Go.RowKit

theorem two_of {l : List Tm} (h : l.length = 2) : ∃ a b, l = [a, b] := by
  match l, h with
  | [a, b], _ => exact ⟨a, b, rfl⟩

set_option maxHeartbeats 1600000 in
theorem shape_any (N : Nat) : ∀ (t : Tm) (V : Value) (w : World), t.nodes < N → ArgsAt w V t.args → t.sz ≤ 1048576 →
    Calls Tryd.prog 62 #[.agg #[.int .i64 t.kind, .int .i64 t.num, .string t.name, V]] w (ShapeP t w) := by
  induction N with
  | zero => intro t V w hN; omega
  | succ N ih =>
    intro t V w hN hA hZ
    obtain ⟨a, cap, rfl⟩ := hA.slice
    have HA := Lib.hid hA
    have HI := Lib.hid ih
    have HSE := Lib.hid (sz_eq t)
    have hL : t.args.length ≤ 1048576 := by have := length_szL t.args; have := HSE.out; omega
    have hsn : t.name.size ≤ maxLen := by unfold maxLen; have := HSE.out; omega
    have HNE := Lib.hid (nodes_eq t)
    clear hA ih
    have h := shape_of t.kind t.num t.name a cap t.args w hsn hL ?_
    · rw [t.eta] at h; exact h
    refine Lib.hid fun h1 h2 h3 h4 => ?_
    rw [t.eta]
    have hF : Fit t := .inr (.inr (.inr (.inr ⟨h1, h2, h3, h4⟩)))
    obtain ⟨xa, xb, hab⟩ := two_of h4
    have HTW := Lib.hid (good_two hF hab)
    obtain ⟨g, off, cap1, V, hv, hg, hc, hch⟩ := HA.out.parts (by rw [hab]; simp)
    simp only [Value.slice.injEq, true_and] at hv
    obtain ⟨rfl, rfl⟩ := hv
    have hx0 : t.args[0]? = some xa := by rw [hab]; rfl
    have hx1 : t.args[1]? = some xb := by rw [hab]; rfl
    obtain ⟨c0, c1, c2, c3⟩ := hc 0 xa hx0
    obtain ⟨e0, e1, e2, e3⟩ := hc 1 xb hx1
    simp only [Nat.zero_mul, Nat.one_mul, Nat.add_zero] at c0 c1 c2 c3 e0 e1 e2 e3
    obtain ⟨u1, u2, hV⟩ := (hch 0 xa hx0).slice
    obtain ⟨u3, u4, hV'⟩ := (hch 1 xb hx1).slice
    have HC0 := Lib.hid (hch 0 xa hx0)
    have HC1 := Lib.hid (hch 1 xb hx1)
    rw [hV] at c3 HC0
    rw [hV'] at e3 HC1
    have hNa : xa.nodes < N := by have := nodes_at hx0; have := HNE.out; omega
    have hNb : xb.nodes < N := by have := nodes_at hx1; have := HNE.out; omega
    have hZa : xa.sz ≤ 1048576 := by have h1 := sz_at hx0; have := HSE.out; omega
    have hZb : xb.sz ≤ 1048576 := by have h1 := sz_at hx1; have := HSE.out; omega
    rw [h1, h2, h3, h4]
    clear hc hch hV hV' hx0 hx1 hab hF h1 h2 h3 h4 hL hsn
    have B0 := Lib.hid ((Below.refl w.heap.size w).alloc (Nat.le_refl _) (.cells #[.int .i64 4, .int .i64 0, .string ⟨#[]⟩, .slice (some ⟨g, off, none⟩) 2 cap] 26))
    have HK : Hid (∀ W, Below (w.heap.size + 1) (w.alloc (.cells #[.int .i64 4, .int .i64 0, .string ⟨#[]⟩, .slice (some ⟨g, off, none⟩) 2 cap] 26)) W → Below w.heap.size w W ∧ W.heap[w.heap.size]? = some (.cells #[.int .i64 4, .int .i64 0, .string ⟨#[]⟩, .slice (some ⟨g, off, none⟩) 2 cap] 26) ∧
        (W.cell? ⟨g, off + 4, none⟩ = some (.int .i64 xb.kind) ∧ W.cell? ⟨g, off + 4 + 1, none⟩ = some (.int .i64 xb.num) ∧ W.cell? ⟨g, off + 4 + 2, none⟩ = some (.string xb.name) ∧ W.cell? ⟨g, off + 4 + 3, none⟩ = some (.slice u3 xb.args.length u4))) := Lib.hid fun W bW => by
      have hb := B0.out.trans (bW.mono (by omega))
      exact ⟨hb, (bW.block w.heap.size (by omega)).trans (heap_new w _), (hb.cell (p := ⟨g, off + 4, none⟩) hg).trans e0, (hb.cell (p := ⟨g, off + 4 + 1, none⟩) hg).trans e1, (hb.cell (p := ⟨g, off + 4 + 2, none⟩) hg).trans e2, (hb.cell (p := ⟨g, off + 4 + 3, none⟩) hg).trans e3⟩
    have HCALL0 := Lib.hid (HI.out xa _ (w.alloc (.cells #[.int .i64 4, .int .i64 0, .string ⟨#[]⟩, .slice (some ⟨g, off, none⟩) 2 cap] 26)) hNa (HC0.out.kept B0.out) hZa)
    clear e0 e1 e2 e3
    go_enter Tryd.func62, Tryd.ntmps62
    go_wp2_with fail
    refine HCALL0.out.mono ?_
    rintro e w1 ⟨b, rfl, hbv, hb⟩
    obtain ⟨hb1, hbox, e0, e1, e2, e3⟩ := HK.out w1 (by simpa using hb)
    obtain ⟨x0, x1, x2, x3, _⟩ := box_cells hbox
    have HB1 := Lib.hid hb1
    have HBV := Lib.hid hbv
    clear hb hbv hbox HCALL0
    cases b with
    | false =>
      clear hb1
      go_wp2
      go_ret
      exact ⟨false, rfl, by rw [HTW.out]; simp; intro h; exact absurd (HBV.out.2 h) (by simp), HB1.out⟩
    | true =>
      have HGA := Lib.hid (HBV.out.1 rfl)
      have HCALL1 := Lib.hid (HI.out xb _ w1 hNb (HC1.out.kept hb1) hZb)
      clear hb1
      go_wp2_with fail
      refine HCALL1.out.mono ?_
      rintro e w2 ⟨b2, rfl, hbv2, hb2⟩
      have HB2 := Lib.hid (HB1.out.trans (hb2.mono HB1.out.size))
      have HBV2 := Lib.hid hbv2
      clear hb2 hbv2
      go_wp2
      go_ret
      exact ⟨b2, rfl, by rw [HTW.out, HBV2.out]; simp [HGA.out], HB2.out⟩

/-- The size of a term in the answers: its nodes if it is valid, else -1. -/
theorem size_ok {t : Tm} (h : Ok t) : sizeOf' t = t.nodes := by rw [sizeOf', if_pos h]
theorem size_not {t : Tm} (h : ¬ Ok t) : sizeOf' t = -1 := by rw [sizeOf', if_neg h]

set_option maxHeartbeats 400000 in
theorem specTermOk_any (t : Tm) (V : Value) (w : World) (hA : ArgsAt w V t.args) (hZ : t.sz ≤ 1048576) :
    Calls Tryd.prog 38 #[.agg #[.int .i64 t.kind, .int .i64 t.num, .string t.name, V]] w fun e w' => e = .returned (.bool (okB t)) ∧ Below w.heap.size w w' := by
  obtain ⟨a, cap, rfl⟩ := hA.slice
  have B0 := Lib.hid ((Below.refl w.heap.size w).alloc (Nat.le_refl _) (.cells #[.int .i64 t.kind, .int .i64 t.num, .string t.name, .slice a t.args.length cap] 26))
  have HC := Lib.hid (count_any (t.nodes + 1) t _ 5000 (w.alloc (.cells #[.int .i64 t.kind, .int .i64 t.num, .string t.name, .slice a t.args.length cap] 26)) (by omega) (hA.kept B0.out) (by omega) (by omega) (by omega))
  have HA := Lib.hid hA
  have hnz : t.nodes ≤ 1048577 := by have := nodes_sz t; omega
  clear hA
  go_enter Tryd.func38, Tryd.ntmps38
  go_wp2_with fail
  refine HC.out.mono ?_
  rintro e w1 ⟨c, rfl, hc1, hc2, hc3, hc4, hb⟩
  have hbox := (hb.block w.heap.size (by simp)).trans (heap_new w _)
  obtain ⟨x0, x1, x2, x3, _⟩ := box_cells hbox
  have HB := Lib.hid (B0.out.trans (hb.mono (by simp)))
  have H3 := Lib.hid hc3
  have H4 := Lib.hid hc4
  clear hb hbox hc3 hc4 HC
  by_cases hle : (c : Int) ≤ 5000
  · have HS := Lib.hid (shape_any (t.nodes + 1) t _ w1 (by omega) (HA.out.kept HB.out) hZ)
    go_wp2_with fail
    refine HS.out.mono ?_
    rintro e w2 ⟨b, rfl, hbv, hb2⟩
    have HB2 := Lib.hid (HB.out.trans (hb2.mono HB.out.size))
    have HBV := Lib.hid hbv
    clear hb2 hbv HS
    go_wp2
    go_ret
    refine ⟨?_, HB2.out⟩
    have h4 := H4.out
    have : b = okB t := by
      rw [Bool.eq_iff_iff, HBV.out, okB_true]
      exact ⟨fun h => ⟨by omega, h⟩, fun h => h.2⟩
    rw [this]
    rfl
  · go_wp2
    go_ret
    refine ⟨?_, HB.out⟩
    have h3 := H3.out
    have : okB t = false := by
      rw [okB_false]
      intro h
      have := h.1
      omega
    rw [this]
    rfl

set_option maxHeartbeats 400000 in
theorem implTermSize_any (t : Tm) (V : Value) (w : World) (hA : ArgsAt w V t.args) (hZ : t.sz ≤ 1048576) :
    Calls Tryd.prog 51 #[.agg #[.int .i64 t.kind, .int .i64 t.num, .string t.name, V]] w fun e w' => e = .returned (.int .i64 (sizeOf' t)) ∧ Below w.heap.size w w' := by
  obtain ⟨a, cap, rfl⟩ := hA.slice
  have B0 := Lib.hid ((Below.refl w.heap.size w).alloc (Nat.le_refl _) (.cells #[.int .i64 t.kind, .int .i64 t.num, .string t.name, .slice a t.args.length cap] 26))
  have HS := Lib.hid (sizeWithin_any (t.nodes + 1) t _ 5000 (w.alloc (.cells #[.int .i64 t.kind, .int .i64 t.num, .string t.name, .slice a t.args.length cap] 26)) (by omega) (hA.kept B0.out) (by omega) (by omega) (by omega))
  clear hA
  go_enter Tryd.func51, Tryd.ntmps51
  go_wp2_with fail
  refine HS.out.mono ?_
  rintro e w1 hP
  rcases hP.cases with ⟨rfl, hg, hn, hb⟩ | ⟨rfl, hg, hb⟩
  · have HB := Lib.hid (B0.out.trans (hb.mono (by simp)))
    have HG := Lib.hid hg
    clear hb hP hg HS
    go_wp2
    go_ret
    exact ⟨by rw [size_ok ⟨by omega, HG.out⟩]; rfl, HB.out⟩
  · have HB := Lib.hid (B0.out.trans (hb.mono (by simp)))
    have HG := Lib.hid hg
    clear hb hP hg HS
    go_wp2
    go_ret
    exact ⟨by rw [size_not (fun h => HG.out ⟨h.2, by have := h.1; omega⟩)]; rfl, HB.out⟩

set_option maxHeartbeats 400000 in
theorem implTermOk_any (t : Tm) (V : Value) (w : World) (hA : ArgsAt w V t.args) (hZ : t.sz ≤ 1048576) :
    Calls Tryd.prog 31 #[.agg #[.int .i64 t.kind, .int .i64 t.num, .string t.name, V]] w fun e w' => e = .returned (.bool (okB t)) ∧ Below w.heap.size w w' := by
  obtain ⟨a, cap, rfl⟩ := hA.slice
  have B0 := Lib.hid ((Below.refl w.heap.size w).alloc (Nat.le_refl _) (.cells #[.int .i64 t.kind, .int .i64 t.num, .string t.name, .slice a t.args.length cap] 26))
  have HS := Lib.hid (implTermSize_any t _ (w.alloc (.cells #[.int .i64 t.kind, .int .i64 t.num, .string t.name, .slice a t.args.length cap] 26)) (hA.kept B0.out) hZ)
  clear hA
  have hnp := nodes_pos t
  go_enter Tryd.func31, Tryd.ntmps31
  go_wp2_with fail
  refine HS.out.mono ?_
  rintro e w1 ⟨rfl, hb⟩
  have HB := Lib.hid (B0.out.trans (hb.mono (by simp)))
  clear hb HS
  cases hok : okB t with
  | false =>
    rw [size_not (okB_false.1 hok)]
    have HOK := Lib.hid hok
    clear hok
    go_wp2
    go_ret
    exact ⟨by rw [HOK.out]; rfl, HB.out⟩
  | true =>
    rw [size_ok (okB_true.1 hok)]
    have hn5 := (okB_true.1 hok).1
    have HOK := Lib.hid hok
    have he : decide (0 < t.nodes) = true := by simp; omega
    have HE := Lib.hid he
    clear hok he
    go_wp2
    go_ret
    exact ⟨by rw [HOK.out, HE.out]; rfl, HB.out⟩
end Go.Proofs.YtokndpmoamjbfaaDoor

