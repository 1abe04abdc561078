/-
  The law of terms' texts (FnTermText), walked.
-/
import Derived.Test.YtokndpmoamjbfaaDoorDrawMake
import Derived.Test.YtokndpmoamjbfaaDoorLists
import Derived.Test.YtokndpmoamjbfaaDoorTextRead
import Derived.Test.YtokndpmoamjbfaaDoorFormatTerms
import Derived.Test.YtokndpmoamjbfaaDoorParseTerm
import Derived.Test.YtokndpmoamjbfaaDoorLaws
import Derived.Deep.RegionHeld3
import Derived.Deep.Cut
namespace Go.Proofs.YtokndpmoamjbfaaDoor
open Go.RowKit
set_option linter.unusedVariables false
set_option linter.unusedSimpArgs false

theorem four_of {l : List Tm} (h : l.length = 4) : ∃ x y z u, l = [x, y, z, u] := by
  match l, h with
  | [x, y, z, u], _ => exact ⟨x, y, z, u, rfl⟩
theorem ArgsAt.four {w : World} {a : Option Addr} {n cap : Nat} {x y z u : Tm} (h : ArgsAt w (.slice a n cap) [x, y, z, u]) :
    ∃ g off u1 u2 v1 v2 s1 s2, a = some ⟨g, off, none⟩ ∧
      (∀ W, Below w.heap.size w W → (W.cell? ⟨g, off, none⟩ = some (.int .i64 x.kind) ∧ W.cell? ⟨g, off + 1, none⟩ = some (.int .i64 x.num) ∧ W.cell? ⟨g, off + 2, none⟩ = some (.string x.name) ∧ W.cell? ⟨g, off + 3, none⟩ = some (.slice u1 x.args.length u2)) ∧
        (W.cell? ⟨g, off + 4, none⟩ = some (.int .i64 y.kind) ∧ W.cell? ⟨g, off + 4 + 1, none⟩ = some (.int .i64 y.num) ∧ W.cell? ⟨g, off + 4 + 2, none⟩ = some (.string y.name) ∧ W.cell? ⟨g, off + 4 + 3, none⟩ = some (.slice v1 y.args.length v2)) ∧
        (W.cell? ⟨g, off + 8, none⟩ = some (.int .i64 z.kind) ∧ W.cell? ⟨g, off + 8 + 1, none⟩ = some (.int .i64 z.num) ∧ W.cell? ⟨g, off + 8 + 2, none⟩ = some (.string z.name) ∧ W.cell? ⟨g, off + 8 + 3, none⟩ = some (.slice s1 z.args.length s2))) ∧
      ArgsAt w (.slice u1 x.args.length u2) x.args ∧ ArgsAt w (.slice v1 y.args.length v2) y.args ∧ ArgsAt w (.slice s1 z.args.length s2) z.args ∧ g < w.heap.size := by
  obtain ⟨g, off, u1, u2, rfl, hg, hn, hc, hx⟩ := h.elem (k := 0) (x := x) rfl
  obtain ⟨g', off', v1, v2, he, hg', hn', hc', hy⟩ := h.elem (k := 1) (x := y) rfl
  obtain ⟨g2, off2, s1, s2, he2, hg2, hn2, hc2, hz⟩ := h.elem (k := 2) (x := z) rfl
  simp only [Option.some.injEq, Addr.mk.injEq, and_true] at he he2
  obtain ⟨rfl, rfl⟩ := he
  obtain ⟨rfl, rfl⟩ := he2
  refine ⟨g, off, u1, u2, v1, v2, s1, s2, rfl, fun W hW => ⟨?_, ?_, ?_⟩, hx, hy, hz, hg⟩
  · have := hc W hW
    simpa using this
  · have := hc' W hW
    simpa using this
  · have := hc2 W hW
    simpa using this
theorem good_eleven {t : Tm} (h : Good t ∧ (t.nodes : Int) ≤ 11) : t.sz ≤ 1048576 := by
  have h1 := good_sz h.1
  have := h.2
  omega
/-- A region has laid a struct of four cells and filled it: what was there has not changed. -/
theorem below_late {W0 wS : World} (hb : Below W0.heap.size W0 wS) (xs : Array Value) (e : TypeId) : Below W0.heap.size W0 (wS.alloc (.cells xs e)) := belowAlloc hb _
theorem below_early {W0 wS : World} {B : Nat} {o : Obj} (hx : wS.heap[B]? = some o ∧ W0.heap.size ≤ B) (hb : Below W0.heap.size W0 wS) (x0 x1 x2 x3 : Value) :
    Below W0.heap.size W0 ((((wS.setCell ⟨B, 0, none⟩ x0).setCell ⟨B, 1, none⟩ x1).setCell ⟨B, 2, none⟩ x2).setCell ⟨B, 3, none⟩ x3) :=
  (((hb.setCell (p := ⟨B, 0, none⟩) hx.2 x0).setCell (p := ⟨B, 1, none⟩) hx.2 x1).setCell (p := ⟨B, 2, none⟩) hx.2 x2).setCell (p := ⟨B, 3, none⟩) hx.2 x3
/-- What ParseTerm says of a text that is no term. -/
theorem implParseTerm_no {s : ByteArray} {w : World} (hf : TabErrs w) (hs : (p1T s = zeroTm ∧ p1B s = false) ∧ s.size ≤ 1048576) :
    Calls Tryd.prog 9 #[.string s] w fun e w' => ∃ a k, e = .returned (.tuple #[.agg #[.int .i64 0, .int .i64 0, .string ⟨#[]⟩, .slice a 0 k], .bool false]) ∧ Below w.heap.size w w' := by
  have h := implParseTerm_any s w hf hs.2
  rw [hs.1.1, hs.1.2] at h
  refine h.mono ?_
  rintro e w' ⟨u, rfl, hn, hb⟩
  obtain ⟨a, k, rfl⟩ := hn.argsAt.slice
  exact ⟨a, k, rfl, hb⟩

set_option maxHeartbeats 16000000 in
set_option maxRecDepth 100000 in
theorem walkTermText (w : World) (ht : TabErrs w) (a : Option Addr) (len cap : Nat) (zs : List Int) (hrow : ByteRow w a len cap zs) :
    Calls Tryd.prog 3 #[.slice a len cap] w fun e w' => e = .returned (.bool true) ∧ Below w.heap.size w w' := by
  obtain ⟨hby, hmx⟩ := hrow.bytes
  clear hrow
  unfold maxLen at hmx
  have HT := Lib.hid ht
  have HY := Lib.hid hby
  clear hby ht
  by_cases h : 1048576 < (len : Int)
  · go_enter Tryd.func3, Tryd.ntmps3
    go_wp2
    go_ret
    exact ⟨rfl, Below.refl _ _⟩
  have hl : len ≤ 1048576 := by omega
  clear h hmx
  go_enter Tryd.func3, Tryd.ntmps3
  go_wp2_with fail
  refine (makeTerms_any a len cap 0 4 3 _ HY.out hl (by decide) (by decide) (by decide) (by decide)).mono ?_
  rintro e w1 ⟨xs, xa, xc, rfl, hxl, hgx, hA, hb⟩
  rw [hxl] at hA ⊢
  obtain ⟨x, y, z, u, rfl⟩ := four_of hxl
  clear hxl HY
  have HW := Lib.hid hb
  have gx := hgx x (by simp)
  have gy := hgx y (by simp)
  have gz := hgx z (by simp)
  have zx := good_eleven gx
  have zy := good_eleven gy
  have zz := good_eleven gz
  have HLST := Lib.hid (text_list (l := [x, y, z, u]) rfl hgx)
  have HONE := Lib.hid (text_one gx.1 gx.2)
  have HTWO := Lib.hid (text_two gy.1 gz.1 gy.2 gz.2)
  have hzx : (txt x).size ≤ 430 := by rw [(txt_small gx.1 gx.2).1]; exact (txt_small gx.1 gx.2).2
  have hzy : (txt y).size ≤ 430 := by rw [(txt_small gy.1 gy.2).1]; exact (txt_small gy.1 gy.2).2
  have hzz : (txt z).size ≤ 430 := by rw [(txt_small gz.1 gz.2).1]; exact (txt_small gz.1 gz.2).2
  have HLZ : Hid (szL [x, y, z, u] ≤ 1048576) := Lib.hid (by
    have h0 := good_sz gx.1
    have h1 := good_sz gy.1
    have h2 := good_sz gz.1
    have h3 := good_sz (hgx u (by simp)).1
    have k0 := gx.2
    have k1 := gy.2
    have k2 := gz.2
    have k3 := (hgx u (by simp)).2
    simp only [szL]
    omega)
  have HGX := Lib.hid gx
  have HG := Lib.hid (fun (k : Nat) (t : Tm) (h : [x, y, z, u][k]? = some t) => (hgx t (List.mem_of_getElem? h)).1)
  obtain ⟨g, off, u1, u2, v1, v2, s1, s2, rfl, hc, hax, hay, haz, hgl⟩ := hA.four
  have HCE := Lib.hid hc
  have HAL := Lib.hid (at_args hA)
  have HAX := Lib.hid (at_args hax)
  have HAY := Lib.hid (at_args hay)
  have HAZ := Lib.hid (at_args haz)
  have HB1 : Hid (Below w1.heap.size w1 w1) := Lib.hid (Below.refl _ _)
  clear hb hgx hc hA hax hay haz gx gy gz
  -- the first term, behind spaces and before a remark
  obtain ⟨⟨a0, a1, a2, a3⟩, ⟨b0, b1, b2, b3⟩, ⟨c0, c1, c2, c3⟩⟩ := HCE.out w1 (Below.refl _ _)
  go_wp2_with fail
  refine (implFormatTerm_any x _ _ (tabErrs_after HT.out HW.out).1 HAX.out.argsAt zx).mono ?_
  rintro e w2 ⟨rfl, hb⟩
  replace HB1 := Lib.hid (belowOn HB1.out (Nat.le_refl _) hb)
  clear hb a0 a1 a2 a3 b0 b1 b2 b3 c0 c1 c2 c3
  go_wp2_with fail
  generalize hst : (⟨#[32, 32]⟩ ++ txt x) ++ ⟨#[32, 59, 32, 110, 111, 116, 101]⟩ = st
  obtain ⟨⟨e1, e2⟩, hs1⟩ := HONE.out st hst.symm
  have HC := Lib.hid (implParseTerm_any st w2 (tabErrs_after HT.out (HW.out.trans (HB1.out.mono HW.out.size))) hs1)
  rw [e1, e2] at HC
  clear e1 e2 hs1 hst HONE
  refine HC.out.mono ?_
  rintro e w3 ⟨u3, rfl, hn⟩
  have hb := hn.2
  replace HB1 := Lib.hid (belowOn HB1.out (Nat.le_refl _) hb)
  have HU := Lib.hid (at_args hn.1.argsAt)
  obtain ⟨xu, cu, rfl⟩ := hn.1.argsAt.slice
  clear hn hb HC
  go_upto_region 5 with (fail)
  have hal : Below w3.heap.size w3 (w3.alloc (.cells #[.int .i64 x.kind, .int .i64 x.num, .string x.name, .slice xu x.args.length cu] 26)) := belowAlloc (Below.refl _ _) _
  replace HB1 := Lib.hid (belowOn HB1.out (Nat.le_refl _) hal)
  replace HU := Lib.hid (HU.out.read hal)
  have HBT := Lib.hid (at_box w3 #[.int .i64 x.kind, .int .i64 x.num, .string x.name, .slice xu x.args.length cu] 26)
  clear hal
  generalize hwx : w3.alloc (.cells #[.int .i64 x.kind, .int .i64 x.num, .string x.name, .slice xu x.args.length cu] 26) = w4 at HB1 HU HBT ⊢
  clear hwx
  -- all of them
  go_wp2_with fail
  refine (implFormatTerms_any [x, y, z, u] _ w4 (tabErrs_after HT.out (HW.out.trans (HB1.out.mono HW.out.size))).1 (HAL.out.read HB1.out).argsAt HLZ.out).mono ?_
  rintro e w5 ⟨rfl, hb⟩
  replace HB1 := Lib.hid (belowOn HB1.out (Nat.le_refl _) hb)
  replace HU := Lib.hid (HU.out.read hb)
  replace HBT := Lib.hid (HBT.out.read hb)
  clear hb
  obtain ⟨⟨e1, e2⟩, hs1⟩ := HLST.out
  have HC := Lib.hid (implParseTerms_any (txts [x, y, z, u]) w5 (tabErrs_after HT.out (HW.out.trans (HB1.out.mono HW.out.size))) hs1)
  rw [e1, e2] at HC
  clear e1 e2 hs1 HLST
  generalize txts [x, y, z, u] = st at HC ⊢
  go_wp2_with fail
  refine HC.out.mono ?_
  rintro e w6 ⟨vm, rfl, hown, hb⟩
  replace HB1 := Lib.hid (belowOn HB1.out (Nat.le_refl _) hb)
  replace HU := Lib.hid (HU.out.read hb)
  replace HBT := Lib.hid (HBT.out.read hb)
  have HM := Lib.hid (at_args hown.argsAt)
  clear hb hown HC
  go_upto_region 6 with (fail)
  go_cut [8, 9] from 31 (fun p b wx => b = .bool false ∧ Below w6.heap.size w6 wx)
  case first =>
    have hself : Below w6.heap.size w6 w6 := Below.refl _ _
    have hdrew : Below w6.heap.size w6 w6.drew := hself.drew
    have hg6 : g < w6.heap.size := by have := HB1.out.size; omega
    have HCY : Hid (∀ W, Below w6.heap.size w6 W → W.cell? ⟨g, off + 4, none⟩ = some (.int .i64 y.kind) ∧ W.cell? ⟨g, off + 4 + 1, none⟩ = some (.int .i64 y.num) ∧ W.cell? ⟨g, off + 4 + 2, none⟩ = some (.string y.name) ∧ W.cell? ⟨g, off + 4 + 3, none⟩ = some (.slice v1 y.args.length v2) ∧
        W.cell? ⟨g, off + 8, none⟩ = some (.int .i64 z.kind) ∧ W.cell? ⟨g, off + 8 + 1, none⟩ = some (.int .i64 z.num) ∧ W.cell? ⟨g, off + 8 + 2, none⟩ = some (.string z.name) ∧ W.cell? ⟨g, off + 8 + 3, none⟩ = some (.slice s1 z.args.length s2)) := Lib.hid fun W hW => by
      obtain ⟨_, ⟨b0, b1, b2, b3⟩, ⟨c0, c1, c2, c3⟩⟩ := HCE.out W (belowOn HB1.out (Nat.le_refl _) hW)
      exact ⟨b0, b1, b2, b3, c0, c1, c2, c3⟩
    have HTR : Hid (∀ a b, Below w6.heap.size w6 a → Below a.heap.size a b → Below w6.heap.size w6 b) := Lib.hid fun a b h1 h2 => belowOn h1 (Nat.le_refl _) h2
    have HTW : Hid (∀ W, Below w6.heap.size w6 W → TabErrs W) := Lib.hid fun W hW => tabErrs_after HT.out (HW.out.trans ((belowOn HB1.out (Nat.le_refl _) hW).mono HW.out.size))
    have HF1 : Hid (∀ W, Below w6.heap.size w6 W → Calls Tryd.prog 10 #[.agg #[.int .i64 y.kind, .int .i64 y.num, .string y.name, .slice v1 y.args.length v2]] W fun e w' => e = .returned (.string (txt y)) ∧ Below W.heap.size W w') := Lib.hid fun W hW =>
      implFormatTerm_any y _ W (HTW.out W hW).1 (HAY.out.read (belowOn HB1.out (Nat.le_refl _) hW)).argsAt zy
    have HF2 : Hid (∀ W, Below w6.heap.size w6 W → Calls Tryd.prog 10 #[.agg #[.int .i64 z.kind, .int .i64 z.num, .string z.name, .slice s1 z.args.length s2]] W fun e w' => e = .returned (.string (txt z)) ∧ Below W.heap.size W w') := Lib.hid fun W hW =>
      implFormatTerm_any z _ W (HTW.out W hW).1 (HAZ.out.read (belowOn HB1.out (Nat.le_refl _) hW)).argsAt zz
    have HP : Hid (∀ W, Below w6.heap.size w6 W → Calls Tryd.prog 9 #[.string ((txt y ++ ⟨#[32]⟩) ++ txt z)] W fun e w' => ∃ a k, e = .returned (.tuple #[.agg #[.int .i64 0, .int .i64 0, .string ⟨#[]⟩, .slice a 0 k], .bool false]) ∧ Below W.heap.size W w') := Lib.hid fun W hW =>
      implParseTerm_no (HTW.out W hW) (HTWO.out _ rfl)
    obtain ⟨k0, k1, k2, k3, k4, k5, k6, k7⟩ := HCY.out _ hself
    have n0 : ¬ g = w6.heap.size := by omega
    have n1 : ¬ w6.heap.size = g := by omega
    clear HW HAL HAX HAY HAZ HU HBT HM HTWO HT HB1 HCE HG HGX HLZ HTW
    generalize txt y = ty at HF1 HP hzy ⊢
    generalize txt z = tz at HF2 HP hzz ⊢
    have m1 : ¬ 9223372036854775807 < ty.size + 1 := by omega
    have m2 : ¬ 9223372036854775806 < ty.size := by omega
    have m3 : ¬ 9223372036854775807 < ty.size + 1 + tz.size := by omega
    go_region_held3 (fun w' => w'.cell? ⟨g, off + 4, none⟩ = some (.int .i64 y.kind) ∧ w'.cell? ⟨g, off + 4 + 1, none⟩ = some (.int .i64 y.num) ∧ w'.cell? ⟨g, off + 4 + 2, none⟩ = some (.string y.name) ∧ w'.cell? ⟨g, off + 4 + 3, none⟩ = some (.slice v1 y.args.length v2) ∧ w'.cell? ⟨g, off + 8, none⟩ = some (.int .i64 z.kind) ∧ w'.cell? ⟨g, off + 8 + 1, none⟩ = some (.int .i64 z.num) ∧ w'.cell? ⟨g, off + 8 + 2, none⟩ = some (.string z.name) ∧ w'.cell? ⟨g, off + 8 + 3, none⟩ = some (.slice s1 z.args.length s2)) (go_keep)
      (first
        | (go_at_call 10; (with_reducible refine Calls.mono (HF1.out _ ?_) ?_); (first | assumption | exact belowAlloc (by assumption) _ | exact (belowAlloc (by assumption) _).drew); rintro e wA0 ⟨rfl, hb0⟩; (first | (with_reducible have HBX := Lib.hid (box_after (W0 := w6) (by assumption) hb0)) | (with_reducible have HBX := Lib.hid (box_after_drew (W0 := w6) (by assumption) hb0)) | (replace HBX := Lib.hid (box_keep HBX.out hb0)) | skip); have hB0 := HTR.out _ _ (by first | assumption | exact belowAlloc (by assumption) _ | exact (belowAlloc (by assumption) _).drew) hb0; have nA0 : ¬ g = wA0.heap.size := (by have := hB0.size; omega); have nA1 : ¬ wA0.heap.size = g := (by have := hB0.size; omega); obtain ⟨k0, k1, k2, k3, k4, k5, k6, k7⟩ := HCY.out _ hB0)
        | (go_at_call 10; (with_reducible refine Calls.mono (HF2.out _ ?_) ?_); (first | assumption | exact belowAlloc (by assumption) _ | exact (belowAlloc (by assumption) _).drew); rintro e wA1 ⟨rfl, hb1⟩; (first | (with_reducible have HBX := Lib.hid (box_after (W0 := w6) (by assumption) hb1)) | (with_reducible have HBX := Lib.hid (box_after_drew (W0 := w6) (by assumption) hb1)) | (replace HBX := Lib.hid (box_keep HBX.out hb1)) | skip); have hB1 := HTR.out _ _ (by first | assumption | exact belowAlloc (by assumption) _ | exact (belowAlloc (by assumption) _).drew) hb1; have nB0 : ¬ g = wA1.heap.size := (by have := hB1.size; omega); have nB1 : ¬ wA1.heap.size = g := (by have := hB1.size; omega); obtain ⟨k0, k1, k2, k3, k4, k5, k6, k7⟩ := HCY.out _ hB1)
        | (go_at_call 9; (with_reducible refine Calls.mono (HP.out _ ?_) ?_); (first | assumption | exact belowAlloc (by assumption) _ | exact (belowAlloc (by assumption) _).drew); rintro e wS ⟨aS, kS, rfl, hbS⟩; (first | (with_reducible have HBX := Lib.hid (box_after (W0 := w6) (by assumption) hbS)) | (with_reducible have HBX := Lib.hid (box_after_drew (W0 := w6) (by assumption) hbS)) | (replace HBX := Lib.hid (box_keep HBX.out hbS)) | skip); have hS := HTR.out _ _ (by first | assumption | exact belowAlloc (by assumption) _ | exact (belowAlloc (by assumption) _).drew) hbS; have nS0 : ¬ g = wS.heap.size := (by have := hS.size; omega); have nS1 : ¬ wS.heap.size = g := (by have := hS.size; omega); obtain ⟨k0, k1, k2, k3, k4, k5, k6, k7⟩ := HCY.out _ hS; (first | (have hq9 := box_cells (HBX.out).1; obtain ⟨q0, q1, q2, q3, qf⟩ := hq9) | skip)))
    all_goals (go_wp2_with fail; go_meet; first | (with_reducible exact ⟨rfl, below_late hS _ _⟩) | (with_reducible exact ⟨rfl, below_early HBX.out hS _ _ _ _⟩) | exact ⟨rfl, below_late hS _ _⟩ | exact ⟨rfl, below_early HBX.out hS _ _ _ _⟩)
  case rest =>
    obtain ⟨rfl, hb⟩ := hcut
    obtain ⟨w7, rfl⟩ : ∃ x : World, x = wc := ⟨_, rfl⟩
    replace HB1 := Lib.hid (belowOn HB1.out (Nat.le_refl _) hb)
    replace HU := Lib.hid (HU.out.read hb)
    replace HBT := Lib.hid (HBT.out.read hb)
    replace HM := Lib.hid (HM.out.read hb)
    clear hb
    obtain ⟨xm, cm, rfl⟩ := HM.out.argsAt.slice
    have hself : Below w7.heap.size w7 w7 := Below.refl _ _
    have hdrew : Below w7.heap.size w7 w7.drew := hself.drew
    have HCY : Hid (∀ W, Below w7.heap.size w7 W → W.cell? ⟨g, off, none⟩ = some (.int .i64 x.kind) ∧ W.cell? ⟨g, off + 1, none⟩ = some (.int .i64 x.num) ∧ W.cell? ⟨g, off + 2, none⟩ = some (.string x.name) ∧ W.cell? ⟨g, off + 3, none⟩ = some (.slice u1 x.args.length u2) ∧
        W.cell? ⟨w3.heap.size, 0, none⟩ = some (.int .i64 x.kind) ∧ W.cell? ⟨w3.heap.size, 1, none⟩ = some (.int .i64 x.num) ∧ W.cell? ⟨w3.heap.size, 2, none⟩ = some (.string x.name) ∧ W.cell? ⟨w3.heap.size, 3, none⟩ = some (.slice xu x.args.length cu)) := Lib.hid fun W hW => by
      obtain ⟨⟨a0, a1, a2, a3⟩, _, _⟩ := HCE.out W (belowOn HB1.out (Nat.le_refl _) hW)
      obtain ⟨b0, b1, b2, b3⟩ := (HBT.out.read hW).cells
      exact ⟨a0, a1, a2, a3, b0, b1, b2, b3⟩
    have HTR : Hid (∀ a b, Below w7.heap.size w7 a → Below a.heap.size a b → Below w7.heap.size w7 b) := Lib.hid fun a b h1 h2 => belowOn h1 (Nat.le_refl _) h2
    have HS : Hid (∀ W, Below w7.heap.size w7 W → Calls Tryd.prog 13 #[.agg #[.int .i64 x.kind, .int .i64 x.num, .string x.name, .slice xu x.args.length cu], .agg #[.int .i64 x.kind, .int .i64 x.num, .string x.name, .slice u1 x.args.length u2]] W fun e w' => e = .returned (.bool true) ∧ Below W.heap.size W w') := Lib.hid fun W hW => by
      have hc := same_any (x.nodes + 1) x x (.slice xu x.args.length cu) (.slice u1 x.args.length u2) W (Nat.lt_succ_self _) (HU.out.read hW).argsAt (HAX.out.read (belowOn HB1.out (Nat.le_refl _) hW)).argsAt zx zx HGX.out.1 HGX.out.1
      rw [show (x.cmp x == 0) = true from by rw [cmp_self]; rfl] at hc
      exact hc
    have HL : Hid (∀ W, Below w7.heap.size w7 W → Calls Tryd.prog 14 #[.slice xm 4 cm, .slice (some ⟨g, off, none⟩) 4 xc] W fun e w' => e = .returned (.bool true) ∧ Below W.heap.size W w') := Lib.hid fun W hW =>
      list_any [x, y, z, u] _ _ W (HM.out.read hW).argsAt (HAL.out.read (belowOn HB1.out (Nat.le_refl _) hW)).argsAt HG.out HLZ.out
    obtain ⟨k0, k1, k2, k3, k4, k5, k6, k7⟩ := HCY.out _ hself
    have HEND : Hid (∀ W, Below w7.heap.size w7 W → Below w.heap.size w W) := Lib.hid fun W hW => HW.out.trans ((belowOn HB1.out (Nat.le_refl _) hW).mono HW.out.size)
    clear HW HAL HAX HAY HAZ HU HBT HM HTWO HT HB1 HCE HG HGX HLZ zx zy zz hzx hzy hzz
    go_upto_region 7 with (fail)
    go_region_held3 (fun w' => Below w7.heap.size w7 w' ∧ w'.cell? ⟨g, off, none⟩ = some (.int .i64 x.kind) ∧ w'.cell? ⟨g, off + 1, none⟩ = some (.int .i64 x.num) ∧ w'.cell? ⟨g, off + 2, none⟩ = some (.string x.name) ∧ w'.cell? ⟨g, off + 3, none⟩ = some (.slice u1 x.args.length u2) ∧ w'.cell? ⟨w3.heap.size, 0, none⟩ = some (.int .i64 x.kind) ∧ w'.cell? ⟨w3.heap.size, 1, none⟩ = some (.int .i64 x.num) ∧ w'.cell? ⟨w3.heap.size, 2, none⟩ = some (.string x.name) ∧ w'.cell? ⟨w3.heap.size, 3, none⟩ = some (.slice xu x.args.length cu)) (go_keep)
      (first
        | (go_at_call 13; (with_reducible refine Calls.mono (HS.out _ ?_) ?_); (assumption); rintro e w' ⟨rfl, hb⟩; have hB' := HTR.out _ _ (by assumption) hb; obtain ⟨k0, k1, k2, k3, k4, k5, k6, k7⟩ := HCY.out _ hB')
        | (go_at_call 14; (with_reducible refine Calls.mono (HL.out _ ?_) ?_); (assumption); rintro e w' ⟨rfl, hb⟩; have hB' := HTR.out _ _ (by assumption) hb; obtain ⟨k0, k1, k2, k3, k4, k5, k6, k7⟩ := HCY.out _ hB'))
    all_goals (go_wp2; go_ret; exact ⟨rfl, HEND.out _ (by assumption)⟩)
end Go.Proofs.YtokndpmoamjbfaaDoor

