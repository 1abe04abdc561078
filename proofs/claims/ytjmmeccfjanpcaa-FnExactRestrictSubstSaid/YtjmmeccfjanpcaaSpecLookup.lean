/-
  The model's Lookup, ApplySubst.
-/
import Derived.Test.YtjmmeccfjanpcaaSpecApply
namespace Go.Proofs.Ytjmmeccfjanpcaa
open Go.RowKit
set_option linter.unusedVariables false
set_option linter.unusedSimpArgs false

theorem ListS.lowB {w : World} {S : Nat → Prop} {V : Value} {s : List Bd} (h : ListS bdE w S V s) : ListS bdE w (fun k => k < w.heap.size) V s := by
  cases h with
  | nil a cap => exact .nil a cap
  | row g off n cap L l' hl hn hS hg hc hr => exact .row g off n cap L _ hl hn hg hg hc fun j p hj => (show ArgsS w S p.2 p.1.t.args from hr j p hj).low.sub fun k hk => hk.2

set_option maxRecDepth 100000 in
set_option maxHeartbeats 2000000 in
theorem specLookup_any (s : List Bd) (V : Value) (v : Int) (w : World) (hA : ListS bdE w Any V s) (hZ : szB s ≤ 1048576) :
    Calls Try.prog 14 #[V, .int .i64 v] w (OldTm2 (luT s v) (luB s v) w) := by
  obtain ⟨a, cap, rfl⟩ := hA.slice
  have hL : s.length ≤ 1048576 := by have := szB_len s; omega
  have hal : Below w.heap.size w (w.alloc (.cells #[.int .i64 0, .int .i64 0, .string ⟨#[]⟩, .slice none 0 0] 31)) := belowAlloc (Below.refl _ _) _
  have HW := Lib.hid hal
  have HR := Lib.hid (at_box_of w #[.int .i64 0, .int .i64 0, .string ⟨#[]⟩, .slice none 0 0] 31 w.heap.size rfl)
  have HA := Lib.hid (fun W (h : Below w.heap.size w W) => hA.kept h)
  have HGZ := Lib.hid (getT_sz v hZ)
  have HYES := Lib.hid (fun h => lu_yes (s := s) (v := v) h)
  have HNO := Lib.hid (fun h => lu_no (s := s) (v := v) h)
  generalize luT s v = rt at HYES HNO ⊢
  generalize luB s v = rb at HYES HNO ⊢
  clear hal hA
  go_enter Try.func14, Try.ntmps14
  go_upto_region 1 with (fail)
  generalize hw0 : w.alloc (.cells #[.int .i64 0, .int .i64 0, .string ⟨#[]⟩, .slice none 0 0] 31) = w0 at HW HR ⊢
  clear hw0
  have HG := Lib.hid (specGet_any s _ v Any w0 (HA.out _ HW.out) hL)
  go_wp2_with fail
  refine HG.out.mono ?_
  rintro e w1 ⟨u, rfl, hu, hb⟩
  obtain ⟨ua, uc, rfl⟩ := hu.at.slice
  have hal : Below w1.heap.size w1 (w1.alloc (.cells #[.int .i64 (getT s v).kind, .int .i64 (getT s v).num, .string (getT s v).name, .slice ua (getT s v).args.length uc] 31)) := belowAlloc (Below.refl _ _) _
  have HU := Lib.hid (at_args (hu.at.kept hal))
  have HBX := Lib.hid (at_box_of w1 #[.int .i64 (getT s v).kind, .int .i64 (getT s v).num, .string (getT s v).name, .slice ua (getT s v).args.length uc] 31 (w1.heap.size) rfl)
  replace HR := Lib.hid ((HR.out.read hb).read hal)
  replace HW := Lib.hid (belowOn HW.out (Nat.le_refl _) (belowOn hb (Nat.le_refl _) hal))
  clear hu hb hal HG
  go_upto_region 2 with (fail)
  generalize hw1 : w1.alloc (.cells #[.int .i64 (getT s v).kind, .int .i64 (getT s v).num, .string (getT s v).name, .slice ua (getT s v).args.length uc] 31) = w2 at HU HBX HR HW ⊢
  clear hw1
  generalize w1.heap.size = nb at HBX ⊢
  have HRE := Lib.hid HR.out.now
  obtain ⟨r0, r1, r2, r3, rf⟩ := box_cells HR.out.now
  cases hg : getB s v with
  | false =>
    obtain ⟨rfl, rfl⟩ := HNO.out fun h => by rw [hg] at h; cases h.1
    clear hg
    go_wp2
    exact oldTm2_end (t := zeroTm) (C := fun _ => False) (p := 4) (q := 5) (b := w.heap.size) rfl rfl rfl rfl rfl rfl rfl Try.underlying31 (by kernel_rfl) HRE.out HW.out (Nat.le_refl _) (fun h => h) (fun k h => h.elim) (.nil _ _)
  | true =>
    have HS := Lib.hid (specSubstOk_any s _ w2 (HA.out _ HW.out) (eachB_of hZ))
    have HGB := Lib.hid hg
    clear hg r0 r1 r2 r3 rf
    go_wp2_with fail
    refine HS.out.mono ?_
    rintro e w3 ⟨rfl, hb⟩
    replace HU := Lib.hid (HU.out.read hb)
    replace HBX := Lib.hid (HBX.out.read hb)
    replace HR := Lib.hid (HR.out.read hb)
    replace HW := Lib.hid (belowOn HW.out (Nat.le_refl _) hb)
    clear hb HS HRE
    have HRE := Lib.hid HR.out.now
    cases hs : substB s with
    | false =>
      obtain ⟨rfl, rfl⟩ := HNO.out fun h => substB_false.1 hs h.2
      obtain ⟨r0, r1, r2, r3, rf⟩ := box_cells HR.out.now
      clear hs
      go_wp2
      exact oldTm2_end (t := zeroTm) (C := fun _ => False) (p := 4) (q := 5) (b := w.heap.size) rfl rfl rfl rfl rfl rfl rfl Try.underlying31 (by kernel_rfl) HRE.out HW.out (Nat.le_refl _) (fun h => h) (fun k h => h.elim) (.nil _ _)
    | true =>
      obtain ⟨rfl, rfl⟩ := HYES.out ⟨HGB.out, substB_true.1 hs⟩
      have HC := Lib.hid (specCopy_any ((getT s v).nodes + 1) (getT s v) _ w3 (Nat.lt_succ_self _) HU.out.argsAt (by have := HGZ.out; omega))
      obtain ⟨b0, b1, b2, b3, _⟩ := box_cells HBX.out.now
      clear hs
      go_wp2_with fail
      refine HC.out.mono ?_
      rintro e w4 ⟨u4, rfl, hu4, hb⟩
      obtain ⟨xa, xc, rfl⟩ := hu4.at.slice
      replace HR := Lib.hid (HR.out.read hb)
      have HW3 := Lib.hid HW.out.size
      have hRl := HR.out.le
      replace HW := Lib.hid (belowOn HW.out (Nat.le_refl _) hb)
      have HU4 := Lib.hid hu4
      have HL3 : Hid (w.heap.size < w3.heap.size) := Lib.hid (by have := (Array.getElem?_eq_some_iff.1 HRE.out).1; exact this)
      clear hb hu4 HC b0 b1 b2 b3 HRE
      have HRE := Lib.hid HR.out.now
      obtain ⟨r0, r1, r2, r3, rf⟩ := box_cells HR.out.now
      go_wp2
      exact oldTm2_end (t := getT s v) (C := iv w3.heap.size w4.heap.size) (p := 4) (q := 5) (b := w.heap.size) rfl rfl rfl rfl rfl rfl rfl Try.underlying31 (by kernel_rfl) HRE.out HW.out (Nat.le_refl _) (fun h => by have := h.1; have := HL3.out; omega) (fun k h => ⟨by have := h.1; have := HW3.out; omega, h.2⟩) HU4.out

set_option maxRecDepth 100000 in
set_option maxHeartbeats 4000000 in
theorem specApplySubst_any (s : List Bd) (Vs : Value) (t : Tm) (V : Value) (w : World) (hLS : ListS bdE w Any Vs s) (hZs : szB s ≤ 1048576) (hA : ArgsAt w V t.args) (hZ : t.sz ≤ 1048576) :
    Calls Try.prog 21 #[Vs, .agg #[.int .i64 t.kind, .int .i64 t.num, .string t.name, V]] w (OldTm2 (apT s t) (apB s t) w) := by
  obtain ⟨aa, ca, rfl⟩ := hA.slice
  obtain ⟨sa, sc, rfl⟩ := hLS.slice
  have hL : s.length ≤ 1048576 := by have := szB_len s; omega
  have hal : Below w.heap.size w (w.alloc (.cells #[.int .i64 t.kind, .int .i64 t.num, .string t.name, .slice aa t.args.length ca] 31)) := belowAlloc (Below.refl _ _) _
  have hal2 : Below w.heap.size w ((w.alloc (.cells #[.int .i64 t.kind, .int .i64 t.num, .string t.name, .slice aa t.args.length ca] 31)).alloc (.cells #[.int .i64 0, .int .i64 0, .string ⟨#[]⟩, .slice none 0 0] 31)) := belowAlloc hal _
  have HW := Lib.hid hal2
  have HX := Lib.hid (at_box_of w #[.int .i64 t.kind, .int .i64 t.num, .string t.name, .slice aa t.args.length ca] 31 w.heap.size rfl)
  replace HX := Lib.hid (HX.out.read (belowAlloc (Below.refl _ _) (.cells #[.int .i64 0, .int .i64 0, .string ⟨#[]⟩, .slice none 0 0] 31)))
  have HR := Lib.hid (at_box_of (w.alloc (.cells #[.int .i64 t.kind, .int .i64 t.num, .string t.name, .slice aa t.args.length ca] 31)) #[.int .i64 0, .int .i64 0, .string ⟨#[]⟩, .slice none 0 0] 31 (w.heap.size + 1) (by simp))
  have HLS := Lib.hid (fun W (h : Below w.heap.size w W) => hLS.kept h)
  have HAT := Lib.hid (fun W (h : Below w.heap.size w W) => hA.kept h)
  have HYES := Lib.hid (fun h => ap_yes (s := s) (t := t) h)
  have HNO := Lib.hid (fun h => ap_no (s := s) (t := t) h)
  generalize apT s t = rt at HYES HNO ⊢
  generalize apB s t = rb at HYES HNO ⊢
  clear hal hal2 hLS hA
  go_enter Try.func21, Try.ntmps21
  go_upto_region 1 with (fail)
  generalize hw0 : (w.alloc (.cells #[.int .i64 t.kind, .int .i64 t.num, .string t.name, .slice aa t.args.length ca] 31)).alloc (.cells #[.int .i64 0, .int .i64 0, .string ⟨#[]⟩, .slice none 0 0] 31) = w0 at HW HX HR ⊢
  clear hw0
  have HS := Lib.hid (specSubstOk_any s _ w0 (HLS.out _ HW.out) (eachB_of hZs))
  go_wp2_with fail
  refine HS.out.mono ?_
  rintro e w1 ⟨rfl, hb⟩
  replace HX := Lib.hid (HX.out.read hb)
  replace HR := Lib.hid (HR.out.read hb)
  replace HW := Lib.hid (belowOn HW.out (Nat.le_refl _) hb)
  clear hb HS
  cases hs : substB s with
  | false =>
    obtain ⟨rfl, rfl⟩ := HNO.out fun h => substB_false.1 hs h.1
    have HRE := Lib.hid HR.out.now
    obtain ⟨r0, r1, r2, r3, rf⟩ := box_cells HR.out.now
    clear hs
    go_wp2
    exact oldTm2_end (t := zeroTm) (C := fun _ => False) (p := 4) (q := 5) (b := w.heap.size + 1) rfl rfl rfl rfl rfl rfl rfl Try.underlying31 (by kernel_rfl) HRE.out HW.out (by omega) (fun h => h) (fun k h => h.elim) (.nil _ _)
  | true =>
  have HSP := Lib.hid (substB_true.1 hs)
  have HO := Lib.hid (specTermOk_any t _ w1 (HAT.out _ HW.out) hZ)
  obtain ⟨c0, c1, c2, c3⟩ := HX.out.cells
  clear hs
  go_wp2_with fail
  refine HO.out.mono ?_
  rintro e w2 ⟨rfl, hb⟩
  replace HX := Lib.hid (HX.out.read hb)
  replace HR := Lib.hid (HR.out.read hb)
  replace HW := Lib.hid (belowOn HW.out (Nat.le_refl _) hb)
  clear hb HO c0 c1 c2 c3
  cases ho : okB t with
  | false =>
    obtain ⟨rfl, rfl⟩ := HNO.out fun h => okB_false.1 ho h.2.1
    have HRE := Lib.hid HR.out.now
    obtain ⟨r0, r1, r2, r3, rf⟩ := box_cells HR.out.now
    clear ho
    go_wp2
    exact oldTm2_end (t := zeroTm) (C := fun _ => False) (p := 4) (q := 5) (b := w.heap.size + 1) rfl rfl rfl rfl rfl rfl rfl Try.underlying31 (by kernel_rfl) HRE.out HW.out (by omega) (fun h => h) (fun k h => h.elim) (.nil _ _)
  | true =>
  have HOK := Lib.hid (okB_true.1 ho)
  have HFINE := Lib.hid (putT_fine HSP.out HOK.out)
  have HP := Lib.hid (specApply4_any s t _ _ (fun k => k < w2.heap.size) w2 HSP.out HOK.out hL (fun k hk => hk) (HLS.out _ HW.out).lowB (HAT.out _ HW.out).inS hZ)
  obtain ⟨c0, c1, c2, c3⟩ := HX.out.cells
  have HDEC := Lib.hid (fun h => HYES.out ⟨HSP.out, HOK.out, of_decide_eq_true h⟩)
  have HDEN := Lib.hid (fun (h : decide ((putT s t).nodes ≤ 5000) = false) => HNO.out fun h2 => of_decide_eq_false h h2.2.2)
  clear ho HYES HNO
  generalize decide ((putT s t).nodes ≤ 5000) = fb at HP HDEC HDEN
  generalize putT s t = r at HP HDEC HDEN HFINE
  go_wp2_with fail
  refine HP.out.mono ?_
  rintro e w3 ⟨u, rfl, hu, hb⟩
  obtain ⟨ua, uc, rfl⟩ := hu.at.slice
  have hal : Below w3.heap.size w3 (w3.alloc (.cells #[.int .i64 r.kind, .int .i64 r.num, .string r.name, .slice ua r.args.length uc] 31)) := belowAlloc (Below.refl _ _) _
  have HU := Lib.hid (at_args (hu.at.kept hal))
  have HBX := Lib.hid (at_box_of w3 #[.int .i64 r.kind, .int .i64 r.num, .string r.name, .slice ua r.args.length uc] 31 (w3.heap.size) rfl)
  replace HR := Lib.hid ((HR.out.read hb).read hal)
  replace HW := Lib.hid (belowOn HW.out (Nat.le_refl _) (belowOn hb (Nat.le_refl _) hal))
  clear hu hb hal HP c0 c1 c2 c3 HX
  go_upto_region 4 with (fail)
  generalize hw1 : w3.alloc (.cells #[.int .i64 r.kind, .int .i64 r.num, .string r.name, .slice ua r.args.length uc] 31) = w4 at HU HBX HR HW ⊢
  clear hw1
  generalize w3.heap.size = nb at HBX ⊢
  have HRE := Lib.hid HR.out.now
  cases fb with
  | false =>
    obtain ⟨rfl, rfl⟩ := HDEN.out rfl
    obtain ⟨r0, r1, r2, r3, rf⟩ := box_cells HR.out.now
    go_wp2
    exact oldTm2_end (t := zeroTm) (C := fun _ => False) (p := 4) (q := 5) (b := w.heap.size + 1) rfl rfl rfl rfl rfl rfl rfl Try.underlying31 (by kernel_rfl) HRE.out HW.out (by omega) (fun h => h) (fun k h => h.elim) (.nil _ _)
  | true =>
    obtain ⟨rfl, rfl⟩ := HDEC.out rfl
    have HC := Lib.hid (specCopy_any (rt.nodes + 1) rt _ w4 (Nat.lt_succ_self _) HU.out.argsAt HFINE.out.2.2)
    obtain ⟨b0, b1, b2, b3, _⟩ := box_cells HBX.out.now
    go_wp2_with fail
    refine HC.out.mono ?_
    rintro e w5 ⟨u4, rfl, hu4, hb⟩
    obtain ⟨xa, xc, rfl⟩ := hu4.at.slice
    replace HR := Lib.hid (HR.out.read hb)
    have HW3 := Lib.hid HW.out.size
    have hRl := HR.out.le
    replace HW := Lib.hid (belowOn HW.out (Nat.le_refl _) hb)
    have HU4 := Lib.hid hu4
    have HL3 : Hid (w.heap.size + 1 < w4.heap.size) := Lib.hid (by have := (Array.getElem?_eq_some_iff.1 HRE.out).1; exact this)
    clear hb hu4 HC b0 b1 b2 b3 HRE
    have HRE := Lib.hid HR.out.now
    obtain ⟨r0, r1, r2, r3, rf⟩ := box_cells HR.out.now
    go_wp2
    exact oldTm2_end (t := rt) (C := iv w4.heap.size w5.heap.size) (p := 4) (q := 5) (b := w.heap.size + 1) rfl rfl rfl rfl rfl rfl rfl Try.underlying31 (by kernel_rfl) HRE.out HW.out (by omega) (fun h => by have := h.1; have := HL3.out; omega) (fun k h => ⟨by have := h.1; have := HW3.out; omega, h.2⟩) HU4.out
end Go.Proofs.Ytjmmeccfjanpcaa

