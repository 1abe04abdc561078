/-
  ValuesOk and Instantiate: the model's, and the program's in the form that the laws' walks take.
-/
import Derived.Test.YtjpkkhhcpcokaaaInstD
import Derived.Test.YtjpkkhhcpcokaaaSpecSubs
import Derived.Test.YtjpkkhhcpcokaaaSubsQ
namespace Go.Proofs.Ytjpkkhhcpcokaaa
open Go.RowKit
set_option linter.unusedVariables false
set_option linter.unusedSimpArgs false

theorem inst_sz (t : Tm) (s : List Bd) : (instT s t).sz ≤ 1048576 := by
  by_cases h : InP s t
  · rw [(in_yes h).1]
    have h1 := good_sz (putT_fineV h.2.1.fits h.1).1
    have h2 := h.2.2
    omega
  · rw [(in_not h).1, zeroTm, Tm.sz, szL]; exact Nat.zero_le _
set_option maxHeartbeats 400000 in
theorem specValuesOk_any (s : List Bd) (V : Value) (w : World) (hA : ListS bdE w Any V s) (hZ : szB s ≤ 1048576) :
    Calls Try.prog 138 #[V] w fun e w' => e = .returned (.bool (valuesB s)) ∧ Below w.heap.size w w' := by
  have HC := Lib.hid (specValues_any s V w hA (eachB_of hZ))
  clear hA
  go_enter Try.func138, Try.ntmps138
  go_wp2_with fail
  refine HC.out.mono ?_
  rintro e w1 ⟨rfl, hb⟩
  have HB := Lib.hid hb
  clear hb HC
  go_wp2
  go_ret
  exact ⟨rfl, HB.out⟩
theorem implValuesOk_any (s : List Bd) (V : Value) (w : World) (hA : ListS bdE w Any V s) (hZ : szB s ≤ 1048576) (hF : fineB s) :
    Calls Try.prog 53 #[V] w fun e w' => e = .returned (.bool (valuesB s)) ∧ Below w.heap.size w w' := implValuesOk_e s V w hA (eachB_of hZ)
set_option maxRecDepth 100000 in
set_option maxHeartbeats 4000000 in
theorem specInstantiate_any (t : Tm) (V : Value) (s : List Bd) (Vs : Value) (w : World) (hA : ArgsAt w V t.args) (hZ : t.sz ≤ 1048576) (hLS : ListS bdE w Any Vs s) (hZs : szB s ≤ 1048576) :
    Calls Try.prog 90 #[.agg #[.int .i64 t.kind, .int .i64 t.num, .string t.name, V], Vs] w (OldTm2 (instT s t) (instB s t) w) := by
  obtain ⟨aa, ca, rfl⟩ := hA.slice
  obtain ⟨sa, sc, rfl⟩ := hLS.slice
  have hL : s.length ≤ 1048576 := by have := szB_len s; omega
  have hal : Below w.heap.size w (w.alloc (.cells #[.int .i64 t.kind, .int .i64 t.num, .string t.name, .slice aa t.args.length ca] 46)) := belowAlloc (Below.refl _ _) _
  have hal2 : Below w.heap.size w ((w.alloc (.cells #[.int .i64 t.kind, .int .i64 t.num, .string t.name, .slice aa t.args.length ca] 46)).alloc (.cells #[.int .i64 0, .int .i64 0, .string ⟨#[]⟩, .slice none 0 0] 46)) := belowAlloc hal _
  have HW := Lib.hid hal2
  have HX := Lib.hid (at_box_of w #[.int .i64 t.kind, .int .i64 t.num, .string t.name, .slice aa t.args.length ca] 46 w.heap.size rfl)
  replace HX := Lib.hid (HX.out.read (belowAlloc (Below.refl _ _) (.cells #[.int .i64 0, .int .i64 0, .string ⟨#[]⟩, .slice none 0 0] 46)))
  have HR := Lib.hid (at_box_of (w.alloc (.cells #[.int .i64 t.kind, .int .i64 t.num, .string t.name, .slice aa t.args.length ca] 46)) #[.int .i64 0, .int .i64 0, .string ⟨#[]⟩, .slice none 0 0] 46 (w.heap.size + 1) (by simp))
  have HLS := Lib.hid (fun W (h : Below w.heap.size w W) => hLS.kept h)
  have HAT := Lib.hid (fun W (h : Below w.heap.size w W) => hA.kept h)
  have HYES := Lib.hid (fun h => in_yes (s := s) (t := t) h)
  have HNO := Lib.hid (fun h => in_not (s := s) (t := t) h)
  generalize instT s t = rt at HYES HNO ⊢
  generalize instB s t = rb at HYES HNO ⊢
  clear hal hal2 hLS hA
  go_enter Try.func90, Try.ntmps90
  go_upto_region 1 with (fail)
  generalize hw0 : (w.alloc (.cells #[.int .i64 t.kind, .int .i64 t.num, .string t.name, .slice aa t.args.length ca] 46)).alloc (.cells #[.int .i64 0, .int .i64 0, .string ⟨#[]⟩, .slice none 0 0] 46) = w0 at HW HX HR ⊢
  clear hw0
  have HO := Lib.hid (specTermOk_any t _ w0 (HAT.out _ HW.out) hZ)
  obtain ⟨c0, c1, c2, c3⟩ := HX.out.cells
  have z0 := HX.out.le
  go_wp2_with fail
  refine HO.out.mono ?_
  rintro e w1 ⟨rfl, hb⟩
  replace HX := Lib.hid (HX.out.read hb)
  replace HR := Lib.hid (HR.out.read hb)
  replace HW := Lib.hid (belowOn HW.out (Nat.le_refl _) hb)
  clear hb HO c0 c1 c2 c3 z0
  cases ho : okB t with
  | false =>
    obtain ⟨rfl, rfl⟩ := HNO.out fun h => okB_false.1 ho h.1
    have HRE := Lib.hid HR.out.now
    obtain ⟨r0, r1, r2, r3, rf⟩ := box_cells HR.out.now
    clear ho
    go_wp2
    exact oldTm2_end (t := zeroTm) (C := fun _ => False) (p := 4) (q := 5) (b := w.heap.size + 1) rfl rfl rfl rfl rfl rfl rfl Try.underlying46 (by kernel_rfl) HRE.out HW.out (by omega) (fun h => h) (fun k h => h.elim) (.nil _ _)
  | true =>
  have HOK := Lib.hid (okB_true.1 ho)
  clear ho
  have HS := Lib.hid (specValuesOk_any s _ w1 (HLS.out _ HW.out) hZs)
  go_wp2_with fail
  refine HS.out.mono ?_
  rintro e w2 ⟨rfl, hb⟩
  replace HX := Lib.hid (HX.out.read hb)
  replace HR := Lib.hid (HR.out.read hb)
  replace HW := Lib.hid (belowOn HW.out (Nat.le_refl _) hb)
  clear hb HS
  cases hs : valuesB s with
  | false =>
    obtain ⟨rfl, rfl⟩ := HNO.out fun h => valuesB_false.1 hs h.2.1
    have HRE := Lib.hid HR.out.now
    obtain ⟨r0, r1, r2, r3, rf⟩ := box_cells HR.out.now
    clear hs
    go_wp2
    exact oldTm2_end (t := zeroTm) (C := fun _ => False) (p := 4) (q := 5) (b := w.heap.size + 1) rfl rfl rfl rfl rfl rfl rfl Try.underlying46 (by kernel_rfl) HRE.out HW.out (by omega) (fun h => h) (fun k h => h.elim) (.nil _ _)
  | true =>
  have HSP := Lib.hid (valuesB_true.1 hs)
  have ho : True := trivial
  clear hs
  have HFINE := Lib.hid (putT_fineV HSP.out.fits HOK.out)
  have HP := Lib.hid (specApply4_v s t _ _ (fun k => k < w2.heap.size) w2 HSP.out.fits HOK.out hL (fun k hk => hk) (HLS.out _ HW.out).lowB (HAT.out _ HW.out).inS hZ)
  obtain ⟨c0, c1, c2, c3⟩ := HX.out.cells
  have HDEC := Lib.hid (fun h => HYES.out ⟨HOK.out, HSP.out, of_decide_eq_true h⟩)
  have HDEN := Lib.hid (fun (h : decide ((putT s t).nodes ≤ 5000) = false) => HNO.out fun h2 => of_decide_eq_false h h2.2.2)
  clear ho HYES HNO
  generalize decide ((putT s t).nodes ≤ 5000) = fb at HP HDEC HDEN
  generalize putT s t = r at HP HDEC HDEN HFINE
  go_wp2_with fail
  refine HP.out.mono ?_
  rintro e w3 ⟨u, rfl, hu, hb⟩
  obtain ⟨ua, uc, rfl⟩ := hu.at.slice
  have hal : Below w3.heap.size w3 (w3.alloc (.cells #[.int .i64 r.kind, .int .i64 r.num, .string r.name, .slice ua r.args.length uc] 46)) := belowAlloc (Below.refl _ _) _
  have HU := Lib.hid (at_args (hu.at.kept hal))
  have HBX := Lib.hid (at_box_of w3 #[.int .i64 r.kind, .int .i64 r.num, .string r.name, .slice ua r.args.length uc] 46 (w3.heap.size) rfl)
  replace HR := Lib.hid ((HR.out.read hb).read hal)
  replace HW := Lib.hid (belowOn HW.out (Nat.le_refl _) (belowOn hb (Nat.le_refl _) hal))
  clear hu hb hal HP c0 c1 c2 c3 HX
  go_upto_region 4 with (fail)
  generalize hw1 : w3.alloc (.cells #[.int .i64 r.kind, .int .i64 r.num, .string r.name, .slice ua r.args.length uc] 46) = w4 at HU HBX HR HW ⊢
  clear hw1
  generalize w3.heap.size = nb at HBX ⊢
  have HRE := Lib.hid HR.out.now
  cases fb with
  | false =>
    obtain ⟨rfl, rfl⟩ := HDEN.out rfl
    obtain ⟨r0, r1, r2, r3, rf⟩ := box_cells HR.out.now
    go_wp2
    exact oldTm2_end (t := zeroTm) (C := fun _ => False) (p := 4) (q := 5) (b := w.heap.size + 1) rfl rfl rfl rfl rfl rfl rfl Try.underlying46 (by kernel_rfl) HRE.out HW.out (by omega) (fun h => h) (fun k h => h.elim) (.nil _ _)
  | true =>
    obtain ⟨rfl, rfl⟩ := HDEC.out rfl
    have HC := Lib.hid (specCopy_any (rt.nodes + 1) rt _ w4 (Nat.lt_succ_self _) HU.out.argsAt HFINE.out.2.2)
    obtain ⟨b0, b1, b2, b3, _⟩ := box_cells HBX.out.now
    go_wp2_with fail
    refine HC.out.mono ?_
    rintro e w5 ⟨u4, rfl, hu4, hb⟩
    obtain ⟨xa, xc, rfl⟩ := hu4.at.slice
    replace HR := Lib.hid (HR.out.read hb)
    have HW3 := Lib.hid HW.out.size
    have hRl := HR.out.le
    replace HW := Lib.hid (belowOn HW.out (Nat.le_refl _) hb)
    have HU4 := Lib.hid hu4
    have HL3 : Hid (w.heap.size + 1 < w4.heap.size) := Lib.hid (by have := (Array.getElem?_eq_some_iff.1 HRE.out).1; exact this)
    clear hb hu4 HC b0 b1 b2 b3 HRE
    have HRE := Lib.hid HR.out.now
    obtain ⟨r0, r1, r2, r3, rf⟩ := box_cells HR.out.now
    go_wp2
    exact oldTm2_end (t := rt) (C := iv w4.heap.size w5.heap.size) (p := 4) (q := 5) (b := w.heap.size + 1) rfl rfl rfl rfl rfl rfl rfl Try.underlying46 (by kernel_rfl) HRE.out HW.out (by omega) (fun h => by have := h.1; have := HL3.out; omega) (fun k h => ⟨by have := h.1; have := HW3.out; omega, h.2⟩) HU4.out
end Go.Proofs.Ytjpkkhhcpcokaaa

