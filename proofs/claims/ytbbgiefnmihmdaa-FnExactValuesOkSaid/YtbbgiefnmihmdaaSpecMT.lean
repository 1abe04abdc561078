/-
  The model's ValuesOk, Instantiate, MatchTerm, IsInstance, in the form that the laws' walks take.
-/
import Derived.Test.YtbbgiefnmihmdaaSpecMatch
import Derived.Test.YtbbgiefnmihmdaaImplMT
import Derived.Test.YtbbgiefnmihmdaaSubsQ
namespace Go.Proofs.Ytbbgiefnmihmdaa
open Go.RowKit
set_option linter.unusedVariables false
set_option linter.unusedSimpArgs false

theorem inst_sz (t : Tm) (s : List Bd) : (instT s t).sz ≤ 1048576 := by
  by_cases h : InP s t
  · rw [(in_yes h).1]
    have h1 := good_sz (putT_fineV h.2.1.fits h.1).1
    have h2 := h.2.2
    omega
  · rw [(in_not h).1, zeroTm, Tm.sz, szL]; exact Nat.zero_le _
theorem mt_each (p t : Tm) : EachB (mtL p t) := by
  rcases mt_or p t with h | h
  · rw [h]; exact ⟨Nat.zero_le _, fun b hb => by simp at hb⟩
  · exact ⟨by have := h.2.2.2; omega, fun b hb => by have h1 := (h.2.2.1.ok b hb).2; have h2 := good_sz h1.2; have h3 := h1.1; omega⟩
theorem mt_nk (p t : Tm) : nkB (mtL p t) ≤ 4294967296 := by
  have h1 := szB_each (M := 1048575) (mt_each p t).2
  have h2 : (mtL p t).length ≤ 400 := by
    rcases mt_or p t with h | h
    · rw [h]; exact Nat.zero_le _
    · exact h.2.2.2
  have h3 : (mtL p t).length * (1048575 + 1) ≤ 400 * (1048575 + 1) := Nat.mul_le_mul_right _ h2
  have h4 := nkB_sz (mtL p t)
  omega
set_option maxHeartbeats 400000 in
theorem specValuesOk_any (s : List Bd) (V : Value) (w : World) (hA : ListS bdE w Any V s) (hZ : szB s ≤ 1048576) :
    Calls Try.prog 36 #[V] w fun e w' => e = .returned (.bool (valuesB s)) ∧ Below w.heap.size w w' := by
  have HC := Lib.hid (specValues_any s V w hA (eachB_of hZ))
  clear hA
  go_enter Try.func36, Try.ntmps36
  go_wp2_with fail
  refine HC.out.mono ?_
  rintro e w1 ⟨rfl, hb⟩
  have HB := Lib.hid hb
  clear hb HC
  go_wp2
  go_ret
  exact ⟨rfl, HB.out⟩
theorem implValuesOk_any (s : List Bd) (V : Value) (w : World) (hA : ListS bdE w Any V s) (hZ : szB s ≤ 1048576) (hF : fineB s) :
    Calls Try.prog 32 #[V] w fun e w' => e = .returned (.bool (valuesB s)) ∧ Below w.heap.size w w' := implValuesOk_e s V w hA (eachB_of hZ)
theorem implInstantiate_any (t : Tm) (V : Value) (s : List Bd) (Vs : Value) (w : World) (hT : ArgsAt w V t.args) (hZ : t.sz ≤ 1048576) (hA : ListS bdE w Any Vs s) (hZs : szB s ≤ 1048576) (hF : fineB s) :
    Calls Try.prog 29 #[.agg #[.int .i64 t.kind, .int .i64 t.num, .string t.name, V], Vs] w (NewTm2 (instT s t) (instB s t) w) := implInstantiate_e s Vs t V w hA (eachB_of hZs) hF.wf hT hZ

set_option maxRecDepth 100000 in
set_option maxHeartbeats 4000000 in
theorem specInstantiate_any (t : Tm) (V : Value) (s : List Bd) (Vs : Value) (w : World) (hA : ArgsAt w V t.args) (hZ : t.sz ≤ 1048576) (hLS : ListS bdE w Any Vs s) (hZs : szB s ≤ 1048576) :
    Calls Try.prog 40 #[.agg #[.int .i64 t.kind, .int .i64 t.num, .string t.name, V], Vs] w (OldTm2 (instT s t) (instB s t) w) := by
  obtain ⟨aa, ca, rfl⟩ := hA.slice
  obtain ⟨sa, sc, rfl⟩ := hLS.slice
  have hL : s.length ≤ 1048576 := by have := szB_len s; omega
  have hal : Below w.heap.size w (w.alloc (.cells #[.int .i64 t.kind, .int .i64 t.num, .string t.name, .slice aa t.args.length ca] 27)) := belowAlloc (Below.refl _ _) _
  have hal2 : Below w.heap.size w ((w.alloc (.cells #[.int .i64 t.kind, .int .i64 t.num, .string t.name, .slice aa t.args.length ca] 27)).alloc (.cells #[.int .i64 0, .int .i64 0, .string ⟨#[]⟩, .slice none 0 0] 27)) := belowAlloc hal _
  have HW := Lib.hid hal2
  have HX := Lib.hid (at_box_of w #[.int .i64 t.kind, .int .i64 t.num, .string t.name, .slice aa t.args.length ca] 27 w.heap.size rfl)
  replace HX := Lib.hid (HX.out.read (belowAlloc (Below.refl _ _) (.cells #[.int .i64 0, .int .i64 0, .string ⟨#[]⟩, .slice none 0 0] 27)))
  have HR := Lib.hid (at_box_of (w.alloc (.cells #[.int .i64 t.kind, .int .i64 t.num, .string t.name, .slice aa t.args.length ca] 27)) #[.int .i64 0, .int .i64 0, .string ⟨#[]⟩, .slice none 0 0] 27 (w.heap.size + 1) (by simp))
  have HLS := Lib.hid (fun W (h : Below w.heap.size w W) => hLS.kept h)
  have HAT := Lib.hid (fun W (h : Below w.heap.size w W) => hA.kept h)
  have HYES := Lib.hid (fun h => in_yes (s := s) (t := t) h)
  have HNO := Lib.hid (fun h => in_not (s := s) (t := t) h)
  generalize instT s t = rt at HYES HNO ⊢
  generalize instB s t = rb at HYES HNO ⊢
  clear hal hal2 hLS hA
  go_enter Try.func40, Try.ntmps40
  go_upto_region 1 with (fail)
  generalize hw0 : (w.alloc (.cells #[.int .i64 t.kind, .int .i64 t.num, .string t.name, .slice aa t.args.length ca] 27)).alloc (.cells #[.int .i64 0, .int .i64 0, .string ⟨#[]⟩, .slice none 0 0] 27) = w0 at HW HX HR ⊢
  clear hw0
  have HO := Lib.hid (specTermOk_any t _ w0 (HAT.out _ HW.out) hZ)
  obtain ⟨c0, c1, c2, c3⟩ := HX.out.cells
  have z0 := HX.out.le
  go_wp2_with fail
  refine HO.out.mono ?_
  rintro e w1 ⟨rfl, hb⟩
  replace HX := Lib.hid (HX.out.read hb)
  replace HR := Lib.hid (HR.out.read hb)
  replace HW := Lib.hid (belowOn HW.out (Nat.le_refl _) hb)
  clear hb HO c0 c1 c2 c3 z0
  cases ho : okB t with
  | false =>
    obtain ⟨rfl, rfl⟩ := HNO.out fun h => okB_false.1 ho h.1
    have HRE := Lib.hid HR.out.now
    obtain ⟨r0, r1, r2, r3, rf⟩ := box_cells HR.out.now
    clear ho
    go_wp2
    exact oldTm2_end (t := zeroTm) (C := fun _ => False) (p := 4) (q := 5) (b := w.heap.size + 1) rfl rfl rfl rfl rfl rfl rfl Try.underlying27 (by kernel_rfl) HRE.out HW.out (by omega) (fun h => h) (fun k h => h.elim) (.nil _ _)
  | true =>
  have HOK := Lib.hid (okB_true.1 ho)
  clear ho
  have HS := Lib.hid (specValuesOk_any s _ w1 (HLS.out _ HW.out) hZs)
  go_wp2_with fail
  refine HS.out.mono ?_
  rintro e w2 ⟨rfl, hb⟩
  replace HX := Lib.hid (HX.out.read hb)
  replace HR := Lib.hid (HR.out.read hb)
  replace HW := Lib.hid (belowOn HW.out (Nat.le_refl _) hb)
  clear hb HS
  cases hs : valuesB s with
  | false =>
    obtain ⟨rfl, rfl⟩ := HNO.out fun h => valuesB_false.1 hs h.2.1
    have HRE := Lib.hid HR.out.now
    obtain ⟨r0, r1, r2, r3, rf⟩ := box_cells HR.out.now
    clear hs
    go_wp2
    exact oldTm2_end (t := zeroTm) (C := fun _ => False) (p := 4) (q := 5) (b := w.heap.size + 1) rfl rfl rfl rfl rfl rfl rfl Try.underlying27 (by kernel_rfl) HRE.out HW.out (by omega) (fun h => h) (fun k h => h.elim) (.nil _ _)
  | true =>
  have HSP := Lib.hid (valuesB_true.1 hs)
  have ho : True := trivial
  clear hs
  have HFINE := Lib.hid (putT_fineV HSP.out.fits HOK.out)
  have HP := Lib.hid (specApply4_v s t _ _ (fun k => k < w2.heap.size) w2 HSP.out.fits HOK.out hL (fun k hk => hk) (HLS.out _ HW.out).lowB (HAT.out _ HW.out).inS hZ)
  obtain ⟨c0, c1, c2, c3⟩ := HX.out.cells
  have HDEC := Lib.hid (fun h => HYES.out ⟨HOK.out, HSP.out, of_decide_eq_true h⟩)
  have HDEN := Lib.hid (fun (h : decide ((putT s t).nodes ≤ 5000) = false) => HNO.out fun h2 => of_decide_eq_false h h2.2.2)
  clear ho HYES HNO
  generalize decide ((putT s t).nodes ≤ 5000) = fb at HP HDEC HDEN
  generalize putT s t = r at HP HDEC HDEN HFINE
  go_wp2_with fail
  refine HP.out.mono ?_
  rintro e w3 ⟨u, rfl, hu, hb⟩
  obtain ⟨ua, uc, rfl⟩ := hu.at.slice
  have hal : Below w3.heap.size w3 (w3.alloc (.cells #[.int .i64 r.kind, .int .i64 r.num, .string r.name, .slice ua r.args.length uc] 27)) := belowAlloc (Below.refl _ _) _
  have HU := Lib.hid (at_args (hu.at.kept hal))
  have HBX := Lib.hid (at_box_of w3 #[.int .i64 r.kind, .int .i64 r.num, .string r.name, .slice ua r.args.length uc] 27 (w3.heap.size) rfl)
  replace HR := Lib.hid ((HR.out.read hb).read hal)
  replace HW := Lib.hid (belowOn HW.out (Nat.le_refl _) (belowOn hb (Nat.le_refl _) hal))
  clear hu hb hal HP c0 c1 c2 c3 HX
  go_upto_region 4 with (fail)
  generalize hw1 : w3.alloc (.cells #[.int .i64 r.kind, .int .i64 r.num, .string r.name, .slice ua r.args.length uc] 27) = w4 at HU HBX HR HW ⊢
  clear hw1
  generalize w3.heap.size = nb at HBX ⊢
  have HRE := Lib.hid HR.out.now
  cases fb with
  | false =>
    obtain ⟨rfl, rfl⟩ := HDEN.out rfl
    obtain ⟨r0, r1, r2, r3, rf⟩ := box_cells HR.out.now
    go_wp2
    exact oldTm2_end (t := zeroTm) (C := fun _ => False) (p := 4) (q := 5) (b := w.heap.size + 1) rfl rfl rfl rfl rfl rfl rfl Try.underlying27 (by kernel_rfl) HRE.out HW.out (by omega) (fun h => h) (fun k h => h.elim) (.nil _ _)
  | true =>
    obtain ⟨rfl, rfl⟩ := HDEC.out rfl
    have HC := Lib.hid (specCopy_any (rt.nodes + 1) rt _ w4 (Nat.lt_succ_self _) HU.out.argsAt HFINE.out.2.2)
    obtain ⟨b0, b1, b2, b3, _⟩ := box_cells HBX.out.now
    go_wp2_with fail
    refine HC.out.mono ?_
    rintro e w5 ⟨u4, rfl, hu4, hb⟩
    obtain ⟨xa, xc, rfl⟩ := hu4.at.slice
    replace HR := Lib.hid (HR.out.read hb)
    have HW3 := Lib.hid HW.out.size
    have hRl := HR.out.le
    replace HW := Lib.hid (belowOn HW.out (Nat.le_refl _) hb)
    have HU4 := Lib.hid hu4
    have HL3 : Hid (w.heap.size + 1 < w4.heap.size) := Lib.hid (by have := (Array.getElem?_eq_some_iff.1 HRE.out).1; exact this)
    clear hb hu4 HC b0 b1 b2 b3 HRE
    have HRE := Lib.hid HR.out.now
    obtain ⟨r0, r1, r2, r3, rf⟩ := box_cells HR.out.now
    go_wp2
    exact oldTm2_end (t := rt) (C := iv w4.heap.size w5.heap.size) (p := 4) (q := 5) (b := w.heap.size + 1) rfl rfl rfl rfl rfl rfl rfl Try.underlying27 (by kernel_rfl) HRE.out HW.out (by omega) (fun h => by have := h.1; have := HL3.out; omega) (fun k h => ⟨by have := h.1; have := HW3.out; omega, h.2⟩) HU4.out
set_option maxRecDepth 100000 in
set_option maxHeartbeats 2000000 in
theorem specMatchTerm_any (p : Tm) (Vp : Value) (t : Tm) (Vt : Value) (w : World) (hP : ArgsAt w Vp p.args) (hZp : p.sz ≤ 1048576) (hT : ArgsAt w Vt t.args) (hZt : t.sz ≤ 1048576) :
    Calls Try.prog 46 #[.agg #[.int .i64 p.kind, .int .i64 p.num, .string p.name, Vp], .agg #[.int .i64 t.kind, .int .i64 t.num, .string t.name, Vt]] w (OldB2 (mtL p t) (mtB p t) w) := by
  obtain ⟨pa, pc, rfl⟩ := hP.slice
  obtain ⟨ta, tc, rfl⟩ := hT.slice
  have hB : Below w.heap.size w ((w.alloc (.cells #[.int .i64 p.kind, .int .i64 p.num, .string p.name, .slice pa p.args.length pc] 27)).alloc (.cells #[.int .i64 t.kind, .int .i64 t.num, .string t.name, .slice ta t.args.length tc] 27)) := belowAlloc (belowAlloc (Below.refl _ _) _) _
  have HX := Lib.hid ((at_box_of w #[.int .i64 p.kind, .int .i64 p.num, .string p.name, .slice pa p.args.length pc] 27 w.heap.size rfl).read (belowAlloc (Below.refl _ _) (.cells #[.int .i64 t.kind, .int .i64 t.num, .string t.name, .slice ta t.args.length tc] 27)))
  have HY := Lib.hid (at_box_of (w.alloc (.cells #[.int .i64 p.kind, .int .i64 p.num, .string p.name, .slice pa p.args.length pc] 27)) #[.int .i64 t.kind, .int .i64 t.num, .string t.name, .slice ta t.args.length tc] 27 (w.heap.size + 1) (by simp))
  have HP := Lib.hid (hP.kept hB)
  have HT := Lib.hid (hT.kept hB)
  have HW := Lib.hid hB
  have HNO := Lib.hid (fun (h : ∀ l, ¬ MtP p t l) => mt_no h)
  have HYES := Lib.hid (fun (l : List Bd) (h : MtP p t l) => mt_yes h)
  generalize mtL p t = rl at HNO HYES ⊢
  generalize mtB p t = rb at HNO HYES ⊢
  clear hP hT hB
  go_enter Try.func46, Try.ntmps46
  go_upto_region 1 with (fail)
  generalize hw0 : (w.alloc (.cells #[.int .i64 p.kind, .int .i64 p.num, .string p.name, .slice pa p.args.length pc] 27)).alloc (.cells #[.int .i64 t.kind, .int .i64 t.num, .string t.name, .slice ta t.args.length tc] 27) = w0 at HX HY HP HT HW ⊢
  clear hw0
  have HC := Lib.hid (specTermOk_any p _ w0 HP.out hZp)
  obtain ⟨c0, c1, c2, c3⟩ := HX.out.cells
  have z0 := HX.out.le
  go_wp2_with fail
  refine HC.out.mono ?_
  rintro e w1 ⟨rfl, hb⟩
  replace HX := Lib.hid (HX.out.read hb)
  replace HY := Lib.hid (HY.out.read hb)
  replace HP := Lib.hid (HP.out.kept hb)
  replace HT := Lib.hid (HT.out.kept hb)
  replace HW := Lib.hid (belowOn HW.out (Nat.le_refl _) hb)
  clear hb HC c0 c1 c2 c3 z0
  cases hop : okB p with
  | false =>
    obtain ⟨rfl, rfl⟩ := HNO.out fun l h => okB_false.1 hop h.1
    clear hop
    go_wp2
    go_ret2
    exact ⟨_, rfl, .nil _ _, HW.out⟩
  | true =>
  have HOP := Lib.hid (okB_true.1 hop)
  clear hop
  have HC := Lib.hid (specTermOk_any t _ w1 HT.out hZt)
  obtain ⟨d0, d1, d2, d3⟩ := HY.out.cells
  have z1 := HY.out.le
  go_wp2_with fail
  refine HC.out.mono ?_
  rintro e w2 ⟨rfl, hb⟩
  replace HX := Lib.hid (HX.out.read hb)
  replace HY := Lib.hid (HY.out.read hb)
  replace HP := Lib.hid (HP.out.kept hb)
  replace HT := Lib.hid (HT.out.kept hb)
  replace HW := Lib.hid (belowOn HW.out (Nat.le_refl _) hb)
  clear hb HC d0 d1 d2 d3 z1
  cases hot : okB t with
  | false =>
    obtain ⟨rfl, rfl⟩ := HNO.out fun l h => okB_false.1 hot h.2.1
    clear hot
    go_wp2
    go_ret2
    exact ⟨_, rfl, .nil _ _, HW.out⟩
  | true =>
  have HOT := Lib.hid (okB_true.1 hot)
  clear hot
  have HC := Lib.hid (specMatch_any (p.nodes + 1) p t [] _ _ _ w2 (Nat.lt_succ_self _) (.inl ⟨rfl, rfl⟩) List.Pairwise.nil (fun v x h => by cases h) (by have := HOP.out.1; simp; omega) HP.out HT.out HOP.out HOT.out)
  have e0 : getO [] = fun _ => none := rfl
  unfold SMatP at HC
  rw [e0] at HC
  clear e0
  obtain ⟨c0, c1, c2, c3⟩ := HX.out.cells
  have z0 := HX.out.le
  obtain ⟨d0, d1, d2, d3⟩ := HY.out.cells
  have z1 := HY.out.le
  go_wp2_with fail
  refine HC.out.mono ?_
  rintro e w3 ⟨v, m, rfl, hv, hb, hh⟩
  obtain ⟨va, vc, rfl⟩ := hv.slice
  have HV := Lib.hid hv.inS
  have HW3 := Lib.hid (belowOn HW.out (Nat.le_refl _) hb)
  have HH := Lib.hid hh
  clear hb hv hh HC c0 c1 c2 c3 z0 d0 d1 d2 d3 z1 HX HY HP HT
  cases hmb : matB (fun _ => none) p t with
  | false =>
    obtain ⟨rfl, rfl⟩ := HNO.out fun l h => nat_list HOP.out.2 (matB_false HOP.out.2 hmb) h.2.2.1
    clear hmb
    go_wp2
    go_ret2
    exact ⟨_, rfl, .nil _ _, HW3.out⟩
  | true =>
    obtain ⟨h1, h2, h3, h4⟩ := HH.out hmb
    have HML : Hid (MatL p t m) := Lib.hid (mat_list HOP.out.2 h4 h2 h1 fun v => rfl)
    clear hmb h1 h2 h4
    by_cases hl4 : m.length ≤ 400
    · obtain ⟨rfl, rfl⟩ := HYES.out m ⟨HOP.out, HOT.out, HML.out, hl4⟩
      have h4I : ¬ 400 < (rl.length : Int) := by omega
      have h4d : decide (400 < (rl.length : Int)) = false := decide_eq_false h4I
      have HE : Hid (EachB rl) := Lib.hid ⟨by omega, fun b hb => by have k1 := (HML.out.ok b hb).2; have k2 := good_sz k1.2; have k3 := k1.1; omega⟩
      have HC := Lib.hid (specCopyB_any rl _ w3 HV.out HE.out)
      clear hl4 h3
      go_wp2_with fail
      refine HC.out.mono ?_
      rintro e w4 ⟨v, rfl, hv, hb⟩
      have HV5 := Lib.hid hv
      have HW5 := Lib.hid (belowOn HW3.out (Nat.le_refl _) hb)
      clear hv hb HC h4I h4d
      go_wp2
      go_ret2
      exact ⟨_, rfl, HV5.out, HW5.out⟩
    · obtain ⟨rfl, rfl⟩ := HNO.out (mt_long HOP.out.2 HML.out hl4)
      have h4I : 400 < (m.length : Int) := by omega
      have h4d : decide (400 < (m.length : Int)) = true := decide_eq_true h4I
      clear hl4 h3
      go_wp2
      go_ret2
      exact ⟨_, rfl, .nil _ _, HW3.out⟩

set_option maxHeartbeats 1000000 in
theorem specIsInstance_any (t : Tm) (Vt : Value) (p : Tm) (Vp : Value) (w : World) (hT : ArgsAt w Vt t.args) (hZt : t.sz ≤ 1048576) (hP : ArgsAt w Vp p.args) (hZp : p.sz ≤ 1048576) :
    Calls Try.prog 48 #[.agg #[.int .i64 t.kind, .int .i64 t.num, .string t.name, Vt], .agg #[.int .i64 p.kind, .int .i64 p.num, .string p.name, Vp]] w fun e w' => e = .returned (.bool (mtB p t)) ∧ Below w.heap.size w w' := by
  obtain ⟨pa, pc, rfl⟩ := hP.slice
  obtain ⟨ta, tc, rfl⟩ := hT.slice
  have hB : Below w.heap.size w ((w.alloc (.cells #[.int .i64 t.kind, .int .i64 t.num, .string t.name, .slice ta t.args.length tc] 27)).alloc (.cells #[.int .i64 p.kind, .int .i64 p.num, .string p.name, .slice pa p.args.length pc] 27)) := belowAlloc (belowAlloc (Below.refl _ _) _) _
  have HX := Lib.hid ((at_box_of w #[.int .i64 t.kind, .int .i64 t.num, .string t.name, .slice ta t.args.length tc] 27 w.heap.size rfl).read (belowAlloc (Below.refl _ _) (.cells #[.int .i64 p.kind, .int .i64 p.num, .string p.name, .slice pa p.args.length pc] 27)))
  have HY := Lib.hid (at_box_of (w.alloc (.cells #[.int .i64 t.kind, .int .i64 t.num, .string t.name, .slice ta t.args.length tc] 27)) #[.int .i64 p.kind, .int .i64 p.num, .string p.name, .slice pa p.args.length pc] 27 (w.heap.size + 1) (by simp))
  have HW := Lib.hid hB
  have HC := Lib.hid (specMatchTerm_any p _ t _ _ (hP.kept hB) hZp (hT.kept hB) hZt)
  generalize mtB p t = rb at HC ⊢
  clear hP hT hB
  go_enter Try.func48, Try.ntmps48
  go_upto_region 1 with (fail)
  generalize hw0 : (w.alloc (.cells #[.int .i64 t.kind, .int .i64 t.num, .string t.name, .slice ta t.args.length tc] 27)).alloc (.cells #[.int .i64 p.kind, .int .i64 p.num, .string p.name, .slice pa p.args.length pc] 27) = w0 at HX HY HW HC ⊢
  clear hw0
  obtain ⟨c0, c1, c2, c3⟩ := HX.out.cells
  have z0 := HX.out.le
  obtain ⟨d0, d1, d2, d3⟩ := HY.out.cells
  have z1 := HY.out.le
  go_wp2_with fail
  refine HC.out.mono ?_
  rintro e w1 ⟨v, rfl, hl, hb⟩
  obtain ⟨la, lc, rfl⟩ := hl.slice
  have HB := Lib.hid (belowOn HW.out (Nat.le_refl _) hb)
  clear hb hl HC c0 c1 c2 c3 z0 d0 d1 d2 d3 z1 HX HY
  go_wp2
  go_ret
  exact ⟨rfl, HB.out⟩
end Go.Proofs.Ytbbgiefnmihmdaa

