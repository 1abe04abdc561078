/-
  The law FnAbsence, walked over the program's contracts. (Written by wip/tools/gen_walkfnkinds.py.)
-/
import Derived.Test.YtnmdnajbafpfiaaDemSM
namespace Go.Proofs.Ytnmdnajbafpfiaa
open Go.RowKit
set_option linter.unusedVariables false
set_option linter.unusedSimpArgs false

mutual
theorem fine_szM : ∀ t : Tm, t.sz ≤ 1048576 → t.fine
  | .mk _ _ s l, h => by
    have h1 : s.size + szL l ≤ 1048576 := h
    have h2 := length_szL l
    exact ⟨by unfold maxLen; omega, by unfold maxLen; omega, fine_szLM l (by omega)⟩
theorem fine_szLM : ∀ l : List Tm, szL l ≤ 1048576 → fineL l
  | [], _ => trivial
  | t :: l, h => by
    have h1 : szL (t :: l) = 1 + t.sz + szL l := by simp only [szL]
    exact ⟨fine_szM t (by omega), fine_szLM l (by omega)⟩
end
theorem small_fitM {s : List Bd} (h : SubD 4 8 4 11 s) : szB s ≤ 1048576 ∧ fineB s := by
  have hz : ∀ b ∈ s, b.t.sz ≤ 2000 := fun b hb => by
    have h1 := good_sz (h.1 b hb).2.2.1.1
    have h2 := (h.1 b hb).2.2.2
    omega
  have hl := asc_len s 4 (by decide) h.2 fun b hb => ⟨(h.1 b hb).1, (h.1 b hb).2.1⟩
  have h1 := szB_each hz
  have h2 : s.length * (2000 + 1) ≤ 8 * (2000 + 1) := Nat.mul_le_mul_right _ (by omega)
  exact ⟨by omega, fun b hb => ⟨fine_szM b.t (by have := hz b hb; omega), wfI_of (by have := (h.1 b hb).1; omega) (by have := (h.1 b hb).2.1; omega)⟩⟩
theorem listS_twoM (w : World) (x y : Mk) : ListS mkE (w.alloc (.cells #[.int .i64 x.v, .string x.tag, .int .i64 y.v, .string y.tag] 49)) Any (.slice (some ⟨w.heap.size, 0, none⟩) 2 2) [x, y] := by
  refine .row w.heap.size 0 2 2 [(x, .slice none 0 0), (y, .slice none 0 0)] [x, y] rfl rfl trivial (by simp) (fun i v hi => ?_) (fun _ _ _ => trivial)
  have h := World.news_of_block (heap_alloc_new w (.cells #[.int .i64 x.v, .string x.tag, .int .i64 y.v, .string y.tag] 49)) i v (by simpa [cellsE, mkE] using hi)
  rw [addr_add] at h
  exact h
theorem tag_size {k : ByteArray} (h : isName k = true) : k.size ≤ maxLen := by
  have := (of_decide_eq_true h).1
  unfold maxLen
  omega
theorem fine_ofM {l : List Mk} (h : ∀ d ∈ l, FM d) : fineM l := fun d hd => tag_size (h d hd).2
/-- The values of a list's variables fit. -/
theorem valsM {s g : List Bd} (hg : SolvedP s g) {l : List Mk} (hF : ∀ d ∈ l, FM d) : ∀ d ∈ l, (Good (varTm d.v) ∧ d.tag.size ≤ maxLen) ∧ (putT g (varTm d.v)).sz ≤ 1048576 := fun d hd => by
  obtain ⟨h1, h2, h3⟩ := hg.vokM (hF d hd).1.1 (hF d hd).1.2
  exact ⟨⟨h1, tag_size (hF d hd).2⟩, (hg.sizedM h1 h2).2⟩

set_option maxRecDepth 100000 in
set_option maxHeartbeats 4000000 in
theorem walkFnAbsence (w : World) (a : Option Addr) (len cap : Nat) (zs : List Int) (hrow : ByteRow w a len cap zs) :
    Calls Try.prog 4 #[.slice a len cap] w fun e w' => e = .returned (.bool true) ∧ Below w.heap.size w w' := by
  obtain ⟨hby, hmx⟩ := hrow.bytes
  clear hrow
  unfold maxLen at hmx
  have HY := Lib.hid hby
  clear hby
  by_cases h : 1048576 < (len : Int)
  · go_enter Try.func4, Try.ntmps4
    go_wp2
    go_ret
    exact ⟨rfl, Below.refl _ _⟩
  have hl : len ≤ 1048576 := by omega
  go_enter Try.func4, Try.ntmps4
  go_wp2_with fail
  refine (makeSolved_any a len cap 0 _ HY.out hl (by decide)).mono ?_
  rintro e w1 ⟨s, f, u, v, rfl, hs, hg, hsd, hfd, hb⟩
  clear h hmx
  have HSV := Lib.hid (solved_of hsd hfd)
  have HFIT := Lib.hid (small_fitM hsd)
  have HW := Lib.hid hb
  replace HY := Lib.hid (HY.out.kept hb)
  have HS := Lib.hid hs
  have HG := Lib.hid hg
  clear hs hg hsd hfd hb
  generalize svL s f = g at HG HSV
  obtain ⟨sa, sc, rfl⟩ := HS.out.slice
  obtain ⟨ga, gc, rfl⟩ := HG.out.slice
  have hgl : g.length ≤ 1048576 := by have := HSV.out.len; omega
  go_wp2_with fail
  refine (makeTermB_any half_small a len cap 40 5 8 _ HY.out hl (by decide) (by decide) (by decide) (by decide) (by decide) (closed_gv (by decide))).mono ?_
  rintro e w2 ⟨t, ta, tc, rfl, ht, hgt, hnt, hb⟩
  have HTP : Hid (Good t ∧ (∀ v ∈ t.vl, v < 8) ∧ t.nodes ≤ 50) := Lib.hid ⟨hgt.1, hgt.2, by have h3 : (t.nodes : Int) ≤ 3 := hnt; omega⟩
  replace HY := Lib.hid (HY.out.kept hb)
  replace HW := Lib.hid (belowOn HW.out (Nat.le_refl _) hb)
  replace HS := Lib.hid (HS.out.kept hb)
  replace HG := Lib.hid (HG.out.kept hb)
  have HT := Lib.hid ht
  clear ht hgt hnt hb
  go_upto_region 5 with (fail)
  have hal : Below w2.heap.size w2 (w2.alloc (.cells #[.int .i64 t.kind, .int .i64 t.num, .string t.name, .slice ta t.args.length tc] 28)) := belowAlloc (Below.refl _ _) _
  replace HY := Lib.hid (HY.out.kept hal)
  replace HW := Lib.hid (belowOn HW.out (Nat.le_refl _) hal)
  replace HS := Lib.hid (HS.out.kept hal)
  replace HG := Lib.hid (HG.out.kept hal)
  replace HT := Lib.hid (HT.out.kept hal)
  have HX := Lib.hid (at_box_of w2 #[.int .i64 t.kind, .int .i64 t.num, .string t.name, .slice ta t.args.length tc] 28 w2.heap.size rfl)
  clear hal
  generalize hwx : w2.alloc (.cells #[.int .i64 t.kind, .int .i64 t.num, .string t.name, .slice ta t.args.length tc] 28) = w3 at HY HW HS HG HT HX ⊢
  clear hwx
  generalize w2.heap.size = nt at HX ⊢
  have hk : isName (⟨#[97]⟩ : ByteArray) = true := by decide
  have HK := Lib.hid hk
  clear hk
  obtain ⟨c0, c1, c2, c3⟩ := HX.out.cells
  have w4eq : True := trivial
  generalize w3 = w4 at HY HW HS HG HT HX c0 c1 c2 c3 ⊢
  have HAD := Lib.hid (fM_add HSV.out HTP.out.1 HTP.out.2.1 HTP.out.2.2 HK.out)
  have HPG := Lib.hid (HSV.out.sizedM HTP.out.1 HTP.out.2.2)
  have htz : t.sz ≤ 1048576 := by have h1 := good_sz HTP.out.1; have h2 := HTP.out.2.2; omega
  have HC := Lib.hid (addNilM_any s _ t _ (⟨#[97]⟩ : ByteArray) w4 HS.out HFIT.out.1 HFIT.out.2 HT.out htz (by decide))
  generalize adVM s [] t ⟨0, (⟨#[97]⟩ : ByteArray)⟩ = R at HAD HC
  go_wp2_with fail
  refine HC.out.mono ?_
  rintro e w5 ⟨v1, rfl, hv1, hc1, hb⟩
  obtain ⟨va, vc, rfl⟩ := hv1.slice
  have HV1 := Lib.hid hv1.inS.any
  replace HY := Lib.hid (HY.out.kept hb)
  replace HW := Lib.hid (belowOn HW.out (Nat.le_refl _) hb)
  replace HS := Lib.hid (HS.out.kept hb)
  replace HG := Lib.hid (HG.out.kept hb)
  replace HT := Lib.hid (HT.out.kept hb)
  replace HX := Lib.hid (HX.out.read hb)
  clear hb hv1 hc1 HC c0 c1 c2 c3
  obtain ⟨c0, c1, c2, c3⟩ := HX.out.cells
  have HM := Lib.hid (makeValue_any g t _ _ w5 hgl HG.out HT.out htz HTP.out.1 HPG.out.2)
  obtain ⟨pv, hpv⟩ : ∃ pv, putT g t = pv := ⟨_, rfl⟩
  rw [hpv] at HM HPG HAD
  clear hpv
  go_wp2_with fail
  refine HM.out.mono ?_
  rintro e w6 ⟨pa, pc, rfl, hp, hb⟩
  replace HY := Lib.hid (HY.out.kept hb)
  replace HW := Lib.hid (belowOn HW.out (Nat.le_refl _) hb)
  replace HS := Lib.hid (HS.out.kept hb)
  replace HG := Lib.hid (HG.out.kept hb)
  replace HV1 := Lib.hid (HV1.out.kept hb)
  have HP := Lib.hid hp.at
  clear hb hp HM c0 c1 c2 c3 HX HT
  have HCS := Lib.hid (specContainsSymbol_any pv _ ⟨#[97]⟩ w6 HP.out HPG.out.2 (by decide))
  go_wp2_with fail
  refine HCS.out.mono ?_
  rintro e w6' ⟨rfl, hb⟩
  replace HY := Lib.hid (HY.out.kept hb)
  replace HW := Lib.hid (belowOn HW.out (Nat.le_refl _) hb)
  replace HS := Lib.hid (HS.out.kept hb)
  replace HG := Lib.hid (HG.out.kept hb)
  replace HV1 := Lib.hid (HV1.out.kept hb)
  clear hb HCS HP
  generalize w6' = w6 at HY HW HS HG HV1 ⊢
  cases R with
  | none =>
    have HIS := Lib.hid (HAD.out.1 rfl)
    have HO := Lib.hid (implMarksOk_any [] _ w6 HV1.out fineM_nil (by decide))
    rw [show mksB [] = true from mksB_true.2 fun j x h => by simp at h] at HO
    obtain ⟨q, hq⟩ : ∃ q, (!csB pv ⟨#[97]⟩) = q := ⟨_, rfl⟩
    rw [hq] at HIS
    obtain rfl := HIS.out
    clear HAD HIS
    go_wp2_with fail
    refine HO.out.mono ?_
    rintro e w7 ⟨rfl, hb⟩
    replace HY := Lib.hid (HY.out.kept hb)
    replace HW := Lib.hid (belowOn HW.out (Nat.le_refl _) hb)
    replace HS := Lib.hid (HS.out.kept hb)
    replace HG := Lib.hid (HG.out.kept hb)
    clear hb HO HV1
    go_wp2_with fail
    refine (makeSize_any a len cap 62 0 3 _ HY.out hl (by decide) (by decide) (by decide) (by decide)).mono ?_
    rintro e w9 ⟨⟨r1, rfl, hr1, hr2⟩, hb⟩
    replace HY := Lib.hid (HY.out.kept hb)
    replace HW := Lib.hid (belowOn HW.out (Nat.le_refl _) hb)
    replace HS := Lib.hid (HS.out.kept hb)
    replace HG := Lib.hid (HG.out.kept hb)
    clear hb
    go_wp2_with fail
    refine (makeSize_any a len cap 63 4 7 _ HY.out hl (by decide) (by decide) (by decide) (by decide)).mono ?_
    rintro e wa ⟨⟨r2, rfl, hr3, hr4⟩, hb⟩
    replace HY := Lib.hid (HY.out.kept hb)
    replace HW := Lib.hid (belowOn HW.out (Nat.le_refl _) hb)
    replace HS := Lib.hid (HS.out.kept hb)
    replace HG := Lib.hid (HG.out.kept hb)
    clear hb
    go_upto_region 10 with (fail)
    have hal : Below wa.heap.size wa (wa.alloc (.cells #[.int .i64 r1, .string ⟨#[98]⟩, .int .i64 r2, .string ⟨#[97]⟩] 49)) := belowAlloc (Below.refl _ _) _
    replace HW := Lib.hid (belowOn HW.out (Nat.le_refl _) hal)
    replace HS := Lib.hid (HS.out.kept hal)
    replace HG := Lib.hid (HG.out.kept hal)
    have HR := Lib.hid (listS_twoM wa ⟨r1, ⟨#[98]⟩⟩ ⟨r2, ⟨#[97]⟩⟩)
    have HRF : Hid (∀ d ∈ ([⟨r1, ⟨#[98]⟩⟩, ⟨r2, ⟨#[97]⟩⟩] : List Mk), FM d) := Lib.hid fun d hd => by
      rcases List.mem_cons.1 hd with rfl | hd
      · exact ⟨⟨by show 0 ≤ r1; omega, by show r1 < 8; omega⟩, by show isName (⟨#[98]⟩ : ByteArray) = true; decide⟩
      · rw [List.mem_singleton] at hd
        subst hd
        exact ⟨⟨by show 0 ≤ r2; omega, by show r2 < 8; omega⟩, by show isName (⟨#[97]⟩ : ByteArray) = true; decide⟩
    have HRA : Hid (AscO ordM ([⟨r1, ⟨#[98]⟩⟩, ⟨r2, ⟨#[97]⟩⟩] : List Mk)) := Lib.hid (List.pairwise_cons.2 ⟨fun d hd => by
      rw [List.mem_singleton] at hd
      subst hd
      exact mkLt_iff.2 (.inl (by show r1 < r2; omega)), List.pairwise_singleton _ _⟩)
    have HRS := Lib.hid (fM_rf HSV.out HRA.out HRF.out (by simp))
    have HRC : Hid (CapL (.slice (some ⟨wa.heap.size, 0, none⟩) 2 2) 2) := Lib.hid (.inr ⟨_, 0, 2, rfl, Nat.le_refl _, by decide⟩)
    clear hal HY
    generalize hwx : wa.alloc (.cells #[.int .i64 r1, .string ⟨#[98]⟩, .int .i64 r2, .string ⟨#[97]⟩] 49) = wb at HW HS HG HR ⊢
    clear hwx
    generalize wa.heap.size = nr at HR HRC ⊢
    have HC := Lib.hid (refreshM_any s _ [⟨r1, ⟨#[98]⟩⟩, ⟨r2, ⟨#[97]⟩⟩] _ wb HS.out HFIT.out.1 HFIT.out.2 HR.out HRC.out (fine_ofM HRF.out) (by simp))
    have HLR := Lib.hid (fun W (h1 : ListS bdE W Any (.slice ga g.length gc) g) (h2 : ListS mkE W Any (.slice (some ⟨nr, 0, none⟩) 2 2) [⟨r1, ⟨#[98]⟩⟩, ⟨r2, ⟨#[97]⟩⟩]) => free_any g [⟨r1, ⟨#[98]⟩⟩, ⟨r2, ⟨#[97]⟩⟩] _ _ W h1 h2 hgl (by simp) (valsM HSV.out HRF.out))
    generalize hraw : ([⟨r1, ⟨#[98]⟩⟩, ⟨r2, ⟨#[97]⟩⟩] : List Mk) = raw at HR HRS HC HLR
    clear hraw HRF HRA
    cases hR2 : rfVM s raw with
    | none =>
      have HN := Lib.hid (HRS.out.1 hR2)
      rw [hR2] at HC
      clear hR2
      go_wp2_with fail
      refine HC.out.mono ?_
      rintro e wc ⟨v2, rfl, hv2, hc2, hb⟩
      replace HW := Lib.hid (belowOn HW.out (Nat.le_refl _) hb)
      replace HS := Lib.hid (HS.out.kept hb)
      replace HG := Lib.hid (HG.out.kept hb)
      replace HR := Lib.hid (HR.out.kept hb)
      have HC2 := Lib.hid (refreshM_any s _ [] _ wc HS.out HFIT.out.1 HFIT.out.2 hv2.inS.any hc2 fineM_nil (by decide))
      clear hb hv2 hc2 HC
      generalize rfVM s [] = R3 at HC2
      go_wp2_with fail
      refine HC2.out.mono ?_
      rintro e wd ⟨v3, rfl, hv3, hc3, hb⟩
      replace HW := Lib.hid (belowOn HW.out (Nat.le_refl _) hb)
      replace HG := Lib.hid (HG.out.kept hb)
      replace HR := Lib.hid (HR.out.kept hb)
      have HL := Lib.hid (HLR.out wd HG.out HR.out)
      rw [HN.out] at HL
      clear hb hv3 hc3 HC2 HLR
      go_wp2_with fail
      refine HL.out.mono ?_
      rintro e we ⟨rfl, hb⟩
      replace HW := Lib.hid (belowOn HW.out (Nat.le_refl _) hb)
      clear hb HL
      go_wp2
      go_ret
      exact ⟨rfl, HW.out⟩
    | some m =>
      have HN := Lib.hid (HRS.out.2 m hR2)
      rw [hR2] at HC
      clear hR2
      go_wp2_with fail
      refine HC.out.mono ?_
      rintro e wc ⟨v2, rfl, hv2, hc2, hb⟩
      replace hv2 : ListO mkE 49 wc (iv wb.heap.size wc.heap.size) v2 m := hv2
      replace hc2 : CapL v2 m.length := hc2
      obtain ⟨ma, mc, rfl⟩ := hv2.slice
      replace HW := Lib.hid (belowOn HW.out (Nat.le_refl _) hb)
      replace HS := Lib.hid (HS.out.kept hb)
      replace HG := Lib.hid (HG.out.kept hb)
      replace HR := Lib.hid (HR.out.kept hb)
      have HMV := Lib.hid hv2.inS.any
      have hml : m.length ≤ 1048577 := by have := HN.out.2.2.2; omega
      have HC2 := Lib.hid (refreshM_any s _ m _ wc HS.out HFIT.out.1 HFIT.out.2 HMV.out hc2 (fine_ofM HN.out.2.2.1) hml)
      rw [HN.out.2.1] at HC2
      clear hb hv2 hc2 HC
      go_wp2_with fail
      refine HC2.out.mono ?_
      rintro e wd ⟨v3, rfl, hv3, hc3, hb⟩
      replace hv3 : ListO mkE 49 wd (iv wc.heap.size wd.heap.size) v3 m := hv3
      obtain ⟨na, nc, rfl⟩ := hv3.slice
      replace HW := Lib.hid (belowOn HW.out (Nat.le_refl _) hb)
      replace HG := Lib.hid (HG.out.kept hb)
      replace HR := Lib.hid (HR.out.kept hb)
      replace HMV := Lib.hid (HMV.out.kept hb)
      have HL := Lib.hid (free_any g m _ _ wd HG.out HMV.out hgl hml (valsM HSV.out HN.out.2.2.1))
      rw [HN.out.1] at HL
      clear hb hv3 hc3 HC2
      go_wp2_with fail
      refine HL.out.mono ?_
      rintro e we ⟨rfl, hb⟩
      replace HW := Lib.hid (belowOn HW.out (Nat.le_refl _) hb)
      replace HG := Lib.hid (HG.out.kept hb)
      replace HR := Lib.hid (HR.out.kept hb)
      have HL2 := Lib.hid (HLR.out we HG.out HR.out)
      clear hb HL HLR HMV
      generalize mkHB g raw = hb0 at HL2 ⊢
      go_wp2_with fail
      refine HL2.out.mono ?_
      rintro e wf ⟨rfl, hb⟩
      replace HW := Lib.hid (belowOn HW.out (Nat.le_refl _) hb)
      have hee : (hb0 == hb0) = true := by cases hb0 <;> rfl
      clear hb HL2
      go_wp2
      go_ret
      exact ⟨rfl, HW.out⟩
  | some l1 =>
    obtain ⟨ha1, ha2, ha3, ha4⟩ := HAD.out.2 l1 rfl
    have HA3 := Lib.hid ha3
    obtain ⟨q, hq⟩ : ∃ q, (!csB pv ⟨#[97]⟩) = q := ⟨_, rfl⟩
    rw [hq] at ha2
    have HH := Lib.hid ha2
    have HO := Lib.hid (implMarksOk_any l1 _ w6 HV1.out (fine_ofM ha3) (by omega))
    rw [ha1] at HO
    clear HAD ha1 ha2 ha3
    go_wp2_with fail
    refine HO.out.mono ?_
    rintro e w7 ⟨rfl, hb⟩
    replace HY := Lib.hid (HY.out.kept hb)
    replace HW := Lib.hid (belowOn HW.out (Nat.le_refl _) hb)
    replace HS := Lib.hid (HS.out.kept hb)
    replace HG := Lib.hid (HG.out.kept hb)
    replace HV1 := Lib.hid (HV1.out.kept hb)
    have HQ := Lib.hid (free_any g l1 _ _ w7 HG.out HV1.out hgl (by omega) (valsM HSV.out HA3.out))
    rw [HH.out] at HQ
    clear hb HO
    go_wp2_with fail
    refine HQ.out.mono ?_
    rintro e w8 ⟨rfl, hb⟩
    replace HY := Lib.hid (HY.out.kept hb)
    replace HW := Lib.hid (belowOn HW.out (Nat.le_refl _) hb)
    replace HS := Lib.hid (HS.out.kept hb)
    replace HG := Lib.hid (HG.out.kept hb)
    clear hb HQ HV1 HA3 HH
    generalize w8 = w7 at HY HW HS HG ⊢
    have hqq : (q != q) = false := by cases q <;> rfl
    go_wp2_with fail
    refine (makeSize_any a len cap 62 0 3 _ HY.out hl (by decide) (by decide) (by decide) (by decide)).mono ?_
    rintro e w9 ⟨⟨r1, rfl, hr1, hr2⟩, hb⟩
    replace HY := Lib.hid (HY.out.kept hb)
    replace HW := Lib.hid (belowOn HW.out (Nat.le_refl _) hb)
    replace HS := Lib.hid (HS.out.kept hb)
    replace HG := Lib.hid (HG.out.kept hb)
    clear hb
    go_wp2_with fail
    refine (makeSize_any a len cap 63 4 7 _ HY.out hl (by decide) (by decide) (by decide) (by decide)).mono ?_
    rintro e wa ⟨⟨r2, rfl, hr3, hr4⟩, hb⟩
    replace HY := Lib.hid (HY.out.kept hb)
    replace HW := Lib.hid (belowOn HW.out (Nat.le_refl _) hb)
    replace HS := Lib.hid (HS.out.kept hb)
    replace HG := Lib.hid (HG.out.kept hb)
    clear hb
    go_upto_region 10 with (fail)
    have hal : Below wa.heap.size wa (wa.alloc (.cells #[.int .i64 r1, .string ⟨#[98]⟩, .int .i64 r2, .string ⟨#[97]⟩] 49)) := belowAlloc (Below.refl _ _) _
    replace HW := Lib.hid (belowOn HW.out (Nat.le_refl _) hal)
    replace HS := Lib.hid (HS.out.kept hal)
    replace HG := Lib.hid (HG.out.kept hal)
    have HR := Lib.hid (listS_twoM wa ⟨r1, ⟨#[98]⟩⟩ ⟨r2, ⟨#[97]⟩⟩)
    have HRF : Hid (∀ d ∈ ([⟨r1, ⟨#[98]⟩⟩, ⟨r2, ⟨#[97]⟩⟩] : List Mk), FM d) := Lib.hid fun d hd => by
      rcases List.mem_cons.1 hd with rfl | hd
      · exact ⟨⟨by show 0 ≤ r1; omega, by show r1 < 8; omega⟩, by show isName (⟨#[98]⟩ : ByteArray) = true; decide⟩
      · rw [List.mem_singleton] at hd
        subst hd
        exact ⟨⟨by show 0 ≤ r2; omega, by show r2 < 8; omega⟩, by show isName (⟨#[97]⟩ : ByteArray) = true; decide⟩
    have HRA : Hid (AscO ordM ([⟨r1, ⟨#[98]⟩⟩, ⟨r2, ⟨#[97]⟩⟩] : List Mk)) := Lib.hid (List.pairwise_cons.2 ⟨fun d hd => by
      rw [List.mem_singleton] at hd
      subst hd
      exact mkLt_iff.2 (.inl (by show r1 < r2; omega)), List.pairwise_singleton _ _⟩)
    have HRS := Lib.hid (fM_rf HSV.out HRA.out HRF.out (by simp))
    have HRC : Hid (CapL (.slice (some ⟨wa.heap.size, 0, none⟩) 2 2) 2) := Lib.hid (.inr ⟨_, 0, 2, rfl, Nat.le_refl _, by decide⟩)
    clear hal HY
    generalize hwx : wa.alloc (.cells #[.int .i64 r1, .string ⟨#[98]⟩, .int .i64 r2, .string ⟨#[97]⟩] 49) = wb at HW HS HG HR ⊢
    clear hwx
    generalize wa.heap.size = nr at HR HRC ⊢
    have HC := Lib.hid (refreshM_any s _ [⟨r1, ⟨#[98]⟩⟩, ⟨r2, ⟨#[97]⟩⟩] _ wb HS.out HFIT.out.1 HFIT.out.2 HR.out HRC.out (fine_ofM HRF.out) (by simp))
    have HLR := Lib.hid (fun W (h1 : ListS bdE W Any (.slice ga g.length gc) g) (h2 : ListS mkE W Any (.slice (some ⟨nr, 0, none⟩) 2 2) [⟨r1, ⟨#[98]⟩⟩, ⟨r2, ⟨#[97]⟩⟩]) => free_any g [⟨r1, ⟨#[98]⟩⟩, ⟨r2, ⟨#[97]⟩⟩] _ _ W h1 h2 hgl (by simp) (valsM HSV.out HRF.out))
    generalize hraw : ([⟨r1, ⟨#[98]⟩⟩, ⟨r2, ⟨#[97]⟩⟩] : List Mk) = raw at HR HRS HC HLR
    clear hraw HRF HRA
    cases hR2 : rfVM s raw with
    | none =>
      have HN := Lib.hid (HRS.out.1 hR2)
      rw [hR2] at HC
      clear hR2
      go_wp2_with fail
      refine HC.out.mono ?_
      rintro e wc ⟨v2, rfl, hv2, hc2, hb⟩
      replace HW := Lib.hid (belowOn HW.out (Nat.le_refl _) hb)
      replace HS := Lib.hid (HS.out.kept hb)
      replace HG := Lib.hid (HG.out.kept hb)
      replace HR := Lib.hid (HR.out.kept hb)
      have HC2 := Lib.hid (refreshM_any s _ [] _ wc HS.out HFIT.out.1 HFIT.out.2 hv2.inS.any hc2 fineM_nil (by decide))
      clear hb hv2 hc2 HC
      generalize rfVM s [] = R3 at HC2
      go_wp2_with fail
      refine HC2.out.mono ?_
      rintro e wd ⟨v3, rfl, hv3, hc3, hb⟩
      replace HW := Lib.hid (belowOn HW.out (Nat.le_refl _) hb)
      replace HG := Lib.hid (HG.out.kept hb)
      replace HR := Lib.hid (HR.out.kept hb)
      have HL := Lib.hid (HLR.out wd HG.out HR.out)
      rw [HN.out] at HL
      clear hb hv3 hc3 HC2 HLR
      go_wp2_with fail
      refine HL.out.mono ?_
      rintro e we ⟨rfl, hb⟩
      replace HW := Lib.hid (belowOn HW.out (Nat.le_refl _) hb)
      clear hb HL
      go_wp2
      go_ret
      exact ⟨rfl, HW.out⟩
    | some m =>
      have HN := Lib.hid (HRS.out.2 m hR2)
      rw [hR2] at HC
      clear hR2
      go_wp2_with fail
      refine HC.out.mono ?_
      rintro e wc ⟨v2, rfl, hv2, hc2, hb⟩
      replace hv2 : ListO mkE 49 wc (iv wb.heap.size wc.heap.size) v2 m := hv2
      replace hc2 : CapL v2 m.length := hc2
      obtain ⟨ma, mc, rfl⟩ := hv2.slice
      replace HW := Lib.hid (belowOn HW.out (Nat.le_refl _) hb)
      replace HS := Lib.hid (HS.out.kept hb)
      replace HG := Lib.hid (HG.out.kept hb)
      replace HR := Lib.hid (HR.out.kept hb)
      have HMV := Lib.hid hv2.inS.any
      have hml : m.length ≤ 1048577 := by have := HN.out.2.2.2; omega
      have HC2 := Lib.hid (refreshM_any s _ m _ wc HS.out HFIT.out.1 HFIT.out.2 HMV.out hc2 (fine_ofM HN.out.2.2.1) hml)
      rw [HN.out.2.1] at HC2
      clear hb hv2 hc2 HC
      go_wp2_with fail
      refine HC2.out.mono ?_
      rintro e wd ⟨v3, rfl, hv3, hc3, hb⟩
      replace hv3 : ListO mkE 49 wd (iv wc.heap.size wd.heap.size) v3 m := hv3
      obtain ⟨na, nc, rfl⟩ := hv3.slice
      replace HW := Lib.hid (belowOn HW.out (Nat.le_refl _) hb)
      replace HG := Lib.hid (HG.out.kept hb)
      replace HR := Lib.hid (HR.out.kept hb)
      replace HMV := Lib.hid (HMV.out.kept hb)
      have HL := Lib.hid (free_any g m _ _ wd HG.out HMV.out hgl hml (valsM HSV.out HN.out.2.2.1))
      rw [HN.out.1] at HL
      clear hb hv3 hc3 HC2
      go_wp2_with fail
      refine HL.out.mono ?_
      rintro e we ⟨rfl, hb⟩
      replace HW := Lib.hid (belowOn HW.out (Nat.le_refl _) hb)
      replace HG := Lib.hid (HG.out.kept hb)
      replace HR := Lib.hid (HR.out.kept hb)
      have HL2 := Lib.hid (HLR.out we HG.out HR.out)
      clear hb HL HLR HMV
      generalize mkHB g raw = hb0 at HL2 ⊢
      go_wp2_with fail
      refine HL2.out.mono ?_
      rintro e wf ⟨rfl, hb⟩
      replace HW := Lib.hid (belowOn HW.out (Nat.le_refl _) hb)
      have hee : (hb0 == hb0) = true := by cases hb0 <;> rfl
      clear hb HL2
      go_wp2
      go_ret
      exact ⟨rfl, HW.out⟩
end Go.Proofs.Ytnmdnajbafpfiaa
