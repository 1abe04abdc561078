/-
  The law of composition (FnCompose), walked over the program's contracts.
-/
import Derived.Test.YtnbnepeikdieaaaGreatDoorComposeRead
import Derived.Test.YtnbnepeikdieaaaGreatDoorImplComp
import Derived.Test.YtnbnepeikdieaaaGreatDoorBindsSame
namespace Go.Proofs.YtnbnepeikdieaaaGreatDoor
open Go.RowKit
set_option linter.unusedVariables false
set_option linter.unusedSimpArgs false

mutual
theorem fine_sz : ∀ t : Tm, t.sz ≤ 1048576 → t.fine
  | .mk k i s l, h => by
    have h1 : s.size + szL l ≤ 1048576 := h
    have h2 := length_szL l
    exact ⟨by unfold maxLen; omega, by unfold maxLen; omega, fineL_sz l (by omega)⟩
theorem fineL_sz : ∀ l : List Tm, szL l ≤ 1048576 → fineL l
  | [], _ => trivial
  | t :: l, h => by
    have h1 : szL (t :: l) = 1 + t.sz + szL l := by simp only [szL]
    exact ⟨fine_sz t (by omega), fineL_sz l (by omega)⟩
end
theorem fit_of {u : List Bd} (h : SubstP u) (hl : u.length ≤ 8) (hn : ∀ b ∈ u, b.t.nodes ≤ 99) : szB u ≤ 1048576 ∧ fineB u := by
  have hz : ∀ b ∈ u, b.t.sz ≤ 2000 := fun b hb => by
    have h1 := good_sz (h.good b hb)
    have h2 := hn b hb
    omega
  have h1 := szB_each hz
  have h2 : u.length * (2000 + 1) ≤ 8 * (2000 + 1) := Nat.mul_le_mul_right _ hl
  refine ⟨by omega, fun b hb => ⟨fine_sz b.t (by have := hz b hb; omega), ?_⟩⟩
  obtain ⟨i, hi⟩ := List.getElem?_of_mem hb
  obtain ⟨hv, _⟩ := h.1.1 i b hi
  exact wfI_of (by omega) (by omega)
section
variable {s t : List Bd} {r : Int} (hs : SubD 4 8 4 11 s) (ht : SubD r 4 r 9 t) (h0 : 0 ≤ r) (h4 : r < 4)
include hs ht h0 h4
theorem com_small : (cmpB s t).length ≤ 8 ∧ ∀ b ∈ cmpB s t, b.t.nodes ≤ 99 := by
  have e := com_is hs ht h0 h4
  have ls := asc_len s 4 (by omega) hs.2 fun b hb => ⟨(hs.1 b hb).1, (hs.1 b hb).2.1⟩
  have lt := asc_len t r (by omega) ht.2 fun b hb => ⟨(ht.1 b hb).1, (ht.1 b hb).2.1⟩
  refine ⟨by rw [e, List.length_append, List.length_map]; omega, fun b hb => ?_⟩
  rw [e, List.mem_append] at hb
  rcases hb with hb | hb
  · have := (ht.1 b hb).2.2.2
    omega
  · obtain ⟨x, hx, rfl⟩ := List.mem_map.1 hb
    exact com_nodes hs ht h0 h4 hx
theorem com_fits : (szB s ≤ 1048576 ∧ fineB s) ∧ (szB t ≤ 1048576 ∧ fineB t) ∧ (szB (cmpB s t) ≤ 1048576 ∧ fineB (cmpB s t)) := by
  have ls := asc_len s 4 (by omega) hs.2 fun b hb => ⟨(hs.1 b hb).1, (hs.1 b hb).2.1⟩
  have lt := asc_len t r (by omega) ht.2 fun b hb => ⟨(ht.1 b hb).1, (ht.1 b hb).2.1⟩
  exact ⟨fit_of (hs.subst (by omega) (by omega) (by omega) (by omega) (by omega)) (by omega) fun b hb => by have := (hs.1 b hb).2.2.2; omega,
    fit_of (ht.subst h0 (by omega) (by omega) (by omega) (by omega)) (by omega) fun b hb => by have := (ht.1 b hb).2.2.2; omega,
    fit_of (com_subst hs ht h0 h4) (com_small hs ht h0 h4).1 (com_small hs ht h0 h4).2⟩
theorem com_good : ∀ b ∈ cmpB s t, Good b.t ∧ b.t.sz ≤ 1048576 := fun b hb => by
  have hg := (com_subst hs ht h0 h4).good b hb
  have h1 := good_sz hg
  have h2 := (com_small hs ht h0 h4).2 b hb
  exact ⟨hg, by omega⟩
end

set_option maxHeartbeats 16000000 in
set_option maxRecDepth 100000 in
theorem walkCompose (w : World) (ht : TabErrs w) (a : Option Addr) (len cap : Nat) (zs : List Int) (hrow : ByteRow w a len cap zs) :
    Calls Tryz.prog 3 #[.slice a len cap] w fun e w' => e = .returned (.bool true) ∧ Below w.heap.size w w' := by
  obtain ⟨hby, hmx⟩ := hrow.bytes
  clear hrow
  unfold maxLen at hmx
  have HTE := Lib.hid ht
  have HY := Lib.hid hby
  clear hby ht
  by_cases h : 1048576 < (len : Int)
  · go_enter Tryz.func3, Tryz.ntmps3
    go_wp2
    go_ret
    exact ⟨rfl, Below.refl _ _⟩
  have hl : len ≤ 1048576 := by omega
  go_enter Tryz.func3, Tryz.ntmps3
  go_wp2_with fail
  refine (makeSubst_any a len cap 0 _ HY.out hl (by decide)).mono ?_
  rintro e w1 ⟨s, us, rfl, hS, hsd, hb⟩
  clear h hmx
  have HW := Lib.hid hb
  replace HY := Lib.hid (HY.out.kept hb)
  have HS := Lib.hid hS
  have HSD := Lib.hid hsd
  clear hb hS hsd
  go_wp2_with fail
  refine (makeLow_any a len cap 20 _ HY.out hl (by decide)).mono ?_
  rintro e w2 ⟨r, hr4, t, ut, rfl, hT2, htd, hb⟩
  replace HS := Lib.hid (HS.out.kept hb)
  replace HY := Lib.hid (HY.out.kept hb)
  replace HW := Lib.hid (belowOn HW.out (Nat.le_refl _) hb)
  have HT2 := Lib.hid hT2
  have HTD := Lib.hid htd
  clear hb hT2 htd
  go_wp2_with fail
  refine (makeTerm_any a len cap 40 8 8 _ HY.out hl (by decide) (by decide) (by decide) (by decide) (by decide)).mono ?_
  rintro e w3 ⟨x, xa, xc, rfl, hx, hgx, hnx, hb⟩
  replace HS := Lib.hid (HS.out.kept hb)
  replace HY := Lib.hid (HY.out.kept hb)
  replace HT2 := Lib.hid (HT2.out.kept hb)
  replace HW := Lib.hid (belowOn HW.out (Nat.le_refl _) hb)
  have HAX := Lib.hid (at_args hx)
  clear hb hx HY
  have HSAID := Lib.hid (com_said HSD.out HTD.out (by omega) (by omega) hgx hnx)
  have HTXT := Lib.hid (com_text HSD.out HTD.out (by omega) (by omega))
  have HSH := Lib.hid (com_short HSD.out HTD.out (by omega) (by omega))
  have HFITS := Lib.hid (com_fits HSD.out HTD.out (by omega) (by omega))
  have hxz : x.sz ≤ 1048576 := by have := good_sz hgx; omega
  have HGB := Lib.hid (com_good HSD.out HTD.out (by omega) (by omega))
  generalize cmpB s t = u at HSAID HTXT HSH HFITS HGB
  clear HSD HTD hgx hnx
  go_upto_region 6 with (fail)
  have hal : Below w3.heap.size w3 (w3.alloc (.cells #[.int .i64 x.kind, .int .i64 x.num, .string x.name, .slice xa x.args.length xc] 27)) := belowAlloc (Below.refl _ _) _
  replace HS := Lib.hid (HS.out.kept hal)
  replace HT2 := Lib.hid (HT2.out.kept hal)
  replace HAX := Lib.hid (HAX.out.read hal)
  replace HW := Lib.hid (belowOn HW.out (Nat.le_refl _) hal)
  have HBX := Lib.hid (at_box w3 #[.int .i64 x.kind, .int .i64 x.num, .string x.name, .slice xa x.args.length xc] 27)
  clear hal
  generalize hwx : w3.alloc (.cells #[.int .i64 x.kind, .int .i64 x.num, .string x.name, .slice xa x.args.length xc] 27) = w4 at HS HT2 HAX HBX HW ⊢
  clear hwx
  have HC := Lib.hid (implComposeSubst_any s us t ut w4 HS.out HFITS.out.1.1 HFITS.out.1.2 HT2.out HFITS.out.2.1.1 HFITS.out.2.1.2)
  rw [HSAID.out.1.1, HSAID.out.1.2] at HC
  go_wp2_with fail
  refine HC.out.mono ?_
  rintro e w5 ⟨uu, rfl, hu, hb⟩
  replace HS := Lib.hid (HS.out.kept hb)
  replace HT2 := Lib.hid (HT2.out.kept hb)
  replace HAX := Lib.hid (HAX.out.read hb)
  replace HBX := Lib.hid (HBX.out.read hb)
  replace HW := Lib.hid (belowOn HW.out (Nat.le_refl _) hb)
  have HU := Lib.hid hu.inS.any
  clear hu hb HC
  have hpz : (putT s x).sz ≤ 1048576 := by have h1 := good_sz HSAID.out.2.2.2.2.2.2.1; have h2 := HSAID.out.2.2.2.2.2.2.2.1; omega
  have HQZ : Hid ((putT t (putT s x)).sz ≤ 1048576 ∧ Good (putT t (putT s x))) := Lib.hid ⟨by have h1 := good_sz HSAID.out.2.2.2.2.2.2.2.2.1; have h2 := HSAID.out.2.2.2.2.2.2.2.2.2; omega, HSAID.out.2.2.2.2.2.2.2.2.1⟩
  have HC := Lib.hid (implApplySubst_any s us x _ w5 HS.out HFITS.out.1.1 HFITS.out.1.2 HAX.out.argsAt hxz)
  rw [HSAID.out.2.2.2.1.1, HSAID.out.2.2.2.1.2] at HC
  obtain ⟨c0, c1, c2, c3⟩ := HBX.out.cells
  have z0 := HBX.out.le
  go_wp2_with fail
  refine HC.out.mono ?_
  rintro e w6 ⟨v, rfl, hn⟩
  obtain ⟨pa, pc, rfl⟩ := hn.1.argsAt.slice
  have hb := hn.2
  clear c0 c1 c2 c3 z0
  replace HS := Lib.hid (HS.out.kept hb)
  replace HT2 := Lib.hid (HT2.out.kept hb)
  replace HAX := Lib.hid (HAX.out.read hb)
  replace HBX := Lib.hid (HBX.out.read hb)
  replace HU := Lib.hid (HU.out.kept hb)
  replace HW := Lib.hid (belowOn HW.out (Nat.le_refl _) hb)
  have HAP := Lib.hid (at_args hn.1.argsAt)
  clear hb hn HC
  obtain ⟨p, hp⟩ : ∃ p, p = putT s x := ⟨_, rfl⟩
  rw [← hp] at HAP HSAID hpz HQZ ⊢
  clear hp
  go_upto_region 8 with (fail)
  have hal : Below w6.heap.size w6 (w6.alloc (.cells #[.int .i64 p.kind, .int .i64 p.num, .string p.name, .slice pa p.args.length pc] 27)) := belowAlloc (Below.refl _ _) _
  replace HS := Lib.hid (HS.out.kept hal)
  replace HT2 := Lib.hid (HT2.out.kept hal)
  replace HAX := Lib.hid (HAX.out.read hal)
  replace HBX := Lib.hid (HBX.out.read hal)
  replace HU := Lib.hid (HU.out.kept hal)
  replace HAP := Lib.hid (HAP.out.read hal)
  replace HW := Lib.hid (belowOn HW.out (Nat.le_refl _) hal)
  have HBP := Lib.hid (at_box w6 #[.int .i64 p.kind, .int .i64 p.num, .string p.name, .slice pa p.args.length pc] 27)
  clear hal
  generalize hwx : w6.alloc (.cells #[.int .i64 p.kind, .int .i64 p.num, .string p.name, .slice pa p.args.length pc] 27) = w7 at HS HT2 HAX HBX HU HAP HBP HW ⊢
  clear hwx
  have HC := Lib.hid (implSubstOk_any u uu w7 HU.out HFITS.out.2.2.1 HFITS.out.2.2.2)
  rw [HSAID.out.2.1] at HC
  go_wp2_with fail
  refine HC.out.mono ?_
  rintro e w8 ⟨rfl, hb⟩
  replace HS := Lib.hid (HS.out.kept hb)
  replace HT2 := Lib.hid (HT2.out.kept hb)
  replace HAX := Lib.hid (HAX.out.read hb)
  replace HBX := Lib.hid (HBX.out.read hb)
  replace HU := Lib.hid (HU.out.kept hb)
  replace HAP := Lib.hid (HAP.out.read hb)
  replace HBP := Lib.hid (HBP.out.read hb)
  replace HW := Lib.hid (belowOn HW.out (Nat.le_refl _) hb)
  clear hb HC
  have HC := Lib.hid (implMoreGeneral_any s us u uu w8 HS.out HFITS.out.1.1 HFITS.out.1.2 HU.out HFITS.out.2.2.1 HFITS.out.2.2.2)
  rw [HSAID.out.2.2.1] at HC
  go_wp2_with fail
  refine HC.out.mono ?_
  rintro e w9 ⟨rfl, hb⟩
  replace HS := Lib.hid (HS.out.kept hb)
  replace HT2 := Lib.hid (HT2.out.kept hb)
  replace HAX := Lib.hid (HAX.out.read hb)
  replace HBX := Lib.hid (HBX.out.read hb)
  replace HU := Lib.hid (HU.out.kept hb)
  replace HAP := Lib.hid (HAP.out.read hb)
  replace HBP := Lib.hid (HBP.out.read hb)
  replace HW := Lib.hid (belowOn HW.out (Nat.le_refl _) hb)
  clear hb HC
  have HC := Lib.hid (implApplySubst_any t ut p _ w9 HT2.out HFITS.out.2.1.1 HFITS.out.2.1.2 HAP.out.argsAt hpz)
  rw [HSAID.out.2.2.2.2.1.1, HSAID.out.2.2.2.2.1.2] at HC
  obtain ⟨c0, c1, c2, c3⟩ := HBP.out.cells
  have z0 := HBP.out.le
  go_wp2_with fail
  refine HC.out.mono ?_
  rintro e w10 ⟨v, rfl, hn⟩
  obtain ⟨qa, qc, rfl⟩ := hn.1.argsAt.slice
  have hb := hn.2
  clear c0 c1 c2 c3 z0
  replace HS := Lib.hid (HS.out.kept hb)
  replace HT2 := Lib.hid (HT2.out.kept hb)
  replace HAX := Lib.hid (HAX.out.read hb)
  replace HBX := Lib.hid (HBX.out.read hb)
  replace HU := Lib.hid (HU.out.kept hb)
  replace HAP := Lib.hid (HAP.out.read hb)
  replace HBP := Lib.hid (HBP.out.read hb)
  replace HW := Lib.hid (belowOn HW.out (Nat.le_refl _) hb)
  have HAQ := Lib.hid (at_args hn.1.argsAt)
  clear hb hn HC
  obtain ⟨q, hq⟩ : ∃ q, q = putT t p := ⟨_, rfl⟩
  rw [← hq] at HAQ HSAID HQZ ⊢
  clear hq
  go_upto_region 11 with (fail)
  have hal : Below w10.heap.size w10 (w10.alloc (.cells #[.int .i64 q.kind, .int .i64 q.num, .string q.name, .slice qa q.args.length qc] 27)) := belowAlloc (Below.refl _ _) _
  replace HS := Lib.hid (HS.out.kept hal)
  replace HT2 := Lib.hid (HT2.out.kept hal)
  replace HAX := Lib.hid (HAX.out.read hal)
  replace HBX := Lib.hid (HBX.out.read hal)
  replace HU := Lib.hid (HU.out.kept hal)
  replace HAP := Lib.hid (HAP.out.read hal)
  replace HBP := Lib.hid (HBP.out.read hal)
  replace HAQ := Lib.hid (HAQ.out.read hal)
  replace HW := Lib.hid (belowOn HW.out (Nat.le_refl _) hal)
  have HBQ := Lib.hid (at_box w10 #[.int .i64 q.kind, .int .i64 q.num, .string q.name, .slice qa q.args.length qc] 27)
  clear hal
  generalize hwx : w10.alloc (.cells #[.int .i64 q.kind, .int .i64 q.num, .string q.name, .slice qa q.args.length qc] 27) = w11 at HS HT2 HAX HBX HU HAP HBP HAQ HBQ HW ⊢
  clear hwx
  have HC := Lib.hid (implApplySubst_any u uu x _ w11 HU.out HFITS.out.2.2.1 HFITS.out.2.2.2 HAX.out.argsAt hxz)
  rw [HSAID.out.2.2.2.2.2.1.1, HSAID.out.2.2.2.2.2.1.2] at HC
  obtain ⟨c0, c1, c2, c3⟩ := HBX.out.cells
  have z0 := HBX.out.le
  go_wp2_with fail
  refine HC.out.mono ?_
  rintro e w12 ⟨v, rfl, hn⟩
  obtain ⟨ra, rc, rfl⟩ := hn.1.argsAt.slice
  have hb := hn.2
  clear c0 c1 c2 c3 z0
  replace HS := Lib.hid (HS.out.kept hb)
  replace HT2 := Lib.hid (HT2.out.kept hb)
  replace HAX := Lib.hid (HAX.out.read hb)
  replace HBX := Lib.hid (HBX.out.read hb)
  replace HU := Lib.hid (HU.out.kept hb)
  replace HAP := Lib.hid (HAP.out.read hb)
  replace HBP := Lib.hid (HBP.out.read hb)
  replace HAQ := Lib.hid (HAQ.out.read hb)
  replace HBQ := Lib.hid (HBQ.out.read hb)
  replace HW := Lib.hid (belowOn HW.out (Nat.le_refl _) hb)
  have HAR := Lib.hid (at_args hn.1.argsAt)
  clear hb hn HC
  go_upto_region 12 with (fail)
  have hal : Below w12.heap.size w12 (w12.alloc (.cells #[.int .i64 q.kind, .int .i64 q.num, .string q.name, .slice ra q.args.length rc] 27)) := belowAlloc (Below.refl _ _) _
  replace HS := Lib.hid (HS.out.kept hal)
  replace HT2 := Lib.hid (HT2.out.kept hal)
  replace HAX := Lib.hid (HAX.out.read hal)
  replace HBX := Lib.hid (HBX.out.read hal)
  replace HU := Lib.hid (HU.out.kept hal)
  replace HAP := Lib.hid (HAP.out.read hal)
  replace HBP := Lib.hid (HBP.out.read hal)
  replace HAQ := Lib.hid (HAQ.out.read hal)
  replace HBQ := Lib.hid (HBQ.out.read hal)
  replace HAR := Lib.hid (HAR.out.read hal)
  replace HW := Lib.hid (belowOn HW.out (Nat.le_refl _) hal)
  have HBR := Lib.hid (at_box w12 #[.int .i64 q.kind, .int .i64 q.num, .string q.name, .slice ra q.args.length rc] 27)
  clear hal
  generalize hwx : w12.alloc (.cells #[.int .i64 q.kind, .int .i64 q.num, .string q.name, .slice ra q.args.length rc] 27) = w13 at HS HT2 HAX HBX HU HAP HBP HAQ HBQ HAR HBR HW ⊢
  clear hwx
  have HC := Lib.hid (implFormatSubst_any u uu w13 (tabErrs_after HTE.out HW.out).1 HU.out HFITS.out.2.2.1 HFITS.out.2.2.2)
  go_wp2_with fail
  refine HC.out.mono ?_
  rintro e w14 ⟨rfl, hb⟩
  replace HS := Lib.hid (HS.out.kept hb)
  replace HT2 := Lib.hid (HT2.out.kept hb)
  replace HAX := Lib.hid (HAX.out.read hb)
  replace HBX := Lib.hid (HBX.out.read hb)
  replace HU := Lib.hid (HU.out.kept hb)
  replace HAP := Lib.hid (HAP.out.read hb)
  replace HBP := Lib.hid (HBP.out.read hb)
  replace HAQ := Lib.hid (HAQ.out.read hb)
  replace HBQ := Lib.hid (HBQ.out.read hb)
  replace HAR := Lib.hid (HAR.out.read hb)
  replace HBR := Lib.hid (HBR.out.read hb)
  replace HW := Lib.hid (belowOn HW.out (Nat.le_refl _) hb)
  clear hb HC
  have HC := Lib.hid (implParseSubst_any (fsB u) w14 (tabErrs_after HTE.out HW.out) (by have := HSH.out; omega))
  rw [HTXT.out.1, HTXT.out.2] at HC
  generalize fsB u = st at HC ⊢
  go_wp2_with fail
  refine HC.out.mono ?_
  rintro e w15 ⟨vt, rfl, hv, hb⟩
  replace HS := Lib.hid (HS.out.kept hb)
  replace HT2 := Lib.hid (HT2.out.kept hb)
  replace HAX := Lib.hid (HAX.out.read hb)
  replace HBX := Lib.hid (HBX.out.read hb)
  replace HU := Lib.hid (HU.out.kept hb)
  replace HAP := Lib.hid (HAP.out.read hb)
  replace HBP := Lib.hid (HBP.out.read hb)
  replace HAQ := Lib.hid (HAQ.out.read hb)
  replace HBQ := Lib.hid (HBQ.out.read hb)
  replace HAR := Lib.hid (HAR.out.read hb)
  replace HBR := Lib.hid (HBR.out.read hb)
  replace HW := Lib.hid (belowOn HW.out (Nat.le_refl _) hb)
  have HV := Lib.hid hv.inS.any
  clear hb hv HC
  have HC := Lib.hid (same_any (q.nodes + 1) q q (.slice qa q.args.length qc) (.slice ra q.args.length rc) w15 (Nat.lt_succ_self _) HAQ.out.argsAt HAR.out.argsAt HQZ.out.1 HQZ.out.1 HQZ.out.2 HQZ.out.2)
  rw [show (q.cmp q == 0) = true from by rw [cmp_self]; rfl] at HC
  obtain ⟨c0, c1, c2, c3⟩ := HBQ.out.cells
  have z0 := HBQ.out.le
  obtain ⟨d0, d1, d2, d3⟩ := HBR.out.cells
  have z1 := HBR.out.le
  go_wp2_with fail
  refine HC.out.mono ?_
  rintro e w16 ⟨rfl, hb⟩
  clear c0 c1 c2 c3 z0 d0 d1 d2 d3 z1
  replace HS := Lib.hid (HS.out.kept hb)
  replace HT2 := Lib.hid (HT2.out.kept hb)
  replace HAX := Lib.hid (HAX.out.read hb)
  replace HBX := Lib.hid (HBX.out.read hb)
  replace HU := Lib.hid (HU.out.kept hb)
  replace HAP := Lib.hid (HAP.out.read hb)
  replace HBP := Lib.hid (HBP.out.read hb)
  replace HAQ := Lib.hid (HAQ.out.read hb)
  replace HBQ := Lib.hid (HBQ.out.read hb)
  replace HAR := Lib.hid (HAR.out.read hb)
  replace HBR := Lib.hid (HBR.out.read hb)
  replace HV := Lib.hid (HV.out.kept hb)
  replace HW := Lib.hid (belowOn HW.out (Nat.le_refl _) hb)
  clear hb HC
  have HC := Lib.hid (binds_any u vt uu w16 HV.out HU.out HGB.out (by have := szB_len u; have := HFITS.out.2.2.1; omega))
  go_wp2_with fail
  refine HC.out.mono ?_
  rintro e w17 ⟨rfl, hb⟩
  replace HS := Lib.hid (HS.out.kept hb)
  replace HT2 := Lib.hid (HT2.out.kept hb)
  replace HAX := Lib.hid (HAX.out.read hb)
  replace HBX := Lib.hid (HBX.out.read hb)
  replace HU := Lib.hid (HU.out.kept hb)
  replace HAP := Lib.hid (HAP.out.read hb)
  replace HBP := Lib.hid (HBP.out.read hb)
  replace HAQ := Lib.hid (HAQ.out.read hb)
  replace HBQ := Lib.hid (HBQ.out.read hb)
  replace HAR := Lib.hid (HAR.out.read hb)
  replace HBR := Lib.hid (HBR.out.read hb)
  replace HV := Lib.hid (HV.out.kept hb)
  replace HW := Lib.hid (belowOn HW.out (Nat.le_refl _) hb)
  clear hb HC
  go_wp2
  go_ret
  exact ⟨rfl, HW.out⟩
end Go.Proofs.YtnbnepeikdieaaaGreatDoor

