/-
  The model's AddAbsence.
-/
import Derived.Test.YtnmdnajbafpfiaaGreatSpecMark1
import Derived.Test.YtnmdnajbafpfiaaGreatDemAM
import Derived.Test.YtnmdnajbafpfiaaGreatSpecSubs
import Derived.Test.YtnmdnajbafpfiaaGreatName
namespace Go.Proofs.YtnmdnajbafpfiaaGreat
open Go.RowKit
set_option linter.unusedVariables false
set_option linter.unusedSimpArgs false

def OldM2 (l : List Mk) (b : Bool) (w : World) (e : Ending) (w' : World) : Prop := ∃ v, e = .returned (.tuple #[v, .bool b]) ∧ ListS mkE w' Any v l ∧ Below w.heap.size w w'
theorem mkFit_name {v : Int} {tag : ByteArray} (hv : 0 ≤ v ∧ v ≤ 100000) : mkFitB ⟨v, tag⟩ = isName tag := by
  cases h : isName tag with
  | true => exact mkFit_true.2 ⟨hv, h⟩
  | false => exact mkFit_false.2 fun hh => Bool.false_ne_true (h.symm.trans hh.2)
set_option maxRecDepth 100000 in
set_option maxHeartbeats 4000000 in
theorem specAddAbsence_any (s : List Bd) (Vs : Value) (l : List Mk) (Vl : Value) (t : Tm) (Vt : Value) (tag : ByteArray) (w : World) (hS : ListS bdE w Any Vs s) (hZs : szB s ≤ 1048576) (hA : ListS mkE w Any Vl l) (hV : CapOk Vl l.length) (hFM : fineM l) (hL : l.length ≤ 1048577) (hT : ArgsAt w Vt t.args) (hZ : t.sz ≤ 1048576) (hTg : tag.size ≤ 1048576) :
    Calls Tryz.prog 25 #[Vs, Vl, .agg #[.int .i64 t.kind, .int .i64 t.num, .string t.name, Vt], .string tag] w (OldM2 (amL s l t tag) (amB s l t tag) w) := by
  obtain ⟨i0, hi, hz0, hz1, hz2⟩ := info_parts infoMark
  have HII := Lib.hid (And.intro hi (And.intro hz0 (And.intro hz1 hz2)))
  obtain ⟨ta, tc, rfl⟩ := hT.slice
  have hal : Below w.heap.size w (w.alloc (.cells #[.int .i64 t.kind, .int .i64 t.num, .string t.name, .slice ta t.args.length tc] 38)) := belowAlloc (Below.refl _ _) _
  have HC := Lib.hid (specApplySubst_any s _ t _ (w.alloc (.cells #[.int .i64 t.kind, .int .i64 t.num, .string t.name, .slice ta t.args.length tc] 38)) (hS.kept hal) hZs (hT.kept hal) hZ)
  have HW := Lib.hid hal
  have HA := Lib.hid hA
  have HVC := Lib.hid hV
  have HFM := Lib.hid hFM
  have HTM : Hid (tag.size ≤ maxLen) := Lib.hid (by unfold maxLen; omega)
  have HLB := Lib.hid (am_len s l t tag)
  have HNO : Hid (¬ (apB s t = true ∧ mksB l = true ∧ mkFitB ⟨0, tag⟩ = true) → adVM s l t ⟨0, tag⟩ = none) := Lib.hid adVM_no
  have HYES : Hid (apB s t = true ∧ mksB l = true ∧ mkFitB ⟨0, tag⟩ = true → adVM s l t ⟨0, tag⟩ = (poM [⟨0, tag⟩] (apT s t)).bind (jn ordM l)) := Lib.hid adVM_yes
  have HOK : Hid (apB s t = true → Ok (apT s t) ∧ (apT s t).sz ≤ 1048576) := Lib.hid ap_okTM
  have HFN : Hid (mkFitB ⟨0, tag⟩ = isName tag) := Lib.hid (mkFit_name ⟨Int.le_refl _, by decide⟩)
  unfold amL at HLB
  unfold amL amB
  generalize adVM s l t ⟨0, tag⟩ = R at HNO HYES HLB ⊢
  clear hi hz0 hz1 hz2 hS hA hV hT hal hFM
  go_enter Tryz.func25, Tryz.ntmps25
  go_wp2_with fail
  refine HC.out.mono ?_
  rintro e w1 ⟨u, rfl, hu, hb⟩
  obtain ⟨ua, uc, rfl⟩ := hu.at.slice
  have HU := Lib.hid hu.at
  have HW1 := Lib.hid (HW.out.trans (hb.mono HW.out.size))
  clear hb hu HC
  generalize apT s t = x at HU HYES HOK ⊢
  cases hap : apB s t with
  | false =>
    obtain rfl := HNO.out fun h => by have h1 := h.1; rw [hap] at h1; exact Bool.false_ne_true h1
    clear hap HYES HNO
    go_wp2
    go_ret2
    exact ⟨_, rfl, .nil _ _, HW1.out.alloc HW1.out.size _⟩
  | true =>
    have HAP := Lib.hid hap
    have HXO := Lib.hid (HOK.out hap)
    clear hap HOK
    have hal2 : Below w1.heap.size w1 (w1.alloc (.cells #[.int .i64 x.kind, .int .i64 x.num, .string x.name, .slice ua x.args.length uc] 38)) := belowAlloc (Below.refl _ _) _
    have HBX := Lib.hid (at_box_of w1 #[.int .i64 x.kind, .int .i64 x.num, .string x.name, .slice ua x.args.length uc] 38 w1.heap.size rfl)
    have HW2 := Lib.hid (HW1.out.trans (hal2.mono HW1.out.size))
    have HU2 := Lib.hid (HU.out.kept hal2)
    have HK := Lib.hid (specMarksOk_any l Vl (w1.alloc (.cells #[.int .i64 x.kind, .int .i64 x.num, .string x.name, .slice ua x.args.length uc] 38)) (HA.out.kept HW2.out) HFM.out hL)
    clear hal2
    go_wp2_with fail
    refine HK.out.mono ?_
    rintro e w3 ⟨rfl, hb3⟩
    have HW3 := Lib.hid (HW2.out.trans (hb3.mono HW2.out.size))
    have HB3 := Lib.hid (HBX.out.read hb3)
    have HU3 := Lib.hid (HU2.out.kept hb3)
    obtain ⟨e0, e1, e2, e3⟩ := HB3.out.cells
    clear hb3 HK HBX
    cases hkd : mksB l with
    | false =>
      obtain rfl := HNO.out fun h => Bool.false_ne_true (hkd.symm.trans h.2.1)
      clear hkd HYES HNO
      go_wp2
      go_ret2
      exact ⟨_, rfl, .nil _ _, HW3.out⟩
    | true =>
      have HKD := Lib.hid (mksB_true.1 hkd)
      have HKB := Lib.hid hkd
      have HCN := Lib.hid (specIsName_any tag w3 HTM.out)
      clear hkd
      go_wp2_with fail
      refine HCN.out.mono ?_
      rintro e w4 ⟨rfl, rfl⟩
      clear HCN
      cases hnm : isName tag with
      | false =>
        obtain rfl := HNO.out fun h => by have h1 := h.2.2; rw [HFN.out, hnm] at h1; exact Bool.false_ne_true h1
        clear hnm HYES HNO
        go_wp2
        go_ret2
        exact ⟨_, rfl, .nil _ _, HW3.out⟩
      | true =>
        have HRE := Lib.hid (HYES.out ⟨HAP.out, HKB.out, by rw [HFN.out, hnm]⟩)
        have HC4 := Lib.hid (specMark_any l Vl x (.slice ua x.args.length uc) tag w3 (HA.out.kept HW3.out) (.inr HVC.out) (by omega) (mksP_asc HKD.out) HU3.out HXO.out.2 HXO.out.1 HTM.out)
        rw [← HRE.out] at HC4
        clear hnm HYES HNO
        go_wp2_with fail
        refine HC4.out.mono ?_
        rintro e w4 ⟨u4, rfl, hl4, hc4, hb4⟩
        have HW4 := Lib.hid (HW3.out.trans (hb4.mono HW3.out.size))
        obtain ⟨A4, c4, rfl, hn4, hm4, hz4⟩ := hc4.slice
        obtain ⟨L4, hL4, hn4, hcells4⟩ := hl4.flatCells
        have HCL := Lib.hid hcells4
        have HL4 := Lib.hid hL4
        have HN4 := Lib.hid hn4
        have HA4 := Lib.hid hz4
        clear hb4 HC4 hl4 hcells4 hL4 hc4 hz4 hn4 e0 e1 e2 e3
        cases R with
        | none =>
          go_wp2
          go_ret2
          exact ⟨_, rfl, .nil _ _, HW4.out⟩
        | some r =>
          have HLR : Hid (r.length ≤ l.length + 5000) := Lib.hid HLB.out
          have hrl : r.length ≤ 1053577 := by have := HLR.out; omega
          have HRS := Lib.hid (rowX_start (E := mkE) (e := 92) (w := w4) (lo := w.heap.size) HW4.out.size)
          have HWA : Hid (Below w4.heap.size w4 (w4.alloc (.cells #[] 92))) := Lib.hid (belowAlloc (Below.refl _ _) _)
          have HZ4 := Lib.hid HW4.out.size
          have HL4' : Hid (r = L4.map Prod.fst) := Lib.hid HL4.out
          have HN4' : Hid (L4.length = r.length) := Lib.hid HN4.out
          have HA4' : Hid (A4 = none → r.length = 0 ∧ c4 = 0) := Lib.hid HA4.out
          clear HL4 HN4 HA4 HLB
          simp only [Option.getD_some] at HCL ⊢
          go_wp2_with (at_builtin; refine append_rowY rfl _ _ 51 rfl mkE mkFlat w.heap.size 92 i0 _ 24 Tryz.underlying51 HII.out.1 HII.out.2.1 HII.out.2.2.1 HII.out.2.2.2 rfl (by omega) _ _ rfl HRS.out A4 r.length c4 rfl L4 HN4'.out HA4'.out (HCL.out _ HWA.out) (by simp; omega) (by have := HZ4.out; simp; omega) ?_; intro v5 w5 hown5 hb5; have HO5 := Lib.hid hown5; have HX5 := Lib.hid hb5; clear hown5 hb5)
          go_wp2
          go_ret2
          refine ⟨_, rfl, ?_, (HW4.out.trans (HWA.out.mono HW4.out.size)).trans HX5.out⟩
          have h := HO5.out.list
          rw [List.nil_append, ← HL4'.out] at h
          exact h
end Go.Proofs.YtnmdnajbafpfiaaGreat

