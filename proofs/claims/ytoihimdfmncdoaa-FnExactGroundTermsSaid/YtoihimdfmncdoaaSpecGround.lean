/-
  The model's GroundTerms. (Written by wip/tools/gen_specground.py.)
-/
import Derived.Test.YtoihimdfmncdoaaGroundM
import Derived.Test.YtoihimdfmncdoaaSpecCopyAll
namespace Go.Proofs.Ytoihimdfmncdoaa
open Go.RowKit
set_option linter.unusedVariables false
set_option linter.unusedSimpArgs false

set_option maxRecDepth 100000 in
set_option maxHeartbeats 16000000 in
theorem specGroundTerms_e (u : List Tm) (V : Value) (z : Int) (w : World) (hA : ArgsAt w V u) (hE : EachT u) :
    Calls Try.prog 36 #[V, .int .i64 z] w fun e w' => ∃ U, e = .returned U ∧ ArgsAt w' U (gtL u z) ∧ Below w.heap.size w w' := by
  obtain ⟨i0, hi, hz0, hz1, hz2⟩ := info_parts infoTermT
  have HII := Lib.hid (And.intro hi (And.intro hz0 (And.intro hz1 hz2)))
  obtain ⟨a, cap, rfl⟩ := hA.slice
  have HC0 := Lib.hid (specUniverse_e u _ w hA hE)
  have HA := Lib.hid hA
  have hL := hE.1
  obtain ⟨q, hq⟩ : ∃ q, uniB u = q := ⟨_, rfl⟩
  rw [hq] at HC0
  have HQ := Lib.hid hq
  clear hA hE hq hi hz0 hz1 hz2
  go_enter Try.func36, Try.ntmps36
  go_wp2_with fail
  refine HC0.out.mono ?_
  rintro e w1 ⟨rfl, hb⟩
  have HB1 := Lib.hid hb
  clear hb HC0
  cases q with
  | false =>
    have HG : Hid (gtL u z = []) := Lib.hid (gtL_no fun h => uniB_false.1 HQ.out h.1)
    go_wp2
    go_ret
    exact ⟨_, rfl, by rw [HG.out]; exact .nil _ _, HB1.out⟩
  | true =>
    have HU := Lib.hid (uniB_true.1 HQ.out)
    have HC5 := Lib.hid (in5_any z w1)
    clear HQ
    go_wp2_with fail
    refine HC5.out.mono ?_
    rintro e w1' ⟨⟨b, rfl, hb⟩, rfl⟩
    have HBB := Lib.hid hb
    clear hb HC5
    cases b with
    | false =>
      have HG : Hid (gtL u z = []) := Lib.hid (gtL_no fun h => by have := HBB.out.2 h.2; cases this)
      go_wp2
      go_ret
      exact ⟨_, rfl, by rw [HG.out]; exact .nil _ _, HB1.out⟩
    | true =>
      have hz := HBB.out.1 rfl
      obtain ⟨n, rfl⟩ : ∃ n : Nat, z = (n : Int) := ⟨z.toNat, by omega⟩
      have HN : Hid (1 ≤ n ∧ n ≤ 5) := Lib.hid (by omega)
      clear hz HBB
      obtain ⟨g, off, M, hM0, _, hM1, hM2, hM3, hM4⟩ := args_cells HA.out.inS HU.out.1.1
      subst hM0
      have hul : 1 ≤ u.length ∧ u.length ≤ 8 := HU.out.1
      have HM : Hid (M.map Prod.fst = u ∧ M.length = u.length) := Lib.hid ⟨hM1, by rw [← hM1, List.length_map]⟩
      have hal : Below w1.heap.size w1 (w1.alloc (.cells #[] 25)) := belowAlloc (Below.refl _ _) _
      have HBA := Lib.hid (belowOn HB1.out (Nat.le_refl _) hal)
      have HRS := Lib.hid (rowX_start (E := tmE) (e := 25) (w := w1) (lo := w1.heap.size) (Nat.le_refl _))
      have HMC : Hid (∀ j v, (cellsE tmE M)[j]? = some v → (w1.alloc (.cells #[] 25)).cell? ((⟨g, off, none⟩ : Addr).add j) = some v) := Lib.hid fun j v hj => by
        rw [addr_add]
        exact (HBA.out.cell (p := ⟨g, off + j, none⟩) hM3).trans (hM2 j v hj)
      have HMK : Hid (∀ (j : Nat) (p : Tm × Value), M[j]? = some p → tmE.kid (w1.alloc (.cells #[] 25)) (fun b => b < w1.heap.size) p.2 p.1) := Lib.hid fun j p hj => ((hM4 j p hj).frame HBA.out.size fun k hk _ => HBA.out.block k hk).sub fun k hk => Nat.lt_of_lt_of_le hk HB1.out.size
      have HM1 : Hid (∀ v ∈ cellsE tmE M, v.oneCell' = true) := Lib.hid (tm_one fun j p hj => hM4 j p hj)
      clear hM1 hM2 hM3 hM4 hal
      go_upto_region 4 with (at_builtin; refine append_rowX rfl _ _ 23 rfl tmE w1.heap.size 25 i0 _ 56 Try.underlying23 HII.out.1 HII.out.2.1 HII.out.2.2.1 HII.out.2.2.2 rfl (by omega) _ _ rfl HRS.out (some ⟨g, off, none⟩) u.length cap rfl M HM.out.2 (fun h => by cases h) (fun ad h j v hj => by cases h; exact HMC.out j v hj) HM1.out HMK.out (by simp; omega) (by simp) ?_; intro lv0 w2 hr2 hb2; have HR2 := Lib.hid hr2; have HB2 := Lib.hid hb2; clear hr2 hb2)
      have HO0 : Hid (OwnX w2 lv0 (putsT u [])) := Lib.hid (by
        refine ⟨w1.heap.size, by have := HB2.out.size; simp at this; omega, ?_⟩
        have h := HR2.out
        rw [List.nil_append, HM.out.1] at h
        exact h)
      have HBW0 : Hid (Below w.heap.size w w2) := Lib.hid (HBA.out.trans (HB2.out.mono HB1.out.size))
      clear HR2 HB2 HRS HMC HMK HM1 HM HBA HB1
      obtain ⟨la0, lc0, hlv⟩ := HO0.out.at.slice
      subst hlv
      by_cases h3 : 3 ≤ n
      case neg =>
        have h3I : ¬ (3 : Int) ≤ (n : Int) := by omega
        have h5I : ¬ (5 : Int) ≤ (n : Int) := by omega
        have HO := HO0
        have HBW := HBW0
        have HN3 := Lib.hid h3
        clear HO0 HBW0 h3
        have HSE0 : Hid (gtS u n = putsT u []) := Lib.hid (by rw [mS_eq HU.out HN.out]; unfold mS; rw [if_neg HN3.out, if_neg (fun h => HN3.out (by omega))]; rfl)
        have HSL0 : Hid ((∀ t ∈ putsT u [], t.sz ≤ 1048576) ∧ (putsT u []).length ≤ 4000) := Lib.hid (by
          have hn := HN.out
          rw [← HSE0.out]
          have e := mS_eq HU.out hn
          rw [e]
          refine ⟨fun t ht => ?_, ?_⟩
          · rcases mem_mS.1 ht with h | ⟨_, h⟩ | ⟨_, h⟩
            · have := uni_sz HU.out t h; omega
            · exact ((t2_ok HU.out _).1 t h).2
            · exact ((t3_ok HU.out _).1 t h).2
          · have h1 := putsT_le ((if 3 ≤ n then t2 u u.length else []) ++ (if 5 ≤ n then t3 u u.length else [])) u
            have h2 := (t2_ok HU.out u.length).2
            have h3 := (t3_ok HU.out u.length).2
            have h4 := HU.out.1.2
            rw [List.length_append] at h1
            have h5 : (if 3 ≤ n then t2 u u.length else []).length ≤ 64 := by
              split
              · exact h2
              · simp
            have h6 : (if 5 ≤ n then t3 u u.length else []).length ≤ 1024 := by
              split
              · exact h3
              · simp
            unfold mS
            omega)
        obtain ⟨S, hS⟩ : ∃ S, putsT u [] = S := ⟨_, rfl⟩
        rw [hS] at HSE0 HSL0 HO ⊢
        have HSE := HSE0
        have HSL := HSL0
        clear hS HSE0 HSL0
        have hSl := HSL.out.2
        by_cases h512 : S.length ≤ 512
        case neg =>
          have h5 : (512 : Int) < (S.length : Int) := by omega
          have HG : Hid (gtL u n = []) := Lib.hid (gtL_bad fun hk => h512 (by rw [← HSE.out]; exact hk.1))
          clear h512 HO
          go_wp2
          go_ret
          exact ⟨_, rfl, by rw [HG.out]; exact .nil _ _, HBW.out⟩
        case pos =>
          have h5 : ¬ (512 : Int) < (S.length : Int) := by omega
          go_wp2
          go_loopw [92] (fun iv wr => ∃ k : Nat, k ≤ S.length ∧ iv = .int .i64 k ∧ Hid (∀ (i : Nat) (x : Tm), i < k → S[i]? = some x → Ok x) ∧ Hid (Below w2.heap.size w2 wr)) (fun iv _ => S.length - (intOf iv).toNat)
          case atStart => exact ⟨0, Nat.zero_le _, rfl, Lib.hid (fun i x hi => absurd hi (Nat.not_lt_zero _)), Lib.hid (Below.refl _ _)⟩
          case round =>
            obtain ⟨k, hk, rfl, HV, HB⟩ := hrel
            by_cases hlt : k < S.length
            · have hltI : (k : Int) < (S.length : Int) := by omega
              obtain ⟨y, hy⟩ : ∃ y, S[k]? = some y := ⟨_, List.getElem?_eq_getElem hlt⟩
              obtain ⟨gy, offy, y1, y2, heq, hgy, hqy, hcy, huy⟩ := HO.out.at.elem hy
              obtain ⟨dy0, dy1, dy2, dy3⟩ := hcy _ HB.out
              have hgwy : gy < wr.heap.size := Nat.lt_of_lt_of_le hgy HB.out.size
              have HUy := Lib.hid (huy.kept HB.out)
              have HY := Lib.hid hy
              have HYZ := Lib.hid (HSL.out.1 y (List.mem_of_getElem? hy))
              subst heq
              clear hy hqy hcy huy
              go_upto_region 34 with (fail)
              have hal : Below wr.heap.size wr (wr.alloc (.cells #[.int .i64 y.kind, .int .i64 y.num, .string y.name, .slice y1 y.args.length y2] 25)) := belowAlloc (Below.refl _ _) _
              have HBXY := Lib.hid (at_box_of wr #[.int .i64 y.kind, .int .i64 y.num, .string y.name, .slice y1 y.args.length y2] 25 wr.heap.size rfl)
              replace HUy := Lib.hid (HUy.out.kept hal)
              replace HB := Lib.hid (belowOn HB.out (Nat.le_refl _) hal)
              clear hal dy0 dy1 dy2 dy3 hgwy
              generalize hw1 : wr.alloc (.cells #[.int .i64 y.kind, .int .i64 y.num, .string y.name, .slice y1 y.args.length y2] 25) = w8 at HBXY HUy HB ⊢
              clear hw1
              generalize wr.heap.size = ny at HBXY ⊢
              obtain ⟨b0, b1, b2, b3⟩ := HBXY.out.cells
              have HC := Lib.hid (specTermOk_any y _ w8 HUy.out HYZ.out)
              go_wp2_with fail
              refine HC.out.mono ?_
              rintro e w9 ⟨rfl, hb9⟩
              have HB9 := Lib.hid (belowOn HB.out (Nat.le_refl _) hb9)
              obtain ⟨q, hq⟩ : ∃ q, okB y = q := ⟨_, rfl⟩
              rw [hq]
              have HQ := Lib.hid hq
              clear hq hb9 HC b0 b1 b2 b3 HBXY HUy HB
              cases q with
              | false =>
                have HG : Hid (gtL u n = []) := Lib.hid (gtL_bad fun hk => okB_false.1 HQ.out (hk.2 y (by rw [HSE.out]; exact List.mem_of_getElem? HY.out)))
                have HF := Lib.hid (belowOn HBW.out (Nat.le_refl _) HB9.out)
                go_wp2
                go_ret
                exact ⟨_, rfl, by rw [HG.out]; exact .nil _ _, HF.out⟩
              | true =>
                have HOY := Lib.hid (okB_true.1 HQ.out)
                go_wp2
                go_roundw
                case rel =>
                  refine ⟨k + 1, by omega, by go_num, Lib.hid fun i z hi hz => ?_, HB9⟩
                  by_cases q : i = k
                  · subst q
                    cases hz.symm.trans HY.out
                    exact HOY.out
                  · exact HV.out i z (by omega) hz
                case measure => simp [intOf]; omega
            · obtain rfl : k = S.length := by omega
              have HOK : Hid (OkS S) := Lib.hid ⟨h512, fun t ht => by
                obtain ⟨i, hi⟩ := List.getElem?_of_mem ht
                exact HV.out i t (List.getElem?_eq_some_iff.1 hi).1 hi⟩
              have HC := Lib.hid (specCopyAll_any S _ wr (HO.out.at.kept HB.out) (okS_each HOK.out))
              have HG : Hid (gtL u n = S) := Lib.hid (by rw [gtL_yes HU.out HN.out (by rw [HSE.out]; exact HOK.out), HSE.out])
              clear hlt
              go_wp2_with fail
              refine HC.out.mono ?_
              rintro e w9 ⟨U, rfl, hU, hb⟩
              have HUU := Lib.hid hU
              have HF := Lib.hid (belowOn (belowOn HBW.out (Nat.le_refl _) HB.out) (Nat.le_refl _) hb)
              clear hU hb HC
              go_wp2
              go_ret
              exact ⟨_, rfl, by rw [HG.out]; exact HUU.out, HF.out⟩
      case pos =>
        have h3I : (3 : Int) ≤ (n : Int) := by omega
        have HN3 := Lib.hid h3
        clear h3
        by_cases h5 : 5 ≤ n
        case neg =>
          have h5I : ¬ (5 : Int) ≤ (n : Int) := by omega
          have HN5 := Lib.hid h5
          clear h5
          go_wp2
          go_loopw [5, 33] (fun lv iv wr => ∃ i : Nat, i ≤ u.length ∧ iv = .int .i64 i ∧ Hid (OwnX wr lv (putsT u (t2 u i))) ∧ Hid (Below w.heap.size w wr)) (fun _ iv _ => u.length - (intOf iv).toNat)
          case atStart => exact ⟨0, Nat.zero_le _, rfl, HO0, HBW0⟩
          case round =>
            obtain ⟨i, hi, rfl, HO, HBW⟩ := hrel
            obtain ⟨la, lc, hlv⟩ := HO.out.at.slice
            subst hlv
            clear HO0 HBW0
            by_cases hlt : i < u.length
            · have hltI : (i : Int) < (u.length : Int) := by omega
              obtain ⟨ta, hta⟩ : ∃ ta, u[i]? = some ta := ⟨_, List.getElem?_eq_getElem (by omega)⟩
              obtain ⟨gta, offta, ta1, ta2, heta, hgta, hqta, hcta, huta⟩ := HA.out.elem hta
              obtain ⟨dta0, dta1, dta2, dta3⟩ := hcta _ HBW.out
              have hgwta : gta < wr.heap.size := Nat.lt_of_lt_of_le hgta HBW.out.size
              have HUta := Lib.hid (huta.kept HBW.out)
              have HMta := Lib.hid (List.mem_of_getElem? hta)
              have HEta := Lib.hid hta
              clear hqta hcta huta hta
              simp only [Option.some.injEq, Addr.mk.injEq, and_true] at heta
              obtain ⟨rfl, rfl⟩ := heta
              go_upto_region 8 with (fail)
              have halta : Below wr.heap.size wr (wr.alloc (.cells #[.int .i64 ta.kind, .int .i64 ta.num, .string ta.name, .slice ta1 ta.args.length ta2] 25)) := belowAlloc (Below.refl _ _) _
              have HBXta := Lib.hid (at_box_of wr #[.int .i64 ta.kind, .int .i64 ta.num, .string ta.name, .slice ta1 ta.args.length ta2] 25 wr.heap.size rfl)
              replace HBW := Lib.hid (belowOn HBW.out (Nat.le_refl _) halta)
              replace HO := Lib.hid (HO.out.kept halta)
              replace HUta := Lib.hid (HUta.out.kept halta)
              clear halta dta0 dta1 dta2 dta3 hgwta
              generalize hwta : wr.alloc (.cells #[.int .i64 ta.kind, .int .i64 ta.num, .string ta.name, .slice ta1 ta.args.length ta2] 25) = w5 at HBXta HBW HO HUta ⊢
              clear hwta
              obtain ⟨na, hnta⟩ : ∃ m : Nat, m = wr.heap.size := ⟨_, rfl⟩
              rw [← hnta] at HBXta ⊢
              clear hnta
              have HO5 : Hid (OwnX w5 (.slice la (putsT u (t2 u i)).length lc) (putsT u (t2 u i ++ row2 u ta 0))) := Lib.hid (by rw [show t2 u i ++ row2 u ta 0 = t2 u i from List.append_nil _]; exact HO.out)
              have hwI := HBW.out.size
              go_wp2
              go_loopw [5, 39] (fun lv iv wr => ∃ j : Nat, j ≤ u.length ∧ iv = .int .i64 j ∧ Hid (OwnX wr lv (putsT u (t2 u i ++ row2 u ta j))) ∧ Hid (Below w5.heap.size w5 wr)) (fun _ iv _ => u.length - (intOf iv).toNat)
              case atStart => exact ⟨0, Nat.zero_le _, rfl, HO5, Lib.hid (Below.refl _ _)⟩
              case round =>
                obtain ⟨j, hj, rfl, HOj, HBj⟩ := hrel
                obtain ⟨la2, lc2, hlv⟩ := HOj.out.at.slice
                subst hlv
                clear HO5 HO
                have HBWj := Lib.hid (belowOn HBW.out (Nat.le_refl _) HBj.out)
                have HBXa := Lib.hid (HBXta.out.read HBj.out)
                have HUa := Lib.hid (HUta.out.kept HBj.out)
                by_cases hltj : j < u.length
                · have hltJ : (j : Int) < (u.length : Int) := by omega
                  obtain ⟨tb, htb⟩ : ∃ tb, u[j]? = some tb := ⟨_, List.getElem?_eq_getElem (by omega)⟩
                  obtain ⟨gtb, offtb, tb1, tb2, hetb, hgtb, hqtb, hctb, hutb⟩ := HA.out.elem htb
                  obtain ⟨dtb0, dtb1, dtb2, dtb3⟩ := hctb _ HBWj.out
                  have hgwtb : gtb < wr.heap.size := Nat.lt_of_lt_of_le hgtb HBWj.out.size
                  have HUtb := Lib.hid (hutb.kept HBWj.out)
                  have HMtb := Lib.hid (List.mem_of_getElem? htb)
                  have HEtb := Lib.hid htb
                  clear hqtb hctb hutb htb
                  simp only [Option.some.injEq, Addr.mk.injEq, and_true] at hetb
                  obtain ⟨rfl, rfl⟩ := hetb
                  go_upto_region 11 with (fail)
                  have haltb : Below wr.heap.size wr (wr.alloc (.cells #[.int .i64 tb.kind, .int .i64 tb.num, .string tb.name, .slice tb1 tb.args.length tb2] 25)) := belowAlloc (Below.refl _ _) _
                  have HBXtb := Lib.hid (at_box_of wr #[.int .i64 tb.kind, .int .i64 tb.num, .string tb.name, .slice tb1 tb.args.length tb2] 25 wr.heap.size rfl)
                  replace HBj := Lib.hid (belowOn HBj.out (Nat.le_refl _) haltb)
                  replace HOj := Lib.hid (HOj.out.kept haltb)
                  replace HUa := Lib.hid (HUa.out.kept haltb)
                  replace HUtb := Lib.hid (HUtb.out.kept haltb)
                  replace HBXa := Lib.hid (HBXa.out.read haltb)
                  clear haltb dtb0 dtb1 dtb2 dtb3 hgwtb
                  generalize hwtb : wr.alloc (.cells #[.int .i64 tb.kind, .int .i64 tb.num, .string tb.name, .slice tb1 tb.args.length tb2] 25) = w7 at HBXtb HBj HOj HUa HUtb HBXa ⊢
                  clear hwtb
                  obtain ⟨nb, hntb⟩ : ∃ m : Nat, m = wr.heap.size := ⟨_, rfl⟩
                  rw [← hntb] at HBXtb ⊢
                  clear hntb
                  obtain ⟨a0, a1, a2, a3⟩ := HBXa.out.cells
                  obtain ⟨b0, b1, b2, b3⟩ := HBXtb.out.cells
                  have za := HBXa.out.le
                  have zb := HBXtb.out.le
                  have HP := Lib.hid (specPairT_any ta tb _ _ _ _ w7 HUa.out HUtb.out)
                  have HTS : Hid (TsOk u (t2 u i ++ row2 u ta j)) := Lib.hid (by
                    have h1 := t2_ok HU.out i
                    have h2 := row2_ok HU.out HMta.out j
                    exact ⟨fun t ht => (List.mem_append.1 ht).elim (h1.1 t) (h2.1 t), by rw [List.length_append]; omega⟩)
                  go_wp2_with fail
                  refine HP.out.mono ?_
                  rintro e w8 ⟨gp, rfl, hp8, hb8⟩
                  have HI := Lib.hid (specPut8_any HU.out _ HTS.out (.slice la2 (putsT u (t2 u i ++ row2 u ta j)).length lc2) (pairT ta tb) (.slice (some ⟨gp, 0, none⟩) 2 2) w8 (HOj.out.kept hb8) hp8 (tb_pairs HU.out HMta.out HMtb.out))
                  have HB8 := Lib.hid (belowOn HBj.out (Nat.le_refl _) hb8)
                  clear HP hp8 hb8 a0 a1 a2 a3 b0 b1 b2 b3 za zb HBXa HBXtb HUa HUtb HOj HBj HBWj
                  go_wp2_with fail
                  refine HI.out.mono ?_
                  rintro e w9 ⟨U, rfl, hU, hb9⟩
                  have HO9 : Hid (OwnX w9 U (putsT u (t2 u i ++ row2 u ta (j + 1)))) := Lib.hid (by rw [row2_succ HEtb.out, ← List.append_assoc]; exact hU)
                  have HB9 := Lib.hid (belowOn HB8.out (Nat.le_refl _) hb9)
                  clear HI hU hb9 HB8
                  go_wp2
                  go_roundw
                  case rel => exact ⟨j + 1, by omega, by go_num, HO9, HB9⟩
                  case measure => simp [intOf]; omega
                · obtain rfl : j = u.length := by omega
                  have HOE : Hid (OwnX wr (.slice la2 (putsT u (t2 u i ++ row2 u ta u.length)).length lc2) (putsT u (t2 u (i + 1)))) := Lib.hid (by rw [t2_succ HEta.out]; exact HOj.out)
                  clear HOj HBXa HUa
                  go_wp2
                  go_roundw
                  case rel => exact ⟨i + 1, by omega, by go_num, HOE, HBWj⟩
                  case measure => simp [intOf]; omega
            · obtain rfl : i = u.length := by omega
              have HSE0 : Hid (gtS u n = putsT u (t2 u u.length)) := Lib.hid (by rw [mS_eq HU.out HN.out]; unfold mS; rw [if_pos HN3.out, if_neg HN5.out, List.append_nil])
              have HSL0 : Hid ((∀ t ∈ putsT u (t2 u u.length), t.sz ≤ 1048576) ∧ (putsT u (t2 u u.length)).length ≤ 4000) := Lib.hid (by
                have hn := HN.out
                rw [← HSE0.out]
                have e := mS_eq HU.out hn
                rw [e]
                refine ⟨fun t ht => ?_, ?_⟩
                · rcases mem_mS.1 ht with h | ⟨_, h⟩ | ⟨_, h⟩
                  · have := uni_sz HU.out t h; omega
                  · exact ((t2_ok HU.out _).1 t h).2
                  · exact ((t3_ok HU.out _).1 t h).2
                · have h1 := putsT_le ((if 3 ≤ n then t2 u u.length else []) ++ (if 5 ≤ n then t3 u u.length else [])) u
                  have h2 := (t2_ok HU.out u.length).2
                  have h3 := (t3_ok HU.out u.length).2
                  have h4 := HU.out.1.2
                  rw [List.length_append] at h1
                  have h5 : (if 3 ≤ n then t2 u u.length else []).length ≤ 64 := by
                    split
                    · exact h2
                    · simp
                  have h6 : (if 5 ≤ n then t3 u u.length else []).length ≤ 1024 := by
                    split
                    · exact h3
                    · simp
                  unfold mS
                  omega)
              obtain ⟨S, hS⟩ : ∃ S, putsT u (t2 u u.length) = S := ⟨_, rfl⟩
              rw [hS] at HSE0 HSL0 HO ⊢
              have HSE := HSE0
              have HSL := HSL0
              clear hS HSE0 HSL0
              generalize hwF : wr = wF at HO HBW ⊢
              clear hwF
              have hSl := HSL.out.2
              by_cases h512 : S.length ≤ 512
              case neg =>
                have h5 : (512 : Int) < (S.length : Int) := by omega
                have HG : Hid (gtL u n = []) := Lib.hid (gtL_bad fun hk => h512 (by rw [← HSE.out]; exact hk.1))
                clear h512 HO
                go_wp2
                go_ret
                exact ⟨_, rfl, by rw [HG.out]; exact .nil _ _, HBW.out⟩
              case pos =>
                have h5 : ¬ (512 : Int) < (S.length : Int) := by omega
                go_wp2
                go_loopw [92] (fun iv wr => ∃ k : Nat, k ≤ S.length ∧ iv = .int .i64 k ∧ Hid (∀ (i : Nat) (x : Tm), i < k → S[i]? = some x → Ok x) ∧ Hid (Below wF.heap.size wF wr)) (fun iv _ => S.length - (intOf iv).toNat)
                case atStart => exact ⟨0, Nat.zero_le _, rfl, Lib.hid (fun i x hi => absurd hi (Nat.not_lt_zero _)), Lib.hid (Below.refl _ _)⟩
                case round =>
                  obtain ⟨k, hk, rfl, HV, HB⟩ := hrel
                  by_cases hlt : k < S.length
                  · have hltI : (k : Int) < (S.length : Int) := by omega
                    obtain ⟨y, hy⟩ : ∃ y, S[k]? = some y := ⟨_, List.getElem?_eq_getElem hlt⟩
                    obtain ⟨gy, offy, y1, y2, heq, hgy, hqy, hcy, huy⟩ := HO.out.at.elem hy
                    obtain ⟨dy0, dy1, dy2, dy3⟩ := hcy _ HB.out
                    have hgwy : gy < wr.heap.size := Nat.lt_of_lt_of_le hgy HB.out.size
                    have HUy := Lib.hid (huy.kept HB.out)
                    have HY := Lib.hid hy
                    have HYZ := Lib.hid (HSL.out.1 y (List.mem_of_getElem? hy))
                    subst heq
                    clear hy hqy hcy huy
                    go_upto_region 34 with (fail)
                    have hal : Below wr.heap.size wr (wr.alloc (.cells #[.int .i64 y.kind, .int .i64 y.num, .string y.name, .slice y1 y.args.length y2] 25)) := belowAlloc (Below.refl _ _) _
                    have HBXY := Lib.hid (at_box_of wr #[.int .i64 y.kind, .int .i64 y.num, .string y.name, .slice y1 y.args.length y2] 25 wr.heap.size rfl)
                    replace HUy := Lib.hid (HUy.out.kept hal)
                    replace HB := Lib.hid (belowOn HB.out (Nat.le_refl _) hal)
                    clear hal dy0 dy1 dy2 dy3 hgwy
                    generalize hw1 : wr.alloc (.cells #[.int .i64 y.kind, .int .i64 y.num, .string y.name, .slice y1 y.args.length y2] 25) = w8 at HBXY HUy HB ⊢
                    clear hw1
                    generalize wr.heap.size = ny at HBXY ⊢
                    obtain ⟨b0, b1, b2, b3⟩ := HBXY.out.cells
                    have HC := Lib.hid (specTermOk_any y _ w8 HUy.out HYZ.out)
                    go_wp2_with fail
                    refine HC.out.mono ?_
                    rintro e w9 ⟨rfl, hb9⟩
                    have HB9 := Lib.hid (belowOn HB.out (Nat.le_refl _) hb9)
                    obtain ⟨q, hq⟩ : ∃ q, okB y = q := ⟨_, rfl⟩
                    rw [hq]
                    have HQ := Lib.hid hq
                    clear hq hb9 HC b0 b1 b2 b3 HBXY HUy HB
                    cases q with
                    | false =>
                      have HG : Hid (gtL u n = []) := Lib.hid (gtL_bad fun hk => okB_false.1 HQ.out (hk.2 y (by rw [HSE.out]; exact List.mem_of_getElem? HY.out)))
                      have HF := Lib.hid (belowOn HBW.out (Nat.le_refl _) HB9.out)
                      go_wp2
                      go_ret
                      exact ⟨_, rfl, by rw [HG.out]; exact .nil _ _, HF.out⟩
                    | true =>
                      have HOY := Lib.hid (okB_true.1 HQ.out)
                      go_wp2
                      go_roundw
                      case rel =>
                        refine ⟨k + 1, by omega, by go_num, Lib.hid fun i z hi hz => ?_, HB9⟩
                        by_cases q : i = k
                        · subst q
                          cases hz.symm.trans HY.out
                          exact HOY.out
                        · exact HV.out i z (by omega) hz
                      case measure => simp [intOf]; omega
                  · obtain rfl : k = S.length := by omega
                    have HOK : Hid (OkS S) := Lib.hid ⟨h512, fun t ht => by
                      obtain ⟨i, hi⟩ := List.getElem?_of_mem ht
                      exact HV.out i t (List.getElem?_eq_some_iff.1 hi).1 hi⟩
                    have HC := Lib.hid (specCopyAll_any S _ wr (HO.out.at.kept HB.out) (okS_each HOK.out))
                    have HG : Hid (gtL u n = S) := Lib.hid (by rw [gtL_yes HU.out HN.out (by rw [HSE.out]; exact HOK.out), HSE.out])
                    clear hlt
                    go_wp2_with fail
                    refine HC.out.mono ?_
                    rintro e w9 ⟨U, rfl, hU, hb⟩
                    have HUU := Lib.hid hU
                    have HF := Lib.hid (belowOn (belowOn HBW.out (Nat.le_refl _) HB.out) (Nat.le_refl _) hb)
                    clear hU hb HC
                    go_wp2
                    go_ret
                    exact ⟨_, rfl, by rw [HG.out]; exact HUU.out, HF.out⟩
        case pos =>
          have h5I : (5 : Int) ≤ (n : Int) := by omega
          have HN5 := Lib.hid h5
          clear h5
          go_wp2
          go_loopw [5, 33] (fun lv iv wr => ∃ i : Nat, i ≤ u.length ∧ iv = .int .i64 i ∧ Hid (OwnX wr lv (putsT u (t2 u i))) ∧ Hid (Below w.heap.size w wr)) (fun _ iv _ => u.length - (intOf iv).toNat)
          case atStart => exact ⟨0, Nat.zero_le _, rfl, HO0, HBW0⟩
          case round =>
            obtain ⟨i, hi, rfl, HO, HBW⟩ := hrel
            obtain ⟨la, lc, hlv⟩ := HO.out.at.slice
            subst hlv
            clear HO0 HBW0
            by_cases hlt : i < u.length
            · have hltI : (i : Int) < (u.length : Int) := by omega
              obtain ⟨ta, hta⟩ : ∃ ta, u[i]? = some ta := ⟨_, List.getElem?_eq_getElem (by omega)⟩
              obtain ⟨gta, offta, ta1, ta2, heta, hgta, hqta, hcta, huta⟩ := HA.out.elem hta
              obtain ⟨dta0, dta1, dta2, dta3⟩ := hcta _ HBW.out
              have hgwta : gta < wr.heap.size := Nat.lt_of_lt_of_le hgta HBW.out.size
              have HUta := Lib.hid (huta.kept HBW.out)
              have HMta := Lib.hid (List.mem_of_getElem? hta)
              have HEta := Lib.hid hta
              clear hqta hcta huta hta
              simp only [Option.some.injEq, Addr.mk.injEq, and_true] at heta
              obtain ⟨rfl, rfl⟩ := heta
              go_upto_region 8 with (fail)
              have halta : Below wr.heap.size wr (wr.alloc (.cells #[.int .i64 ta.kind, .int .i64 ta.num, .string ta.name, .slice ta1 ta.args.length ta2] 25)) := belowAlloc (Below.refl _ _) _
              have HBXta := Lib.hid (at_box_of wr #[.int .i64 ta.kind, .int .i64 ta.num, .string ta.name, .slice ta1 ta.args.length ta2] 25 wr.heap.size rfl)
              replace HBW := Lib.hid (belowOn HBW.out (Nat.le_refl _) halta)
              replace HO := Lib.hid (HO.out.kept halta)
              replace HUta := Lib.hid (HUta.out.kept halta)
              clear halta dta0 dta1 dta2 dta3 hgwta
              generalize hwta : wr.alloc (.cells #[.int .i64 ta.kind, .int .i64 ta.num, .string ta.name, .slice ta1 ta.args.length ta2] 25) = w5 at HBXta HBW HO HUta ⊢
              clear hwta
              obtain ⟨na, hnta⟩ : ∃ m : Nat, m = wr.heap.size := ⟨_, rfl⟩
              rw [← hnta] at HBXta ⊢
              clear hnta
              have HO5 : Hid (OwnX w5 (.slice la (putsT u (t2 u i)).length lc) (putsT u (t2 u i ++ row2 u ta 0))) := Lib.hid (by rw [show t2 u i ++ row2 u ta 0 = t2 u i from List.append_nil _]; exact HO.out)
              have hwI := HBW.out.size
              go_wp2
              go_loopw [5, 39] (fun lv iv wr => ∃ j : Nat, j ≤ u.length ∧ iv = .int .i64 j ∧ Hid (OwnX wr lv (putsT u (t2 u i ++ row2 u ta j))) ∧ Hid (Below w5.heap.size w5 wr)) (fun _ iv _ => u.length - (intOf iv).toNat)
              case atStart => exact ⟨0, Nat.zero_le _, rfl, HO5, Lib.hid (Below.refl _ _)⟩
              case round =>
                obtain ⟨j, hj, rfl, HOj, HBj⟩ := hrel
                obtain ⟨la2, lc2, hlv⟩ := HOj.out.at.slice
                subst hlv
                clear HO5 HO
                have HBWj := Lib.hid (belowOn HBW.out (Nat.le_refl _) HBj.out)
                have HBXa := Lib.hid (HBXta.out.read HBj.out)
                have HUa := Lib.hid (HUta.out.kept HBj.out)
                by_cases hltj : j < u.length
                · have hltJ : (j : Int) < (u.length : Int) := by omega
                  obtain ⟨tb, htb⟩ : ∃ tb, u[j]? = some tb := ⟨_, List.getElem?_eq_getElem (by omega)⟩
                  obtain ⟨gtb, offtb, tb1, tb2, hetb, hgtb, hqtb, hctb, hutb⟩ := HA.out.elem htb
                  obtain ⟨dtb0, dtb1, dtb2, dtb3⟩ := hctb _ HBWj.out
                  have hgwtb : gtb < wr.heap.size := Nat.lt_of_lt_of_le hgtb HBWj.out.size
                  have HUtb := Lib.hid (hutb.kept HBWj.out)
                  have HMtb := Lib.hid (List.mem_of_getElem? htb)
                  have HEtb := Lib.hid htb
                  clear hqtb hctb hutb htb
                  simp only [Option.some.injEq, Addr.mk.injEq, and_true] at hetb
                  obtain ⟨rfl, rfl⟩ := hetb
                  go_upto_region 11 with (fail)
                  have haltb : Below wr.heap.size wr (wr.alloc (.cells #[.int .i64 tb.kind, .int .i64 tb.num, .string tb.name, .slice tb1 tb.args.length tb2] 25)) := belowAlloc (Below.refl _ _) _
                  have HBXtb := Lib.hid (at_box_of wr #[.int .i64 tb.kind, .int .i64 tb.num, .string tb.name, .slice tb1 tb.args.length tb2] 25 wr.heap.size rfl)
                  replace HBj := Lib.hid (belowOn HBj.out (Nat.le_refl _) haltb)
                  replace HOj := Lib.hid (HOj.out.kept haltb)
                  replace HUa := Lib.hid (HUa.out.kept haltb)
                  replace HUtb := Lib.hid (HUtb.out.kept haltb)
                  replace HBXa := Lib.hid (HBXa.out.read haltb)
                  clear haltb dtb0 dtb1 dtb2 dtb3 hgwtb
                  generalize hwtb : wr.alloc (.cells #[.int .i64 tb.kind, .int .i64 tb.num, .string tb.name, .slice tb1 tb.args.length tb2] 25) = w7 at HBXtb HBj HOj HUa HUtb HBXa ⊢
                  clear hwtb
                  obtain ⟨nb, hntb⟩ : ∃ m : Nat, m = wr.heap.size := ⟨_, rfl⟩
                  rw [← hntb] at HBXtb ⊢
                  clear hntb
                  obtain ⟨a0, a1, a2, a3⟩ := HBXa.out.cells
                  obtain ⟨b0, b1, b2, b3⟩ := HBXtb.out.cells
                  have za := HBXa.out.le
                  have zb := HBXtb.out.le
                  have HP := Lib.hid (specPairT_any ta tb _ _ _ _ w7 HUa.out HUtb.out)
                  have HTS : Hid (TsOk u (t2 u i ++ row2 u ta j)) := Lib.hid (by
                    have h1 := t2_ok HU.out i
                    have h2 := row2_ok HU.out HMta.out j
                    exact ⟨fun t ht => (List.mem_append.1 ht).elim (h1.1 t) (h2.1 t), by rw [List.length_append]; omega⟩)
                  go_wp2_with fail
                  refine HP.out.mono ?_
                  rintro e w8 ⟨gp, rfl, hp8, hb8⟩
                  have HI := Lib.hid (specPut8_any HU.out _ HTS.out (.slice la2 (putsT u (t2 u i ++ row2 u ta j)).length lc2) (pairT ta tb) (.slice (some ⟨gp, 0, none⟩) 2 2) w8 (HOj.out.kept hb8) hp8 (tb_pairs HU.out HMta.out HMtb.out))
                  have HB8 := Lib.hid (belowOn HBj.out (Nat.le_refl _) hb8)
                  clear HP hp8 hb8 a0 a1 a2 a3 b0 b1 b2 b3 za zb HBXa HBXtb HUa HUtb HOj HBj HBWj
                  go_wp2_with fail
                  refine HI.out.mono ?_
                  rintro e w9 ⟨U, rfl, hU, hb9⟩
                  have HO9 : Hid (OwnX w9 U (putsT u (t2 u i ++ row2 u ta (j + 1)))) := Lib.hid (by rw [row2_succ HEtb.out, ← List.append_assoc]; exact hU)
                  have HB9 := Lib.hid (belowOn HB8.out (Nat.le_refl _) hb9)
                  clear HI hU hb9 HB8
                  go_wp2
                  go_roundw
                  case rel => exact ⟨j + 1, by omega, by go_num, HO9, HB9⟩
                  case measure => simp [intOf]; omega
                · obtain rfl : j = u.length := by omega
                  have HOE : Hid (OwnX wr (.slice la2 (putsT u (t2 u i ++ row2 u ta u.length)).length lc2) (putsT u (t2 u (i + 1)))) := Lib.hid (by rw [t2_succ HEta.out]; exact HOj.out)
                  clear HOj HBXa HUa
                  go_wp2
                  go_roundw
                  case rel => exact ⟨i + 1, by omega, by go_num, HOE, HBWj⟩
                  case measure => simp [intOf]; omega
            · obtain rfl : i = u.length := by omega
              have HT2 : Hid ((∀ t ∈ t2 u u.length, Tb u t) ∧ (t2 u u.length).length ≤ 64) := Lib.hid (t2_ok HU.out u.length)
              obtain ⟨T, hT⟩ : ∃ T, t2 u u.length = T := ⟨_, rfl⟩
              have HTE := Lib.hid hT
              rw [hT] at HT2 HO ⊢
              clear hT
              have HO0 : Hid (OwnX wr (.slice la (putsT u T).length lc) (putsT u (T ++ t3 u 0))) := Lib.hid (by rw [show T ++ t3 u 0 = T from List.append_nil _]; exact HO.out)
              go_wp2
              go_loopw [5, 54] (fun lv iv wr => ∃ i : Nat, i ≤ u.length ∧ iv = .int .i64 i ∧ Hid (OwnX wr lv (putsT u (T ++ t3 u i))) ∧ Hid (Below w.heap.size w wr)) (fun _ iv _ => u.length - (intOf iv).toNat)
              case atStart => exact ⟨0, Nat.zero_le _, rfl, HO0, HBW⟩
              case round =>
                clear HO HBW HO0
                obtain ⟨i, hi, rfl, HO, HBW⟩ := hrel
                obtain ⟨la, lc, hlv⟩ := HO.out.at.slice
                subst hlv
                by_cases hlt : i < u.length
                · have hltI : (i : Int) < (u.length : Int) := by omega
                  obtain ⟨ta, hta⟩ : ∃ ta, u[i]? = some ta := ⟨_, List.getElem?_eq_getElem (by omega)⟩
                  obtain ⟨gta, offta, ta1, ta2, heta, hgta, hqta, hcta, huta⟩ := HA.out.elem hta
                  obtain ⟨dta0, dta1, dta2, dta3⟩ := hcta _ HBW.out
                  have hgwta : gta < wr.heap.size := Nat.lt_of_lt_of_le hgta HBW.out.size
                  have HUta := Lib.hid (huta.kept HBW.out)
                  have HMta := Lib.hid (List.mem_of_getElem? hta)
                  have HEta := Lib.hid hta
                  clear hqta hcta huta hta
                  simp only [Option.some.injEq, Addr.mk.injEq, and_true] at heta
                  obtain ⟨rfl, rfl⟩ := heta
                  go_upto_region 18 with (fail)
                  have halta : Below wr.heap.size wr (wr.alloc (.cells #[.int .i64 ta.kind, .int .i64 ta.num, .string ta.name, .slice ta1 ta.args.length ta2] 25)) := belowAlloc (Below.refl _ _) _
                  have HBXta := Lib.hid (at_box_of wr #[.int .i64 ta.kind, .int .i64 ta.num, .string ta.name, .slice ta1 ta.args.length ta2] 25 wr.heap.size rfl)
                  replace HBW := Lib.hid (belowOn HBW.out (Nat.le_refl _) halta)
                  replace HO := Lib.hid (HO.out.kept halta)
                  replace HUta := Lib.hid (HUta.out.kept halta)
                  clear halta dta0 dta1 dta2 dta3 hgwta
                  generalize hwta : wr.alloc (.cells #[.int .i64 ta.kind, .int .i64 ta.num, .string ta.name, .slice ta1 ta.args.length ta2] 25) = w5 at HBXta HBW HO HUta ⊢
                  clear hwta
                  obtain ⟨na, hnta⟩ : ∃ m : Nat, m = wr.heap.size := ⟨_, rfl⟩
                  rw [← hnta] at HBXta ⊢
                  clear hnta
                  have HO5 : Hid (OwnX w5 (.slice la (putsT u (T ++ t3 u i)).length lc) (putsT u (T ++ t3 u i ++ t3b u ta 0))) := Lib.hid (by rw [show T ++ t3 u i ++ t3b u ta 0 = T ++ t3 u i from List.append_nil _]; exact HO.out)
                  go_wp2
                  go_loopw [5, 60] (fun lv iv wr => ∃ j : Nat, j ≤ u.length ∧ iv = .int .i64 j ∧ Hid (OwnX wr lv (putsT u (T ++ t3 u i ++ t3b u ta j))) ∧ Hid (Below w5.heap.size w5 wr)) (fun _ iv _ => u.length - (intOf iv).toNat)
                  case atStart => exact ⟨0, Nat.zero_le _, rfl, HO5, Lib.hid (Below.refl _ _)⟩
                  case round =>
                    obtain ⟨j, hj, rfl, HOj, HBj⟩ := hrel
                    obtain ⟨la2, lc2, hlv⟩ := HOj.out.at.slice
                    subst hlv
                    clear HO5 HO
                    have HBWj := Lib.hid (belowOn HBW.out (Nat.le_refl _) HBj.out)
                    have HBXa := Lib.hid (HBXta.out.read HBj.out)
                    have HUa := Lib.hid (HUta.out.kept HBj.out)
                    by_cases hltj : j < u.length
                    · have hltJ : (j : Int) < (u.length : Int) := by omega
                      obtain ⟨tb, htb⟩ : ∃ tb, u[j]? = some tb := ⟨_, List.getElem?_eq_getElem (by omega)⟩
                      obtain ⟨gtb, offtb, tb1, tb2, hetb, hgtb, hqtb, hctb, hutb⟩ := HA.out.elem htb
                      obtain ⟨dtb0, dtb1, dtb2, dtb3⟩ := hctb _ HBWj.out
                      have hgwtb : gtb < wr.heap.size := Nat.lt_of_lt_of_le hgtb HBWj.out.size
                      have HUtb := Lib.hid (hutb.kept HBWj.out)
                      have HMtb := Lib.hid (List.mem_of_getElem? htb)
                      have HEtb := Lib.hid htb
                      clear hqtb hctb hutb htb
                      simp only [Option.some.injEq, Addr.mk.injEq, and_true] at hetb
                      obtain ⟨rfl, rfl⟩ := hetb
                      go_upto_region 21 with (fail)
                      have haltb : Below wr.heap.size wr (wr.alloc (.cells #[.int .i64 tb.kind, .int .i64 tb.num, .string tb.name, .slice tb1 tb.args.length tb2] 25)) := belowAlloc (Below.refl _ _) _
                      have HBXtb := Lib.hid (at_box_of wr #[.int .i64 tb.kind, .int .i64 tb.num, .string tb.name, .slice tb1 tb.args.length tb2] 25 wr.heap.size rfl)
                      replace HBj := Lib.hid (belowOn HBj.out (Nat.le_refl _) haltb)
                      replace HBWj := Lib.hid (belowOn HBWj.out (Nat.le_refl _) haltb)
                      replace HOj := Lib.hid (HOj.out.kept haltb)
                      replace HUa := Lib.hid (HUa.out.kept haltb)
                      replace HUtb := Lib.hid (HUtb.out.kept haltb)
                      replace HBXa := Lib.hid (HBXa.out.read haltb)
                      clear haltb dtb0 dtb1 dtb2 dtb3 hgwtb
                      generalize hwtb : wr.alloc (.cells #[.int .i64 tb.kind, .int .i64 tb.num, .string tb.name, .slice tb1 tb.args.length tb2] 25) = w7 at HBXtb HBj HBWj HOj HUa HUtb HBXa ⊢
                      clear hwtb
                      obtain ⟨nb, hntb⟩ : ∃ m : Nat, m = wr.heap.size := ⟨_, rfl⟩
                      rw [← hntb] at HBXtb ⊢
                      clear hntb
                      have HO7 : Hid (OwnX w7 (.slice la2 (putsT u (T ++ t3 u i ++ t3b u ta j)).length lc2) (putsT u (T ++ t3 u i ++ t3b u ta j ++ t3c u ta tb 0))) := Lib.hid (by rw [show T ++ t3 u i ++ t3b u ta j ++ t3c u ta tb 0 = T ++ t3 u i ++ t3b u ta j from List.append_nil _]; exact HOj.out)
                      go_wp2
                      go_loopw [5, 66] (fun lv iv wr => ∃ k : Nat, k ≤ u.length ∧ iv = .int .i64 k ∧ Hid (OwnX wr lv (putsT u (T ++ t3 u i ++ t3b u ta j ++ t3c u ta tb k))) ∧ Hid (Below w7.heap.size w7 wr)) (fun _ iv _ => u.length - (intOf iv).toNat)
                      case atStart => exact ⟨0, Nat.zero_le _, rfl, HO7, Lib.hid (Below.refl _ _)⟩
                      case round =>
                        obtain ⟨k, hk, rfl, HOk, HBk⟩ := hrel
                        obtain ⟨la3, lc3, hlv⟩ := HOk.out.at.slice
                        subst hlv
                        clear HO7 HOj
                        have HBWk := Lib.hid (belowOn HBWj.out (Nat.le_refl _) HBk.out)
                        have HBXA := Lib.hid (HBXa.out.read HBk.out)
                        have HBXB := Lib.hid (HBXtb.out.read HBk.out)
                        have HUA := Lib.hid (HUa.out.kept HBk.out)
                        have HUB := Lib.hid (HUtb.out.kept HBk.out)
                        by_cases hltk : k < u.length
                        · have hltK : (k : Int) < (u.length : Int) := by omega
                          obtain ⟨tx, htx⟩ : ∃ tx, u[k]? = some tx := ⟨_, List.getElem?_eq_getElem (by omega)⟩
                          obtain ⟨gtx, offtx, tx1, tx2, hetx, hgtx, hqtx, hctx, hutx⟩ := HA.out.elem htx
                          obtain ⟨dtx0, dtx1, dtx2, dtx3⟩ := hctx _ HBWk.out
                          have hgwtx : gtx < wr.heap.size := Nat.lt_of_lt_of_le hgtx HBWk.out.size
                          have HUtx := Lib.hid (hutx.kept HBWk.out)
                          have HMtx := Lib.hid (List.mem_of_getElem? htx)
                          have HEtx := Lib.hid htx
                          clear hqtx hctx hutx htx
                          simp only [Option.some.injEq, Addr.mk.injEq, and_true] at hetx
                          obtain ⟨rfl, rfl⟩ := hetx
                          go_upto_region 24 with (fail)
                          have haltx : Below wr.heap.size wr (wr.alloc (.cells #[.int .i64 tx.kind, .int .i64 tx.num, .string tx.name, .slice tx1 tx.args.length tx2] 25)) := belowAlloc (Below.refl _ _) _
                          have HBXtx := Lib.hid (at_box_of wr #[.int .i64 tx.kind, .int .i64 tx.num, .string tx.name, .slice tx1 tx.args.length tx2] 25 wr.heap.size rfl)
                          replace HBk := Lib.hid (belowOn HBk.out (Nat.le_refl _) haltx)
                          replace HOk := Lib.hid (HOk.out.kept haltx)
                          replace HUA := Lib.hid (HUA.out.kept haltx)
                          replace HUB := Lib.hid (HUB.out.kept haltx)
                          replace HUtx := Lib.hid (HUtx.out.kept haltx)
                          replace HBXA := Lib.hid (HBXA.out.read haltx)
                          replace HBXB := Lib.hid (HBXB.out.read haltx)
                          clear haltx dtx0 dtx1 dtx2 dtx3 hgwtx
                          generalize hwtx : wr.alloc (.cells #[.int .i64 tx.kind, .int .i64 tx.num, .string tx.name, .slice tx1 tx.args.length tx2] 25) = w9 at HBXtx HBk HOk HUA HUB HUtx HBXA HBXB ⊢
                          clear hwtx
                          obtain ⟨nx, hntx⟩ : ∃ m : Nat, m = wr.heap.size := ⟨_, rfl⟩
                          rw [← hntx] at HBXtx ⊢
                          clear hntx
                          have HTS : Hid (TsOk u (T ++ t3 u i ++ t3b u ta j ++ t3c u ta tb k) ∧ TsOk u (T ++ t3 u i ++ t3b u ta j ++ t3c u ta tb k ++ [pairT ta (pairT tb tx)])) := Lib.hid (by
                            have h0 := HT2.out
                            have h1 := t3_ok HU.out i
                            have h2 := t3b_ok HU.out HMta.out j
                            have h3 := t3c_ok HU.out HMta.out HMtb.out k
                            have h4 := (tb_three HU.out HMta.out HMtb.out HMtx.out).1
                            have h5 : ∀ t ∈ T ++ t3 u i ++ t3b u ta j ++ t3c u ta tb k, Tb u t := fun t ht => by
                              rcases List.mem_append.1 ht with ht | ht
                              · rcases List.mem_append.1 ht with ht | ht
                                · exact (List.mem_append.1 ht).elim (h0.1 t) (h1.1 t)
                                · exact h2.1 t ht
                              · exact h3.1 t ht
                            refine ⟨⟨h5, by simp only [List.length_append]; omega⟩, ⟨fun t ht => (List.mem_append.1 ht).elim (h5 t) fun h => by rw [List.mem_singleton.1 h]; exact h4, by simp only [List.length_append, List.length_singleton]; omega⟩⟩)
                          obtain ⟨TS, hTS⟩ : ∃ TS, T ++ t3 u i ++ t3b u ta j ++ t3c u ta tb k = TS := ⟨_, rfl⟩
                          have HTSE := Lib.hid hTS
                          rw [hTS] at HTS HOk ⊢
                          clear hTS
                          have hself : Below w9.heap.size w9 w9 := Below.refl _ _
                          have hdrew : Below w9.heap.size w9 w9.drew := hself.drew
                          have HTR : Hid (∀ p q, Below w9.heap.size w9 p → Below p.heap.size p q → Below w9.heap.size w9 q) := Lib.hid fun p q h1 h2 => belowOn h1 (Nat.le_refl _) h2
                          have HCB : Hid (∀ W, Below w9.heap.size w9 W → (W.cell? ⟨na, 0, none⟩ = some (.int .i64 ta.kind) ∧ W.cell? ⟨na, 1, none⟩ = some (.int .i64 ta.num) ∧ W.cell? ⟨na, 2, none⟩ = some (.string ta.name) ∧ W.cell? ⟨na, 3, none⟩ = some (.slice ta1 ta.args.length ta2)) ∧ (W.cell? ⟨nb, 0, none⟩ = some (.int .i64 tb.kind) ∧ W.cell? ⟨nb, 1, none⟩ = some (.int .i64 tb.num) ∧ W.cell? ⟨nb, 2, none⟩ = some (.string tb.name) ∧ W.cell? ⟨nb, 3, none⟩ = some (.slice tb1 tb.args.length tb2)) ∧ (W.cell? ⟨nx, 0, none⟩ = some (.int .i64 tx.kind) ∧ W.cell? ⟨nx, 1, none⟩ = some (.int .i64 tx.num) ∧ W.cell? ⟨nx, 2, none⟩ = some (.string tx.name) ∧ W.cell? ⟨nx, 3, none⟩ = some (.slice tx1 tx.args.length tx2))) := Lib.hid fun W hW => ⟨(HBXA.out.read hW).cells, (HBXB.out.read hW).cells, (HBXtx.out.read hW).cells⟩
                          obtain ⟨⟨a0, a1, a2, a3⟩, ⟨b0, b1, b2, b3⟩, ⟨x0, x1, x2, x3⟩⟩ := HCB.out w9 hself
                          have HP1 : Hid (∀ W, Below w9.heap.size w9 W → Calls Try.prog 70 #[.agg #[.int .i64 tb.kind, .int .i64 tb.num, .string tb.name, .slice tb1 tb.args.length tb2], .agg #[.int .i64 tx.kind, .int .i64 tx.num, .string tx.name, .slice tx1 tx.args.length tx2]] W fun e w' => ∃ g, e = .returned (.agg #[.int .i64 4, .int .i64 0, .string ⟨#[]⟩, .slice (some ⟨g, 0, none⟩) 2 2]) ∧ ArgsAt w' (.slice (some ⟨g, 0, none⟩) 2 2) [tb, tx] ∧ Below W.heap.size W w') := Lib.hid fun W hW => specPairT_any tb tx _ _ _ _ W (HUB.out.kept hW) (HUtx.out.kept hW)
                          have HP2 : Hid (∀ W G, Below w9.heap.size w9 W → ArgsAt W (.slice (some ⟨G, 0, none⟩) 2 2) [tb, tx] → Calls Try.prog 70 #[.agg #[.int .i64 ta.kind, .int .i64 ta.num, .string ta.name, .slice ta1 ta.args.length ta2], .agg #[.int .i64 4, .int .i64 0, .string ⟨#[]⟩, .slice (some ⟨G, 0, none⟩) 2 2]] W fun e w' => ∃ g, e = .returned (.agg #[.int .i64 4, .int .i64 0, .string ⟨#[]⟩, .slice (some ⟨g, 0, none⟩) 2 2]) ∧ ArgsAt w' (.slice (some ⟨g, 0, none⟩) 2 2) [ta, pairT tb tx] ∧ Below W.heap.size W w') := Lib.hid fun W G hW hG => specPairT_any ta (pairT tb tx) _ _ _ _ W (HUA.out.kept hW) hG
                          have HP3 : Hid (∀ W G, Below w9.heap.size w9 W → ArgsAt W (.slice (some ⟨G, 0, none⟩) 2 2) [ta, pairT tb tx] → Calls Try.prog 69 #[.slice la3 (putsT u TS).length lc3, .agg #[.int .i64 4, .int .i64 0, .string ⟨#[]⟩, .slice (some ⟨G, 0, none⟩) 2 2]] W fun e w' => ∃ U, e = .returned U ∧ OwnX w' U (putsT u (TS ++ [pairT ta (pairT tb tx)])) ∧ Below W.heap.size W w') := Lib.hid fun W G hW hG => specPut8_any HU.out _ HTS.out.1 _ (pairT ta (pairT tb tx)) _ W (HOk.out.kept hW) hG (tb_three HU.out HMta.out HMtb.out HMtx.out).1
                          refine wp_region_held_drew (S := (fun w' => Below w9.heap.size w9 w' ∧ w'.cell? ⟨na, 0, none⟩ = some (.int .i64 ta.kind) ∧ w'.cell? ⟨na, 1, none⟩ = some (.int .i64 ta.num) ∧ w'.cell? ⟨na, 2, none⟩ = some (.string ta.name) ∧ w'.cell? ⟨na, 3, none⟩ = some (.slice ta1 ta.args.length ta2) ∧ w'.cell? ⟨nb, 0, none⟩ = some (.int .i64 tb.kind) ∧ w'.cell? ⟨nb, 1, none⟩ = some (.int .i64 tb.num) ∧ w'.cell? ⟨nb, 2, none⟩ = some (.string tb.name) ∧ w'.cell? ⟨nb, 3, none⟩ = some (.slice tb1 tb.args.length tb2) ∧ w'.cell? ⟨nx, 0, none⟩ = some (.int .i64 tx.kind) ∧ w'.cell? ⟨nx, 1, none⟩ = some (.int .i64 tx.num) ∧ w'.cell? ⟨nx, 2, none⟩ = some (.string tx.name) ∧ w'.cell? ⟨nx, 3, none⟩ = some (.slice tx1 tx.args.length tx2))) (by kernel_rfl) (by (try dsimp only); go_keep) (fun hHeld => ?_)
                          (refine wpAnyH_take (i := 0) (oi := ⟨_, _, _, _, _, _⟩) (v := ?_) rfl (by kernel_rfl) (by kernel_rfl) (by kernel_rfl) (fun _ _ _ h => h) (Or.inl ⟨by rfl, ?_⟩) (by assumption) ?_; rotate_left; focus ((intro w' hSw; (try dsimp only at hSw); go_simp; (try with_reducible rfl)))); (try simp only [Act.put, List.setIfInBounds_toArray, List.set_cons_zero, List.set_cons_succ])
                          (refine wpAnyH_take (i := 1) (oi := ⟨_, _, _, _, _, _⟩) (v := ?_) rfl (by kernel_rfl) (by kernel_rfl) (by kernel_rfl) (fun _ _ _ h => h) (Or.inl ⟨by rfl, ?_⟩) (by assumption) ?_; rotate_left; focus ((intro w' hSw; (try dsimp only at hSw); go_simp; (try with_reducible rfl)))); (try simp only [Act.put, List.setIfInBounds_toArray, List.set_cons_zero, List.set_cons_succ])
                          (refine wpAnyH_take (i := 2) (oi := ⟨_, _, _, _, _, _⟩) (v := ?_) rfl (by kernel_rfl) (by kernel_rfl) (by kernel_rfl) (fun _ _ _ h => h) (Or.inl ⟨by rfl, ?_⟩) (by assumption) ?_; rotate_left; focus ((intro w' hSw; (try dsimp only at hSw); go_simp; (try with_reducible rfl)))); (try simp only [Act.put, List.setIfInBounds_toArray, List.set_cons_zero, List.set_cons_succ])
                          (refine wpAnyH_take (i := 3) (oi := ⟨_, _, _, _, _, _⟩) (v := ?_) rfl (by kernel_rfl) (by kernel_rfl) (by kernel_rfl) (fun _ _ _ h => h) (Or.inl ⟨by rfl, ?_⟩) (by assumption) ?_; rotate_left; focus ((intro w' hSw; (try dsimp only at hSw); go_simp; (try with_reducible rfl)))); (try simp only [Act.put, List.setIfInBounds_toArray, List.set_cons_zero, List.set_cons_succ])
                          refine wpAnyH_ready (rs := [4]) (by kernel_rfl) (by simp) ?_
                          refine AllReadyH.cons (o := ⟨_, _, _, _, _, _⟩) rfl (fun K hK => ?_) AllReadyH.nil
                          go_simp
                          (go_at_call 70; (with_reducible refine Calls.mono (HP1.out _ ?_) ?_); (assumption); rintro e wA ⟨gA, rfl, hpA, hbA⟩; have hA' := HTR.out _ _ (by assumption) hbA; obtain ⟨⟨a0, a1, a2, a3⟩, ⟨b0, b1, b2, b3⟩, ⟨x0, x1, x2, x3⟩⟩ := HCB.out _ hA')
                          (try go_wp2_with fail)
                          refine hK.out _ _ (by (try dsimp only); (first | go_keep | (refine ⟨by assumption, ?_⟩; go_keep))) (fun hHeld => ?_)
                          clear hK K
                          (try simp only [Act.put, List.setIfInBounds_toArray, List.set_cons_zero, List.set_cons_succ])
                          refine wpAnyH_ready (rs := [5]) (by kernel_rfl) (by simp) ?_
                          refine AllReadyH.cons (o := ⟨_, _, _, _, _, _⟩) rfl (fun K hK => ?_) AllReadyH.nil
                          go_simp
                          (go_at_call 70; (with_reducible refine Calls.mono (HP2.out _ gA ?_ hpA) ?_); (assumption); rintro e wB ⟨gB, rfl, hpB, hbB⟩; have hB' := HTR.out _ _ (by assumption) hbB; obtain ⟨⟨a0, a1, a2, a3⟩, ⟨b0, b1, b2, b3⟩, ⟨x0, x1, x2, x3⟩⟩ := HCB.out _ hB')
                          (try go_wp2_with fail)
                          refine hK.out _ _ (by (try dsimp only); (first | go_keep | (refine ⟨by assumption, ?_⟩; go_keep))) (fun hHeld => ?_)
                          clear hK K
                          (try simp only [Act.put, List.setIfInBounds_toArray, List.set_cons_zero, List.set_cons_succ])
                          refine wpAnyH_ready (rs := [6]) (by kernel_rfl) (by simp) ?_
                          refine AllReadyH.cons (o := ⟨_, _, _, _, _, _⟩) rfl (fun K hK => ?_) AllReadyH.nil
                          go_simp
                          (go_at_call 69; (with_reducible refine Calls.mono (HP3.out _ gB ?_ hpB) ?_); (assumption); rintro e wC ⟨U, rfl, hU, hbC⟩; obtain ⟨ua, uc, rfl⟩ := hU.at.slice; have hC' := HTR.out _ _ (by assumption) hbC; obtain ⟨⟨a0, a1, a2, a3⟩, ⟨b0, b1, b2, b3⟩, ⟨x0, x1, x2, x3⟩⟩ := HCB.out _ hC')
                          (try go_wp2_with fail)
                          refine hK.out _ _ (by (try dsimp only); (first | go_keep | (refine ⟨by assumption, ?_⟩; go_keep))) (fun hHeld => ?_)
                          clear hK K
                          (try simp only [Act.put, List.setIfInBounds_toArray, List.set_cons_zero, List.set_cons_succ])
                          (refine wpAnyH_take (i := 7) (oi := ⟨_, _, _, _, _, _⟩) (v := ?_) rfl (by kernel_rfl) (by kernel_rfl) (by kernel_rfl) (fun _ _ _ h => h) (Or.inl ⟨by rfl, ?_⟩) (by assumption) ?_; rotate_left; focus ((intro w' hSw; (try dsimp only at hSw); go_simp; (try with_reducible rfl)))); (try simp only [Act.put, List.setIfInBounds_toArray, List.set_cons_zero, List.set_cons_succ])
                          refine wpAnyH_done (by kernel_rfl) ?_ _
                          have HUC : Hid (OwnX wC (.slice ua (putsT u (TS ++ [pairT ta (pairT tb tx)])).length uc) (putsT u (TS ++ [pairT ta (pairT tb tx)]))) := Lib.hid hU
                          have HBC : Hid (Below w9.heap.size w9 wC) := Lib.hid hC'
                          clear hself hdrew HTR HCB HP1 HP2 HP3 hHeld hpA hbA hA' hpB hbB hB' hU hbC hC' a0 a1 a2 a3 b0 b1 b2 b3 x0 x1 x2 x3 HOk
                          go_upto_region 25 with (fail)
                          replace HBXA := Lib.hid (HBXA.out.read HBC.out)
                          replace HBXB := Lib.hid (HBXB.out.read HBC.out)
                          replace HBXtx := Lib.hid (HBXtx.out.read HBC.out)
                          replace HUA := Lib.hid (HUA.out.kept HBC.out)
                          replace HUB := Lib.hid (HUB.out.kept HBC.out)
                          replace HUtx := Lib.hid (HUtx.out.kept HBC.out)
                          replace HBk := Lib.hid (belowOn HBk.out (Nat.le_refl _) HBC.out)
                          have HOk := HUC
                          clear HUC HBC
                          generalize hwD : wC = wD at HBXA HBXB HBXtx HUA HUB HUtx HBk HOk ⊢
                          clear hwD
                          generalize huD : ua = uD at HOk ⊢
                          clear huD
                          generalize huE : uc = uE at HOk ⊢
                          clear huE
                          have hself : Below wD.heap.size wD wD := Below.refl _ _
                          have hdrew : Below wD.heap.size wD wD.drew := hself.drew
                          have HTR : Hid (∀ p q, Below wD.heap.size wD p → Below p.heap.size p q → Below wD.heap.size wD q) := Lib.hid fun p q h1 h2 => belowOn h1 (Nat.le_refl _) h2
                          have HCB : Hid (∀ W, Below wD.heap.size wD W → (W.cell? ⟨na, 0, none⟩ = some (.int .i64 ta.kind) ∧ W.cell? ⟨na, 1, none⟩ = some (.int .i64 ta.num) ∧ W.cell? ⟨na, 2, none⟩ = some (.string ta.name) ∧ W.cell? ⟨na, 3, none⟩ = some (.slice ta1 ta.args.length ta2)) ∧ (W.cell? ⟨nb, 0, none⟩ = some (.int .i64 tb.kind) ∧ W.cell? ⟨nb, 1, none⟩ = some (.int .i64 tb.num) ∧ W.cell? ⟨nb, 2, none⟩ = some (.string tb.name) ∧ W.cell? ⟨nb, 3, none⟩ = some (.slice tb1 tb.args.length tb2)) ∧ (W.cell? ⟨nx, 0, none⟩ = some (.int .i64 tx.kind) ∧ W.cell? ⟨nx, 1, none⟩ = some (.int .i64 tx.num) ∧ W.cell? ⟨nx, 2, none⟩ = some (.string tx.name) ∧ W.cell? ⟨nx, 3, none⟩ = some (.slice tx1 tx.args.length tx2))) := Lib.hid fun W hW => ⟨(HBXA.out.read hW).cells, (HBXB.out.read hW).cells, (HBXtx.out.read hW).cells⟩
                          obtain ⟨⟨a0, a1, a2, a3⟩, ⟨b0, b1, b2, b3⟩, ⟨x0, x1, x2, x3⟩⟩ := HCB.out wD hself
                          have HP1 : Hid (∀ W, Below wD.heap.size wD W → Calls Try.prog 70 #[.agg #[.int .i64 ta.kind, .int .i64 ta.num, .string ta.name, .slice ta1 ta.args.length ta2], .agg #[.int .i64 tb.kind, .int .i64 tb.num, .string tb.name, .slice tb1 tb.args.length tb2]] W fun e w' => ∃ g, e = .returned (.agg #[.int .i64 4, .int .i64 0, .string ⟨#[]⟩, .slice (some ⟨g, 0, none⟩) 2 2]) ∧ ArgsAt w' (.slice (some ⟨g, 0, none⟩) 2 2) [ta, tb] ∧ Below W.heap.size W w') := Lib.hid fun W hW => specPairT_any ta tb _ _ _ _ W (HUA.out.kept hW) (HUB.out.kept hW)
                          have HP2 : Hid (∀ W G, Below wD.heap.size wD W → ArgsAt W (.slice (some ⟨G, 0, none⟩) 2 2) [ta, tb] → Calls Try.prog 70 #[.agg #[.int .i64 4, .int .i64 0, .string ⟨#[]⟩, .slice (some ⟨G, 0, none⟩) 2 2], .agg #[.int .i64 tx.kind, .int .i64 tx.num, .string tx.name, .slice tx1 tx.args.length tx2]] W fun e w' => ∃ g, e = .returned (.agg #[.int .i64 4, .int .i64 0, .string ⟨#[]⟩, .slice (some ⟨g, 0, none⟩) 2 2]) ∧ ArgsAt w' (.slice (some ⟨g, 0, none⟩) 2 2) [pairT ta tb, tx] ∧ Below W.heap.size W w') := Lib.hid fun W G hW hG => specPairT_any (pairT ta tb) tx _ _ _ _ W hG (HUtx.out.kept hW)
                          have HP3 : Hid (∀ W G, Below wD.heap.size wD W → ArgsAt W (.slice (some ⟨G, 0, none⟩) 2 2) [pairT ta tb, tx] → Calls Try.prog 69 #[.slice uD (putsT u (TS ++ [pairT ta (pairT tb tx)])).length uE, .agg #[.int .i64 4, .int .i64 0, .string ⟨#[]⟩, .slice (some ⟨G, 0, none⟩) 2 2]] W fun e w' => ∃ U, e = .returned U ∧ OwnX w' U (putsT u (TS ++ [pairT ta (pairT tb tx)] ++ [pairT (pairT ta tb) tx])) ∧ Below W.heap.size W w') := Lib.hid fun W G hW hG => specPut8_any HU.out _ HTS.out.2 _ (pairT (pairT ta tb) tx) _ W (HOk.out.kept hW) hG (tb_three HU.out HMta.out HMtb.out HMtx.out).2
                          refine wp_region_held_drew (S := (fun w' => Below wD.heap.size wD w' ∧ w'.cell? ⟨na, 0, none⟩ = some (.int .i64 ta.kind) ∧ w'.cell? ⟨na, 1, none⟩ = some (.int .i64 ta.num) ∧ w'.cell? ⟨na, 2, none⟩ = some (.string ta.name) ∧ w'.cell? ⟨na, 3, none⟩ = some (.slice ta1 ta.args.length ta2) ∧ w'.cell? ⟨nb, 0, none⟩ = some (.int .i64 tb.kind) ∧ w'.cell? ⟨nb, 1, none⟩ = some (.int .i64 tb.num) ∧ w'.cell? ⟨nb, 2, none⟩ = some (.string tb.name) ∧ w'.cell? ⟨nb, 3, none⟩ = some (.slice tb1 tb.args.length tb2) ∧ w'.cell? ⟨nx, 0, none⟩ = some (.int .i64 tx.kind) ∧ w'.cell? ⟨nx, 1, none⟩ = some (.int .i64 tx.num) ∧ w'.cell? ⟨nx, 2, none⟩ = some (.string tx.name) ∧ w'.cell? ⟨nx, 3, none⟩ = some (.slice tx1 tx.args.length tx2))) (by kernel_rfl) (by (try dsimp only); go_keep) (fun hHeld => ?_)
                          (refine wpAnyH_take (i := 0) (oi := ⟨_, _, _, _, _, _⟩) (v := ?_) rfl (by kernel_rfl) (by kernel_rfl) (by kernel_rfl) (fun _ _ _ h => h) (Or.inl ⟨by rfl, ?_⟩) (by assumption) ?_; rotate_left; focus ((intro w' hSw; (try dsimp only at hSw); go_simp; (try with_reducible rfl)))); (try simp only [Act.put, List.setIfInBounds_toArray, List.set_cons_zero, List.set_cons_succ])
                          (refine wpAnyH_take (i := 1) (oi := ⟨_, _, _, _, _, _⟩) (v := ?_) rfl (by kernel_rfl) (by kernel_rfl) (by kernel_rfl) (fun _ _ _ h => h) (Or.inl ⟨by rfl, ?_⟩) (by assumption) ?_; rotate_left; focus ((intro w' hSw; (try dsimp only at hSw); go_simp; (try with_reducible rfl)))); (try simp only [Act.put, List.setIfInBounds_toArray, List.set_cons_zero, List.set_cons_succ])
                          (refine wpAnyH_take (i := 2) (oi := ⟨_, _, _, _, _, _⟩) (v := ?_) rfl (by kernel_rfl) (by kernel_rfl) (by kernel_rfl) (fun _ _ _ h => h) (Or.inl ⟨by rfl, ?_⟩) (by assumption) ?_; rotate_left; focus ((intro w' hSw; (try dsimp only at hSw); go_simp; (try with_reducible rfl)))); (try simp only [Act.put, List.setIfInBounds_toArray, List.set_cons_zero, List.set_cons_succ])
                          (refine wpAnyH_take (i := 4) (oi := ⟨_, _, _, _, _, _⟩) (v := ?_) rfl (by kernel_rfl) (by kernel_rfl) (by kernel_rfl) (fun _ _ _ h => h) (Or.inl ⟨by rfl, ?_⟩) (by assumption) ?_; rotate_left; focus ((intro w' hSw; (try dsimp only at hSw); go_simp; (try with_reducible rfl)))); (try simp only [Act.put, List.setIfInBounds_toArray, List.set_cons_zero, List.set_cons_succ])
                          refine wpAnyH_ready (rs := [3]) (by kernel_rfl) (by simp) ?_
                          refine AllReadyH.cons (o := ⟨_, _, _, _, _, _⟩) rfl (fun K hK => ?_) AllReadyH.nil
                          go_simp
                          (go_at_call 70; (with_reducible refine Calls.mono (HP1.out _ ?_) ?_); (assumption); rintro e wA ⟨gA, rfl, hpA, hbA⟩; have hA' := HTR.out _ _ (by assumption) hbA; obtain ⟨⟨a0, a1, a2, a3⟩, ⟨b0, b1, b2, b3⟩, ⟨x0, x1, x2, x3⟩⟩ := HCB.out _ hA')
                          (try go_wp2_with fail)
                          refine hK.out _ _ (by (try dsimp only); (first | go_keep | (refine ⟨by assumption, ?_⟩; go_keep))) (fun hHeld => ?_)
                          clear hK K
                          (try simp only [Act.put, List.setIfInBounds_toArray, List.set_cons_zero, List.set_cons_succ])
                          refine wpAnyH_ready (rs := [5]) (by kernel_rfl) (by simp) ?_
                          refine AllReadyH.cons (o := ⟨_, _, _, _, _, _⟩) rfl (fun K hK => ?_) AllReadyH.nil
                          go_simp
                          (go_at_call 70; (with_reducible refine Calls.mono (HP2.out _ gA ?_ hpA) ?_); (assumption); rintro e wB ⟨gB, rfl, hpB, hbB⟩; have hB' := HTR.out _ _ (by assumption) hbB; obtain ⟨⟨a0, a1, a2, a3⟩, ⟨b0, b1, b2, b3⟩, ⟨x0, x1, x2, x3⟩⟩ := HCB.out _ hB')
                          (try go_wp2_with fail)
                          refine hK.out _ _ (by (try dsimp only); (first | go_keep | (refine ⟨by assumption, ?_⟩; go_keep))) (fun hHeld => ?_)
                          clear hK K
                          (try simp only [Act.put, List.setIfInBounds_toArray, List.set_cons_zero, List.set_cons_succ])
                          refine wpAnyH_ready (rs := [6]) (by kernel_rfl) (by simp) ?_
                          refine AllReadyH.cons (o := ⟨_, _, _, _, _, _⟩) rfl (fun K hK => ?_) AllReadyH.nil
                          go_simp
                          (go_at_call 69; (with_reducible refine Calls.mono (HP3.out _ gB ?_ hpB) ?_); (assumption); rintro e wC ⟨U, rfl, hU, hbC⟩; obtain ⟨ua, uc, rfl⟩ := hU.at.slice; have hC' := HTR.out _ _ (by assumption) hbC; obtain ⟨⟨a0, a1, a2, a3⟩, ⟨b0, b1, b2, b3⟩, ⟨x0, x1, x2, x3⟩⟩ := HCB.out _ hC')
                          (try go_wp2_with fail)
                          refine hK.out _ _ (by (try dsimp only); (first | go_keep | (refine ⟨by assumption, ?_⟩; go_keep))) (fun hHeld => ?_)
                          clear hK K
                          (try simp only [Act.put, List.setIfInBounds_toArray, List.set_cons_zero, List.set_cons_succ])
                          (refine wpAnyH_take (i := 7) (oi := ⟨_, _, _, _, _, _⟩) (v := ?_) rfl (by kernel_rfl) (by kernel_rfl) (by kernel_rfl) (fun _ _ _ h => h) (Or.inl ⟨by rfl, ?_⟩) (by assumption) ?_; rotate_left; focus ((intro w' hSw; (try dsimp only at hSw); go_simp; (try with_reducible rfl)))); (try simp only [Act.put, List.setIfInBounds_toArray, List.set_cons_zero, List.set_cons_succ])
                          refine wpAnyH_done (by kernel_rfl) ?_ _
                          have HUC : Hid (OwnX wC (.slice ua (putsT u (TS ++ [pairT ta (pairT tb tx)] ++ [pairT (pairT ta tb) tx])).length uc) (putsT u (TS ++ [pairT ta (pairT tb tx)] ++ [pairT (pairT ta tb) tx]))) := Lib.hid hU
                          have HBC : Hid (Below wD.heap.size wD wC) := Lib.hid hC'
                          clear hself hdrew HTR HCB HP1 HP2 HP3 hHeld hpA hbA hA' hpB hbB hB' hU hbC hC' a0 a1 a2 a3 b0 b1 b2 b3 x0 x1 x2 x3 HOk
                          have HOF : Hid (OwnX wC (.slice ua (putsT u (TS ++ [pairT ta (pairT tb tx), pairT (pairT ta tb) tx])).length uc) (putsT u (T ++ t3 u i ++ t3b u ta j ++ t3c u ta tb (k + 1)))) := Lib.hid (by
                            have h := HUC.out
                            have e : TS ++ [pairT ta (pairT tb tx)] ++ [pairT (pairT ta tb) tx] = TS ++ [pairT ta (pairT tb tx), pairT (pairT ta tb) tx] := by rw [List.append_assoc]; rfl
                            rw [t3c_succ HEtx.out, ← List.append_assoc, ← List.append_assoc, HTSE.out, e]
                            rw [e] at h
                            exact h)
                          have HBF := Lib.hid (belowOn HBk.out (Nat.le_refl _) HBC.out)
                          clear HUC HBC
                          go_wp2
                          go_roundw
                          case rel => exact ⟨k + 1, by omega, by go_num, HOF, HBF⟩
                          case measure => simp [intOf]; omega
                        · obtain rfl : k = u.length := by omega
                          have HOE : Hid (OwnX wr (.slice la3 (putsT u (T ++ t3 u i ++ t3b u ta j ++ t3c u ta tb u.length)).length lc3) (putsT u (T ++ t3 u i ++ t3b u ta (j + 1)))) := Lib.hid (by rw [t3b_succ HEtb.out, ← List.append_assoc]; exact HOk.out)
                          have HBE := Lib.hid (belowOn HBj.out (Nat.le_refl _) HBk.out)
                          clear HOk HBXA HBXB HUA HUB
                          go_wp2
                          go_roundw
                          case rel => exact ⟨j + 1, by omega, by go_num, HOE, HBE⟩
                          case measure => simp [intOf]; omega
                    · obtain rfl : j = u.length := by omega
                      have HOE : Hid (OwnX wr (.slice la2 (putsT u (T ++ t3 u i ++ t3b u ta u.length)).length lc2) (putsT u (T ++ t3 u (i + 1)))) := Lib.hid (by rw [t3_succ HEta.out, ← List.append_assoc]; exact HOj.out)
                      clear HOj HBXa HUa
                      go_wp2
                      go_roundw
                      case rel => exact ⟨i + 1, by omega, by go_num, HOE, HBWj⟩
                      case measure => simp [intOf]; omega
                · obtain rfl : i = u.length := by omega
                  have HSE0 : Hid (gtS u n = putsT u (T ++ t3 u u.length)) := Lib.hid (by rw [mS_eq HU.out HN.out]; unfold mS; rw [if_pos HN3.out, if_pos HN5.out, HTE.out])
                  have HSL0 : Hid ((∀ t ∈ putsT u (T ++ t3 u u.length), t.sz ≤ 1048576) ∧ (putsT u (T ++ t3 u u.length)).length ≤ 4000) := Lib.hid (by
                    have hn := HN.out
                    rw [← HSE0.out]
                    have e := mS_eq HU.out hn
                    rw [e]
                    refine ⟨fun t ht => ?_, ?_⟩
                    · rcases mem_mS.1 ht with h | ⟨_, h⟩ | ⟨_, h⟩
                      · have := uni_sz HU.out t h; omega
                      · exact ((t2_ok HU.out _).1 t h).2
                      · exact ((t3_ok HU.out _).1 t h).2
                    · have h1 := putsT_le ((if 3 ≤ n then t2 u u.length else []) ++ (if 5 ≤ n then t3 u u.length else [])) u
                      have h2 := (t2_ok HU.out u.length).2
                      have h3 := (t3_ok HU.out u.length).2
                      have h4 := HU.out.1.2
                      rw [List.length_append] at h1
                      have h5 : (if 3 ≤ n then t2 u u.length else []).length ≤ 64 := by
                        split
                        · exact h2
                        · simp
                      have h6 : (if 5 ≤ n then t3 u u.length else []).length ≤ 1024 := by
                        split
                        · exact h3
                        · simp
                      unfold mS
                      omega)
                  obtain ⟨S, hS⟩ : ∃ S, putsT u (T ++ t3 u u.length) = S := ⟨_, rfl⟩
                  rw [hS] at HSE0 HSL0 HO ⊢
                  have HSE := HSE0
                  have HSL := HSL0
                  clear hS HSE0 HSL0
                  generalize hwF : wr = wF at HO HBW ⊢
                  clear hwF
                  have hSl := HSL.out.2
                  by_cases h512 : S.length ≤ 512
                  case neg =>
                    have h5 : (512 : Int) < (S.length : Int) := by omega
                    have HG : Hid (gtL u n = []) := Lib.hid (gtL_bad fun hk => h512 (by rw [← HSE.out]; exact hk.1))
                    clear h512 HO
                    go_wp2
                    go_ret
                    exact ⟨_, rfl, by rw [HG.out]; exact .nil _ _, HBW.out⟩
                  case pos =>
                    have h5 : ¬ (512 : Int) < (S.length : Int) := by omega
                    go_wp2
                    go_loopw [92] (fun iv wr => ∃ k : Nat, k ≤ S.length ∧ iv = .int .i64 k ∧ Hid (∀ (i : Nat) (x : Tm), i < k → S[i]? = some x → Ok x) ∧ Hid (Below wF.heap.size wF wr)) (fun iv _ => S.length - (intOf iv).toNat)
                    case atStart => exact ⟨0, Nat.zero_le _, rfl, Lib.hid (fun i x hi => absurd hi (Nat.not_lt_zero _)), Lib.hid (Below.refl _ _)⟩
                    case round =>
                      obtain ⟨k, hk, rfl, HV, HB⟩ := hrel
                      by_cases hlt : k < S.length
                      · have hltI : (k : Int) < (S.length : Int) := by omega
                        obtain ⟨y, hy⟩ : ∃ y, S[k]? = some y := ⟨_, List.getElem?_eq_getElem hlt⟩
                        obtain ⟨gy, offy, y1, y2, heq, hgy, hqy, hcy, huy⟩ := HO.out.at.elem hy
                        obtain ⟨dy0, dy1, dy2, dy3⟩ := hcy _ HB.out
                        have hgwy : gy < wr.heap.size := Nat.lt_of_lt_of_le hgy HB.out.size
                        have HUy := Lib.hid (huy.kept HB.out)
                        have HY := Lib.hid hy
                        have HYZ := Lib.hid (HSL.out.1 y (List.mem_of_getElem? hy))
                        subst heq
                        clear hy hqy hcy huy
                        go_upto_region 34 with (fail)
                        have hal : Below wr.heap.size wr (wr.alloc (.cells #[.int .i64 y.kind, .int .i64 y.num, .string y.name, .slice y1 y.args.length y2] 25)) := belowAlloc (Below.refl _ _) _
                        have HBXY := Lib.hid (at_box_of wr #[.int .i64 y.kind, .int .i64 y.num, .string y.name, .slice y1 y.args.length y2] 25 wr.heap.size rfl)
                        replace HUy := Lib.hid (HUy.out.kept hal)
                        replace HB := Lib.hid (belowOn HB.out (Nat.le_refl _) hal)
                        clear hal dy0 dy1 dy2 dy3 hgwy
                        generalize hw1 : wr.alloc (.cells #[.int .i64 y.kind, .int .i64 y.num, .string y.name, .slice y1 y.args.length y2] 25) = w8 at HBXY HUy HB ⊢
                        clear hw1
                        generalize wr.heap.size = ny at HBXY ⊢
                        obtain ⟨b0, b1, b2, b3⟩ := HBXY.out.cells
                        have HC := Lib.hid (specTermOk_any y _ w8 HUy.out HYZ.out)
                        go_wp2_with fail
                        refine HC.out.mono ?_
                        rintro e w9 ⟨rfl, hb9⟩
                        have HB9 := Lib.hid (belowOn HB.out (Nat.le_refl _) hb9)
                        obtain ⟨q, hq⟩ : ∃ q, okB y = q := ⟨_, rfl⟩
                        rw [hq]
                        have HQ := Lib.hid hq
                        clear hq hb9 HC b0 b1 b2 b3 HBXY HUy HB
                        cases q with
                        | false =>
                          have HG : Hid (gtL u n = []) := Lib.hid (gtL_bad fun hk => okB_false.1 HQ.out (hk.2 y (by rw [HSE.out]; exact List.mem_of_getElem? HY.out)))
                          have HF := Lib.hid (belowOn HBW.out (Nat.le_refl _) HB9.out)
                          go_wp2
                          go_ret
                          exact ⟨_, rfl, by rw [HG.out]; exact .nil _ _, HF.out⟩
                        | true =>
                          have HOY := Lib.hid (okB_true.1 HQ.out)
                          go_wp2
                          go_roundw
                          case rel =>
                            refine ⟨k + 1, by omega, by go_num, Lib.hid fun i z hi hz => ?_, HB9⟩
                            by_cases q : i = k
                            · subst q
                              cases hz.symm.trans HY.out
                              exact HOY.out
                            · exact HV.out i z (by omega) hz
                          case measure => simp [intOf]; omega
                      · obtain rfl : k = S.length := by omega
                        have HOK : Hid (OkS S) := Lib.hid ⟨h512, fun t ht => by
                          obtain ⟨i, hi⟩ := List.getElem?_of_mem ht
                          exact HV.out i t (List.getElem?_eq_some_iff.1 hi).1 hi⟩
                        have HC := Lib.hid (specCopyAll_any S _ wr (HO.out.at.kept HB.out) (okS_each HOK.out))
                        have HG : Hid (gtL u n = S) := Lib.hid (by rw [gtL_yes HU.out HN.out (by rw [HSE.out]; exact HOK.out), HSE.out])
                        clear hlt
                        go_wp2_with fail
                        refine HC.out.mono ?_
                        rintro e w9 ⟨U, rfl, hU, hb⟩
                        have HUU := Lib.hid hU
                        have HF := Lib.hid (belowOn (belowOn HBW.out (Nat.le_refl _) HB.out) (Nat.le_refl _) hb)
                        clear hU hb HC
                        go_wp2
                        go_ret
                        exact ⟨_, rfl, by rw [HG.out]; exact HUU.out, HF.out⟩
end Go.Proofs.Ytoihimdfmncdoaa

