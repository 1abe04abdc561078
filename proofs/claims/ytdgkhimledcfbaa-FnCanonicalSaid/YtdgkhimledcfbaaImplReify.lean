/-
  The program's Reify.
-/
import Derived.Test.YtdgkhimledcfbaaImplCanon
import Derived.Test.YtdgkhimledcfbaaImplApp
namespace Go.Proofs.Ytdgkhimledcfbaa
open Go.RowKit
set_option linter.unusedVariables false
set_option linter.unusedSimpArgs false

theorem mapLow {w : World} {b : Nat} {g : Int → Option Tm} (h : MapG w b g) : ∀ w', Below w.heap.size w w' → MapG w' b g := fun w' hb => h.kept hb
/-- A list of terms of the call's own, and whether. -/
def NewL2 (l : List Tm) (b : Bool) (w : World) (e : Ending) (w' : World) : Prop := ∃ v, e = .returned (.tuple #[v, .bool b]) ∧ Own w' 25 (iv w.heap.size w'.heap.size) v l ∧ Below w.heap.size w w'

set_option maxRecDepth 100000 in
set_option maxHeartbeats 4000000 in
theorem implReify_e (s : List Bd) (Vs : Value) (l : List Tm) (V : Value) (w : World) (hS : ListS bdE w Any Vs s) (hEs : EachB s) (hF : ∀ b ∈ s, wfI b.v) (hA : ArgsAt w V l) (hE : EachT l) :
    Calls Try.prog 23 #[Vs, V] w (NewL2 (reL s l) (reB s l) w) := by
  obtain ⟨i0, hi, hz0, hz1, hz2⟩ := info_parts infoTerm
  obtain ⟨sa, sc, rfl⟩ := hS.slice
  obtain ⟨a, cap, rfl⟩ := hA.slice
  have HNO := Lib.hid (fun h => re_no (s := s) (l := l) h)
  have HYES := Lib.hid (fun h => re_yes (s := s) (l := l) h)
  generalize reL s l = r at HNO HYES ⊢
  generalize reB s l = c at HNO HYES ⊢
  have HO := Lib.hid (implSubstOk_e s _ w hS hEs hF)
  have HSS := Lib.hid hS
  have HA := Lib.hid hA
  have HE := Lib.hid hE
  have HEF := Lib.hid (And.intro hEs hF)
  have hL := hE.1
  clear hA hE hS hEs hF
  go_enter Try.func23, Try.ntmps23
  go_wp2_with fail
  refine HO.out.mono ?_
  rintro e w1 ⟨rfl, hb⟩
  have HB1 := Lib.hid hb
  clear hb HO
  cases hsb : substB s with
  | false =>
    obtain ⟨rfl, rfl⟩ := HNO.out fun h => substB_false.1 hsb h.1
    clear hsb
    go_wp2
    go_ret2
    exact ⟨_, rfl, .nil _, HB1.out⟩
  | true =>
    have HSP := Lib.hid (substB_true.1 hsb)
    clear hsb
    have HO := Lib.hid (termsOk_e l _ w1 (HA.out.kept HB1.out) HE.out)
    obtain ⟨q, hq⟩ : ∃ q, l.all okB = q := ⟨_, rfl⟩
    unfold allOkB at HO
    rw [hq] at HO
    have HQ := Lib.hid hq
    clear hq
    go_wp2_with fail
    refine HO.out.mono ?_
    rintro e w2 ⟨rfl, hb⟩
    have HB2 := Lib.hid (belowOn HB1.out (Nat.le_refl _) hb)
    clear hb HO HB1
    cases q with
    | false =>
      obtain ⟨rfl, rfl⟩ := HNO.out fun h => by have := h.2.1; rw [HQ.out] at this; cases this
      go_wp2
      go_ret2
      exact ⟨_, rfl, .nil _, HB2.out⟩
    | true =>
      have HC := Lib.hid (mapOf_any s _ w2 (HSS.out.kept HB2.out) HEF.out.1.1 HEF.out.2)
      go_wp2_with fail
      refine HC.out.mono ?_
      rintro e w3 ⟨mb, rfl, hmb, hmg, hb⟩
      have HM3 : Hid (MapG w3 mb (getO s)) := Lib.hid (hmg.same fun v => lastO_subst HSP.out v)
      have HB3 := Lib.hid (belowOn HB2.out (Nat.le_refl _) hb)
      clear hmb hmg hb HC HB2
      go_wp2_with (at_make; refine wpList_make_full _ rfl _ _ 23 rfl 0 25 i0 _ 4 Try.underlying23 hi hz0 hz1 _ _ _ _ l.length rfl rfl rfl rfl (by rw [hz2]; omega) (by unfold maxLen; omega) (Nat.zero_le _) ?_; intro w4 hown hg; have HO1 := Lib.hid hown; have HG1 := Lib.hid hg; clear hown hg)
      have hb4 : Below w3.heap.size w3 w4 := below_of_grown (B := w3.heap.size) HG1.out (Nat.le_refl _) (fun k hk => by cases hk)
      have HM4 := Lib.hid (HM3.out.kept hb4)
      have HB4 := Lib.hid (belowOn HB3.out (Nat.le_refl _) hb4)
      have HGT : Hid (w3.heap.size < w4.heap.size ∧ w.heap.size ≤ w3.heap.size) := Lib.hid ⟨row_hit HO1.out, HB3.out.size⟩
      have HMB : Hid (mb < w3.heap.size) := Lib.hid HM3.out.lt
      have HO4 := Lib.hid (own_made (S := fun j => j = w3.heap.size) HO1.out rfl)
      have HB34 := Lib.hid hb4
      have HMO := Lib.hid (mapLow HM3.out)
      clear HO1 HG1 hi hz0 hz1 hz2 hb4
      obtain ⟨g, hg⟩ : ∃ g, w3.heap.size = g := ⟨_, rfl⟩
      rw [hg] at HO4 HGT HMB ⊢
      have HG3 := Lib.hid hg
      clear hg
      go_wp2
      go_loopw [27] (fun i wr => ∃ (k : Nat) (xs : List Tm), k ≤ l.length ∧ i = .int .i64 k ∧ xs.length = l.length ∧ Hid (xs.take k = (l.take k).map (putT s)) ∧ Hid (∀ (j : Nat) (t : Tm), j < k → l[j]? = some t → (putT s t).nodes ≤ 5000) ∧ Hid (Own wr 25 (fun j => g ≤ j ∧ j < wr.heap.size) (.slice (some ⟨g, 0, none⟩) l.length l.length) xs) ∧ Hid (Below g w3 wr))
          (fun i _ => l.length - (intOf i).toNat)
      case atStart => exact ⟨0, _, Nat.zero_le _, rfl, by simp, Lib.hid rfl, Lib.hid (fun j t hj => absurd hj (Nat.not_lt_zero _)), Lib.hid (HO4.out.sub fun j hj => ⟨by omega, by have := HGT.out; omega⟩), Lib.hid (HG3.out ▸ HB34.out)⟩
      case round =>
        obtain ⟨k, xs, hk, rfl, hxl, HX, HFN, HOW, HBR⟩ := hrel
        clear HO4
        have HWR : Hid (Below w.heap.size w wr) := Lib.hid (by
          have h3 := HB3.out
          have h4 := HGT.out.2
          exact h3.trans (HBR.out.mono h4))
        have HXL := Lib.hid hxl
        clear hxl
        by_cases hlt : k < l.length
        · obtain ⟨x, hx⟩ : ∃ x, l[k]? = some x := ⟨_, List.getElem?_eq_getElem hlt⟩
          obtain ⟨y, hy⟩ : ∃ y, xs[k]? = some y := ⟨_, List.getElem?_eq_getElem (by rw [HXL.out]; omega)⟩
          obtain ⟨g0, off, u1', u2', rfl, hg, hq, hc, hch⟩ := HA.out.elem hx
          clear hq
          obtain ⟨d0, d1, d2, d3⟩ := hc _ HWR.out
          have hgw : g0 < wr.heap.size := Nat.lt_of_lt_of_le hg HWR.out.size
          have HTK : Hid ((l.take (k + 1)).map (putT s) = (l.take k).map (putT s) ++ [putT s x]) := Lib.hid (by rw [takeT hx, List.map_append]; rfl)
          have HOX := Lib.hid (all_ok HQ.out x (List.mem_of_getElem? hx))
          have HZX := Lib.hid (HE.out.at hx)
          have HY := Lib.hid hy
          have HXE := Lib.hid hx
          have HCH := Lib.hid (hch.kept HWR.out)
          clear hc hch hx hy
          go_upto_region 8 with (fail)
          have hal : Below wr.heap.size wr (wr.alloc (.cells #[.int .i64 x.kind, .int .i64 x.num, .string x.name, .slice u1' x.args.length u2'] 25)) := belowAlloc (Below.refl _ _) _
          have HBX := Lib.hid (heap_new wr (.cells #[.int .i64 x.kind, .int .i64 x.num, .string x.name, .slice u1' x.args.length u2'] 25))
          replace HOW : Hid (Own (wr.alloc (.cells #[.int .i64 x.kind, .int .i64 x.num, .string x.name, .slice u1' x.args.length u2'] 25)) 25 (fun j => g ≤ j ∧ j < wr.heap.size) (.slice (some ⟨g, 0, none⟩) l.length l.length) xs) := Lib.hid (HOW.out.kept hal)
          replace HCH := Lib.hid (HCH.out.kept hal)
          have HSR : Hid (g ≤ wr.heap.size) := Lib.hid (by have := HBR.out.size; have := HG3.out; omega)
          replace HBR : Hid (Below g w3 (wr.alloc (.cells #[.int .i64 x.kind, .int .i64 x.num, .string x.name, .slice u1' x.args.length u2'] 25))) := Lib.hid (HBR.out.trans (hal.mono HSR.out))
          replace HWR := Lib.hid (belowOn HWR.out (Nat.le_refl _) hal)
          have HSW := Lib.hid hal.size
          clear hal d0 d1 d2 d3 hgw
          generalize hw4 : wr.alloc (.cells #[.int .i64 x.kind, .int .i64 x.num, .string x.name, .slice u1' x.args.length u2'] 25) = w5 at HBX HOW HCH HBR HWR HSW ⊢
          clear hw4
          obtain ⟨nr, hnr⟩ : ∃ nr, wr.heap.size = nr := ⟨_, rfl⟩
          rw [hnr] at HBX HOW HSW HSR ⊢
          clear hnr
          obtain ⟨c0, c1, c2, c3, _⟩ := box_cells HBX.out
          have zt := (Array.getElem?_eq_some_iff.1 HBX.out).1
          have HC := Lib.hid (apply_any mb s x (.slice u1' x.args.length u2') w5 (HMO.out w5 (by rw [HG3.out]; exact HBR.out)) HSP.out.fits HCH.out HZX.out HOX.out.2)
          go_wp2_with fail
          refine HC.out.mono ?_
          rintro e w6 ⟨u, rfl, hn⟩
          obtain ⟨ua, uc, rfl⟩ := hn.1.argsAt.slice
          have HU6 := Lib.hid hn.1
          have HB6 := Lib.hid hn.2
          have HOW6 := Lib.hid (HOW.out.kept hn.2)
          have HBR6 : Hid (Below g w3 w6) := Lib.hid (HBR.out.trans (hn.2.mono (by have := HSR.out; have := HSW.out; omega)))
          have HWR6 := Lib.hid (belowOn HWR.out (Nat.le_refl _) hn.2)
          clear hn HC c0 c1 c2 c3 zt HOW HBR HWR
          by_cases hfit : (putT s x).nodes ≤ 5000
          · obtain ⟨hf1, hf2⟩ := fit_yes hfit
            rw [hf1] at HU6 ⊢
            rw [hf2]
            have HFN2 : Hid (∀ (j : Nat) (t : Tm), j < k + 1 → l[j]? = some t → (putT s t).nodes ≤ 5000) := Lib.hid fun j t hj ht => by
              by_cases e : j = k
              · subst e
                rw [HXE.out] at ht
                cases ht
                exact hfit
              · exact HFN.out j t (by omega) ht
            clear hfit hf1 hf2
            obtain ⟨t, ht⟩ : ∃ t, putT s x = t := ⟨_, rfl⟩
            rw [ht] at HU6 HTK ⊢
            clear ht
            go_upto_region 11 with (fail)
            have hal : Below w6.heap.size w6 (w6.alloc (.cells #[.int .i64 t.kind, .int .i64 t.num, .string t.name, .slice ua t.args.length uc] 25)) := belowAlloc (Below.refl _ _) _
            have HBT := Lib.hid (heap_new w6 (.cells #[.int .i64 t.kind, .int .i64 t.num, .string t.name, .slice ua t.args.length uc] 25))
            have HS7 : Hid (nr ≤ w5.heap.size ∧ w5.heap.size ≤ w6.heap.size ∧ w6.heap.size ≤ (w6.alloc (.cells #[.int .i64 t.kind, .int .i64 t.num, .string t.name, .slice ua t.args.length uc] 25)).heap.size ∧ g ≤ nr) := Lib.hid ⟨HSW.out, HB6.out.size, hal.size, HSR.out⟩
            have HOW7 := Lib.hid (HOW6.out.kept hal)
            have HU7 := Lib.hid (HU6.out.kept hal)
            have HBR7 := Lib.hid (HBR6.out.trans (hal.mono (by have := HS7.out; omega)))
            clear hal HOW6 HU6 HBR6 HB6 HWR6
            generalize hw7 : w6.alloc (.cells #[.int .i64 t.kind, .int .i64 t.num, .string t.name, .slice ua t.args.length uc] 25) = w7 at HBT HS7 HOW7 HU7 HBR7 ⊢
            clear hw7
            obtain ⟨n6, hn6⟩ : ∃ n6, w6.heap.size = n6 := ⟨_, rfl⟩
            rw [hn6] at HBT HS7 HU7 ⊢
            clear hn6
            obtain ⟨b0, b1, b2, b3, _⟩ := box_cells HBT.out
            have zt := (Array.getElem?_eq_some_iff.1 HBT.out).1
            obtain ⟨g4, cap4, V4, C4, hv4, _, _, hgl, f4, e0, e1, e2, e3, _⟩ := HOW7.out.at HY.out
            simp only [Value.slice.injEq, Option.some.injEq, Addr.mk.injEq] at hv4
            obtain ⟨⟨rfl, _⟩, hq, rfl⟩ := hv4
            clear hq
            have HP := Lib.hid (HOW7.out.put HY.out (t := t) HU7.out fun j hj hx => by have h1 := hj.1; have h2 := hx.2; have h3 := HS7.out; omega)
            have htl := List.getElem?_eq_some_iff.1 HY.out
            go_wp2
            go_roundw
            case rel =>
              have hP := HP.out
              have hs := hP.1.size
              have hs7 := HS7.out
              refine ⟨k + 1, xs.set k t, by omega, by go_num, by rw [List.length_set]; exact HXL.out, Lib.hid (by rw [take_set htl.1, HX.out, HTK.out]), HFN2, Lib.hid (hP.2.sub fun m hm => ?_), Lib.hid ⟨hP.1.os.trans HBR7.out.os, hP.1.tape.trans HBR7.out.tape, hP.1.output.trans HBR7.out.output, Nat.le_trans HBR7.out.size hP.1.size, fun j hj => (hP.1.block j (by omega) (fun h => by have := h.1; omega)).trans (HBR7.out.block j hj)⟩⟩
              unfold iv at hm
              rcases hm with hm | hm
              · exact ⟨hm.1, by omega⟩
              · exact ⟨by omega, by omega⟩
            case measure => simp [intOf]; omega
          · obtain ⟨hf1, hf2⟩ := fit_no hfit
            obtain ⟨rfl, rfl⟩ := HNO.out fun h => hfit (h.2.2 x (List.mem_of_getElem? HXE.out))
            rw [hf1] at HU6 ⊢
            rw [hf2]
            clear hfit hf1 hf2
            go_wp2
            go_ret2
            exact ⟨_, rfl, .nil _, belowAlloc HWR6.out _⟩
        · obtain rfl : k = l.length := by omega
          have HRP : Hid (ReP s l) := Lib.hid ⟨HSP.out, HQ.out, fun t ht => by
            obtain ⟨j, hj⟩ := List.getElem?_of_mem ht
            exact HFN.out j t (List.getElem?_eq_some_iff.1 hj).1 hj⟩
          obtain ⟨hr, rfl⟩ := HYES.out HRP.out
          have HRR := Lib.hid hr
          have HXE : Hid (xs = l.map (putT s)) := Lib.hid (by
            have h := HX.out
            rw [List.take_length, ← HXL.out, List.take_length] at h
            exact h)
          have HCA := Lib.hid (HOW.out.argsAt)
          rw [HXE.out] at HCA
          have HC := Lib.hid (implCanonical_e (l.map (putT s)) _ wr HCA.out (map_each (re_ok HRP.out) (by rw [List.length_map]; omega)))
          clear hr HNO HYES HOW HFN
          go_wp2_with fail
          refine HC.out.mono ?_
          rintro e w9 ⟨u, rfl, hu, hb⟩
          have HU9 := Lib.hid hu
          have HW9 := Lib.hid (belowOn HWR.out (Nat.le_refl _) hb)
          have HS9 := Lib.hid HWR.out.size
          clear hu hb HC
          go_wp2
          go_ret2
          exact ⟨_, rfl, by rw [HRR.out]; exact HU9.out.sub fun j hj => ⟨Nat.le_trans HS9.out hj.1, hj.2⟩, HW9.out⟩
theorem implReify_any (s : List Bd) (Vs : Value) (l : List Tm) (V : Value) (w : World) (hS : ListS bdE w Any Vs s) (hZs : szB s ≤ 1048576) (hF : fineB s) (hA : ArgsAt w V l) (hZ : szL l ≤ 1048576) :
    Calls Try.prog 23 #[Vs, V] w (NewL2 (reL s l) (reB s l) w) := implReify_e s Vs l V w hS (eachB_of hZs) hF.wf hA (eachT_of (by omega))
end Go.Proofs.Ytdgkhimledcfbaa

