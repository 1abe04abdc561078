/-
  The program's Canonical and Reify.
-/
import Derived.Test.YtoihimdfmncdoaaImplName
namespace Go.Proofs.Ytoihimdfmncdoaa
open Go.RowKit
set_option linter.unusedVariables false
set_option linter.unusedSimpArgs false

theorem takeT {l : List Tm} {j : Nat} {t : Tm} (h : l[j]? = some t) : l.take (j + 1) = l.take j ++ [t] := by
  rw [List.take_add_one, h]; rfl
theorem take_set {xs : List Tm} {k : Nat} {t : Tm} (h : k < xs.length) : (xs.set k t).take (k + 1) = xs.take k ++ [t] := by
  rw [takeT (List.getElem?_set_self h), List.take_set_of_le (Nat.le_refl _)]
theorem canNamer (nb b lo : Nat) (K : List Int) (hK : K.length ≤ 1048576) (hnb : nb < lo) (hb : b < lo) : Namer 105 (.pointer (some ⟨nb, 0, none⟩)) (fun v => ((idxI K v : Nat) : Int)) (fun j => j = b) lo (fun vs W => NumW nb b K vs W ∧ lo ≤ W.heap.size) where
  call v vs w h hv := (number_any nb b K vs v w h.1 hv hK).mono fun e w' ⟨h1, h2, h3⟩ => ⟨h1, ⟨h2, Nat.le_trans h.2 h3.size⟩, h3⟩
  off vs w w' S h ho hS := ⟨h.1.off ho (fun hs => by have := hS _ hs; omega) (fun hs => by have := hS _ hs; omega), Nat.le_trans h.2 ho.size⟩
  low vs w h := h.2
  maps vs w h j hj _ := by rw [hj]; exact h.1.isMp
  tlo j hj := by rw [hj]; exact hb

set_option maxRecDepth 100000 in
set_option maxHeartbeats 4000000 in
theorem implCanonical_e (l : List Tm) (V : Value) (w : World) (hA : ArgsAt w V l) (hE : EachT l) :
    Calls Try.prog 18 #[V] w fun e w' => ∃ u, e = .returned u ∧ Own w' 25 (iv w.heap.size w'.heap.size) u (cnL l) ∧ Below w.heap.size w w' := by
  obtain ⟨i0, hi, hz0, hz1, hz2⟩ := info_parts infoTerm
  obtain ⟨a, cap, rfl⟩ := hA.slice
  have HO := Lib.hid (termsOk_e l _ w hA hE)
  have HA := Lib.hid hA
  have HE := Lib.hid hE
  have hL := hE.1
  obtain ⟨q, hq⟩ : ∃ q, l.all okB = q := ⟨_, rfl⟩
  unfold allOkB at HO
  rw [hq] at HO
  have HQ := Lib.hid hq
  clear hA hE hq
  go_enter Try.func18, Try.ntmps18
  go_wp2_with fail
  refine HO.out.mono ?_
  rintro e w1 ⟨rfl, hb⟩
  have HB1 := Lib.hid hb
  clear hb HO
  cases q with
  | false =>
    go_wp2
    go_ret
    exact ⟨_, rfl, by rw [cn_no HQ.out]; exact .nil _, HB1.out⟩
  | true =>
    have HV : Hid (cnL l = l.map (canT (ordOf l))) := Lib.hid (cn_yes HQ.out)
    have hol := ord_len HQ.out
    go_wp2_with (at_make; refine wpList_make_full _ rfl _ _ 23 rfl 0 25 i0 _ 4 Try.underlying23 hi hz0 hz1 _ _ _ _ l.length rfl rfl rfl rfl (by rw [hz2]; omega) (by unfold maxLen; omega) (Nat.zero_le _) ?_; intro w2 hown hg; have HO1 := Lib.hid hown; have HG1 := Lib.hid hg; clear hown hg)
    have HB2 := Lib.hid (below_of_grown (B := w1.heap.size) HG1.out (Nat.le_refl _) (fun k hk => by cases hk))
    have HGT : Hid (w1.heap.size < w2.heap.size) := Lib.hid (row_hit HO1.out)
    have HO2 := Lib.hid (own_made (S := fun j => j = w1.heap.size) HO1.out rfl)
    clear HO1 HG1 hi hz0 hz1 hz2
    have HB12 := Lib.hid HB1.out.size
    obtain ⟨g, hg⟩ : ∃ g, w1.heap.size = g := ⟨_, rfl⟩
    replace HB2 := Lib.hid (belowOn HB1.out (Nat.le_refl _) HB2.out)
    rw [hg] at HO2 HGT HB12 ⊢
    clear hg HB1
    have HNM := Lib.hid (numbering_any (vlL l) w2)
    go_wp2_with fail
    refine HNM.out.mono ?_
    rintro e w3 ⟨nb, b, rfl, hN, ⟨hl1, hl2⟩, hb⟩
    have HN := Lib.hid hN
    have HBB : Hid (nb < w3.heap.size ∧ b < w3.heap.size ∧ w2.heap.size ≤ nb ∧ w2.heap.size ≤ b) := Lib.hid ⟨hN.lt.1, hN.lt.2, hl1, hl2⟩
    have HB3 := Lib.hid (belowOn HB2.out (Nat.le_refl _) hb)
    have HO3 := Lib.hid (HO2.out.kept hb)
    have HS3 : Hid (w2.heap.size ≤ w3.heap.size) := Lib.hid hb.size
    clear hN hl1 hl2 hb HNM HB2 HO2
    obtain ⟨K, hK⟩ : ∃ K, ordL [] (vlL l) = K := ⟨_, rfl⟩
    have HVK : Hid (cnL l = l.map (canT K)) := Lib.hid (by rw [HV.out, ← hK]; rfl)
    have HKL : Hid (K.length ≤ 1048576) := Lib.hid (by rw [← hK]; unfold ordOf at hol; omega)
    rw [hK] at HN
    clear hK hol HV
    have HNA := Lib.hid (canNamer nb b w3.heap.size K HKL.out HBB.out.1 HBB.out.2.1)
    go_wp2
    go_loopw [16] (fun i wr => ∃ (k : Nat) (xs : List Tm), k ≤ l.length ∧ i = .int .i64 k ∧ xs.length = l.length ∧ Hid (xs.take k = (l.take k).map (canT K)) ∧ Hid (Own wr 25 (fun j => (j = g ∨ w3.heap.size ≤ j) ∧ j < wr.heap.size) (.slice (some ⟨g, 0, none⟩) l.length l.length) xs) ∧ Hid (NumW nb b K (vlL (l.drop k)) wr) ∧ Hid (Only (fun j => j = b ∨ j = g) w3 wr))
        (fun i _ => l.length - (intOf i).toNat)
    case atStart => exact ⟨0, _, Nat.zero_le _, rfl, by simp, Lib.hid rfl, Lib.hid (HO3.out.sub fun j hj => ⟨.inl hj, by have := HGT.out; have := HS3.out; omega⟩), HN, Lib.hid (Only.refl _ _)⟩
    case round =>
      obtain ⟨k, xs, hk, rfl, hxl, HX, HOW, HNR, HOR⟩ := hrel
      clear HO3 HN
      have HWR : Hid (Below w.heap.size w wr) := Lib.hid (by
        have h1 := HOR.out
        have h2 := HBB.out
        have h3 := HB12.out
        have h4 := HGT.out
        exact HB3.out.trans ⟨h1.os, h1.tape, h1.output, h1.size, fun j hj => h1.block j (Nat.lt_of_lt_of_le hj HB3.out.size) (by omega)⟩)
      have HXL := Lib.hid hxl
      have HSR := Lib.hid HOR.out.size
      clear hxl
      by_cases hlt : k < l.length
      · obtain ⟨x, hx⟩ : ∃ x, l[k]? = some x := ⟨_, List.getElem?_eq_getElem hlt⟩
        obtain ⟨y, hy⟩ : ∃ y, xs[k]? = some y := ⟨_, List.getElem?_eq_getElem (by rw [HXL.out]; omega)⟩
        obtain ⟨g0, off, u1', u2', rfl, hg, hq, hc, hch⟩ := HA.out.elem hx
        clear hq
        obtain ⟨d0, d1, d2, d3⟩ := hc _ HWR.out
        have hgw : g0 < wr.heap.size := Nat.lt_of_lt_of_le hg HWR.out.size
        have HVT : Hid (vlL (l.drop k) = x.vl ++ vlL (l.drop (k + 1))) := Lib.hid (by rw [drop_consT hx, vlL_cons])
        have HTK : Hid ((l.take (k + 1)).map (canT K) = (l.take k).map (canT K) ++ [canT K x]) := Lib.hid (by rw [takeT hx, List.map_append]; rfl)
        have HOX := Lib.hid (all_ok HQ.out x (List.mem_of_getElem? hx))
        have HZX := Lib.hid (HE.out.at hx)
        have HY := Lib.hid hy
        have HCH := Lib.hid (hch.kept HWR.out)
        clear hc hch hx hy
        go_upto_region 8 with (fail)
        have hal : Below wr.heap.size wr (wr.alloc (.cells #[.int .i64 x.kind, .int .i64 x.num, .string x.name, .slice u1' x.args.length u2'] 25)) := belowAlloc (Below.refl _ _) _
        have HBX := Lib.hid (heap_new wr (.cells #[.int .i64 x.kind, .int .i64 x.num, .string x.name, .slice u1' x.args.length u2'] 25))
        replace HOW : Hid (Own (wr.alloc (.cells #[.int .i64 x.kind, .int .i64 x.num, .string x.name, .slice u1' x.args.length u2'] 25)) 25 (fun j => (j = g ∨ w3.heap.size ≤ j) ∧ j < wr.heap.size) (.slice (some ⟨g, 0, none⟩) l.length l.length) xs) := Lib.hid (HOW.out.kept hal)
        replace HNR := Lib.hid (HNR.out.kept hal)
        replace HCH := Lib.hid (HCH.out.kept hal)
        replace HOR := Lib.hid (HOR.out.trans (Only.of_below (S := fun j => j = b ∨ j = g) hal))
        have HSW : Hid (w3.heap.size ≤ wr.heap.size ∧ wr.heap.size ≤ (wr.alloc (.cells #[.int .i64 x.kind, .int .i64 x.num, .string x.name, .slice u1' x.args.length u2'] 25)).heap.size) := Lib.hid ⟨HSR.out, hal.size⟩
        clear hal d0 d1 d2 d3 hgw HWR
        generalize hw4 : wr.alloc (.cells #[.int .i64 x.kind, .int .i64 x.num, .string x.name, .slice u1' x.args.length u2'] 25) = w4 at HBX HOW HNR HCH HOR HSW ⊢
        clear hw4
        obtain ⟨nr, hnr⟩ : ∃ nr, wr.heap.size = nr := ⟨_, rfl⟩
        rw [hnr] at HBX HOW HSW ⊢
        clear hnr
        obtain ⟨c0, c1, c2, c3, _⟩ := box_cells HBX.out
        have zt := (Array.getElem?_eq_some_iff.1 HBX.out).1
        have HC := Lib.hid (renamedN_any HNA.out (x.nodes + 1) x (.slice u1' x.args.length u2') (vlL (l.drop (k + 1))) w4 (Nat.lt_succ_self _) HCH.out HOX.out.2 HZX.out ⟨by have h := HNR.out; rw [HVT.out] at h; exact h, by have := HSW.out; omega⟩)
        have HCT : Hid (renT (fun v => ((idxI K v : Nat) : Int)) x = canT K x) := Lib.hid rfl
        unfold RenR at HC
        rw [HCT.out] at HC
        obtain ⟨t, ht⟩ : ∃ t, canT K x = t := ⟨_, rfl⟩
        rw [ht] at HC HTK
        clear ht HCT
        go_wp2_with fail
        refine HC.out.mono ?_
        rintro e w5 ⟨u, rfl, hown5, hi5, ho5⟩
        obtain ⟨ua, uc, rfl⟩ := hown5.argsAt.slice
        have hbb := HBB.out
        have hgt := HGT.out
        have HOW5 := Lib.hid (HOW.out.only ho5 fun j hj e => by rcases hj.1 with h | h <;> omega)
        have HN5 := Lib.hid hi5.1
        have HO5 : Hid (Only (fun j => j = b ∨ j = g) w3 w5) := Lib.hid (HOR.out.trans (ho5.sub fun j hj => .inl hj))
        have HS5 := Lib.hid (And.intro HSW.out (And.intro ho5.size hi5.2))
        have HU5 := Lib.hid hown5
        clear hown5 hi5 ho5 HC c0 c1 c2 c3 zt hbb hgt
        obtain ⟨g4, cap4, V4, C4, hv4, _, _, hgl, f4, e0, e1, e2, e3, _⟩ := HOW5.out.at HY.out
        simp only [Value.slice.injEq, Option.some.injEq, Addr.mk.injEq] at hv4
        obtain ⟨⟨rfl, _⟩, hq, rfl⟩ := hv4
        clear hq
        have HP := Lib.hid (HOW5.out.put HY.out (t := t) HU5.out fun j hj hx => by have h1 := hj.1; have h2 := hx.2; have h3 := HS5.out.1.2; omega)
        have htl := List.getElem?_eq_some_iff.1 HY.out
        go_wp2
        go_roundw
        case rel =>
          have hP := HP.out
          have hs := hP.1.size
          have hs5 := HS5.out
          have hbb := HBB.out
          have hgt := HGT.out
          refine ⟨k + 1, xs.set k t, by omega, by go_num, by rw [List.length_set]; exact HXL.out, Lib.hid (by rw [take_set htl.1, HX.out, HTK.out]), Lib.hid (hP.2.sub fun m hm => ?_), Lib.hid (HN5.out.off hP.1 (fun h => by rcases h.1 with h | h <;> omega) (fun h => by rcases h.1 with h | h <;> omega)), Lib.hid ?_⟩
          · unfold iv at hm
            rcases hm with hm | hm
            · exact ⟨hm.1, by omega⟩
            · exact ⟨.inr (by omega), by omega⟩
          · exact ⟨hP.1.os.trans HO5.out.os, hP.1.tape.trans HO5.out.tape, hP.1.output.trans HO5.out.output, Nat.le_trans HO5.out.size hP.1.size, fun j hj hn => (hP.1.block j (Nat.lt_of_lt_of_le hj HO5.out.size) (fun h => by rcases h.1 with h | h <;> omega)).trans (HO5.out.block j hj hn)⟩
        case measure => simp [intOf]; omega
      · obtain rfl : k = l.length := by omega
        have HR : Hid (Own wr 25 (iv w.heap.size wr.heap.size) (.slice (some ⟨g, 0, none⟩) l.length l.length) (cnL l)) := Lib.hid (by
          have e : xs = cnL l := by
            have h := HX.out
            rw [List.take_length, ← HXL.out, List.take_length, ← HVK.out] at h
            exact h
          rw [← e]
          refine HOW.out.sub fun j hj => ⟨?_, hj.2⟩
          have h1 := HB12.out
          have h2 := HB3.out.size
          rcases hj.1 with h | h <;> omega)
        clear HOW HNR HOR
        go_wp2
        go_ret
        exact ⟨_, rfl, HR.out, HWR.out⟩
theorem implCanonical_any (l : List Tm) (V : Value) (w : World) (hA : ArgsAt w V l) (hZ : szL l ≤ 1048576) :
    Calls Try.prog 18 #[V] w fun e w' => ∃ u, e = .returned u ∧ Own w' 25 (iv w.heap.size w'.heap.size) u (cnL l) ∧ Below w.heap.size w w' := implCanonical_e l V w hA (eachT_of (by omega))
end Go.Proofs.Ytoihimdfmncdoaa

