/-
  The model's NewBindings.
-/
import Derived.Test.YtnbnepeikdieaabSpecSubs
import Derived.Test.YtnbnepeikdieaabImplNewB
namespace Go.Proofs.Ytnbnepeikdieaab
open Go.RowKit
set_option linter.unusedVariables false
set_option linter.unusedSimpArgs false

theorem nb_nk (s t : List Bd) : nkB (nbL s t) ≤ 4294967296 := by
  by_cases h : SubstP s ∧ SubstP t
  · rw [nb_yes h]
    have h1 := szB_each (M := 1048575) (newOf_each (s := s) h.2.each).2
    have h2 : (newOf s t).length ≤ 400 := Nat.le_trans (List.length_filter_le _ _) h.2.1.2.2
    have h3 : (newOf s t).length * (1048575 + 1) ≤ 400 * (1048575 + 1) := Nat.mul_le_mul_right _ h2
    have h4 := nkB_sz (newOf s t)
    omega
  · rw [nb_no h]; exact Nat.zero_le _

set_option maxRecDepth 100000 in
set_option maxHeartbeats 4000000 in
theorem specNew_any (s : List Bd) (Vs : Value) (t : List Bd) (Vt : Value) (w : World) (hA : ListS bdE w Any Vs s) (hLs : s.length ≤ 1048576) (hT : ListS bdE w Any Vt t) (hLt : t.length ≤ 1048576) :
    Calls Try.prog 14 #[Vs, Vt] w (OldB (newOf s t) w) := by
  obtain ⟨i0, hi, hz0, hz1, hz2⟩ := info_parts infoBinding
  have HII := Lib.hid (And.intro hi (And.intro hz0 (And.intro hz1 hz2)))
  obtain ⟨sa, sc, rfl⟩ := hA.slice
  obtain ⟨a, cap, rfl⟩ := hT.slice
  have HAS := Lib.hid hA
  have HA := Lib.hid hT.lowB
  have HR0 := Lib.hid (rowK_start (E := bdE) (e := 42) (w := w))
  have HW : Hid (Below w.heap.size w (w.alloc (.cells #[] 42))) := Lib.hid (belowAlloc (Below.refl _ _) _)
  clear hA hT hi hz0 hz1 hz2
  go_enter Try.func14, Try.ntmps14
  go_wp2
  go_loopw [5, 13] (fun lv iv wr => ∃ k : Nat, k ≤ t.length ∧ iv = .int .i64 k ∧ Hid (RowK bdE 42 wr w.heap.size lv (newOf s (t.take k))) ∧ Hid (Below w.heap.size w wr)) (fun _ iv _ => t.length - (intOf iv).toNat)
  case atStart => exact ⟨0, Nat.zero_le _, rfl, HR0, HW⟩
  case round =>
    obtain ⟨k, hk, rfl, HO, HB⟩ := hrel
    obtain ⟨oa, oc, rfl⟩ := HO.out.slice
    clear HR0 HW
    by_cases hlt : k < t.length
    · have hltI : (k : Int) < (t.length : Int) := by omega
      obtain ⟨x, hx⟩ : ∃ x, t[k]? = some x := ⟨_, List.getElem?_eq_getElem hlt⟩
      obtain ⟨g, off, u1, u2, rfl, hg, hq, hc, hu⟩ := HA.out.bd hx
      obtain ⟨d0, d1, d2, d3, d4⟩ := hc wr HB.out
      have HX := Lib.hid hx
      have HU := Lib.hid (hu.kept HB.out)
      obtain ⟨m, hm⟩ : ∃ m, m = (newOf s (t.take k)).length := ⟨_, rfl⟩
      have hmk : m ≤ 1048576 := by have := newOf_len s t k; omega
      rw [← hm]
      have HM := Lib.hid hm
      clear hq hc hu hx hm
      go_upto_region 5 with (fail)
      have hal : Below wr.heap.size wr (wr.alloc (.cells #[.int .i64 x.v, .int .i64 x.t.kind, .int .i64 x.t.num, .string x.t.name, .slice u1 x.t.args.length u2] 42)) := belowAlloc (Below.refl _ _) _
      have HBX := Lib.hid (at_box_of wr #[.int .i64 x.v, .int .i64 x.t.kind, .int .i64 x.t.num, .string x.t.name, .slice u1 x.t.args.length u2] 42 wr.heap.size rfl)
      have HO1 := Lib.hid (HO.out.kept hal)
      have HB1 := Lib.hid (belowOn HB.out (Nat.le_refl _) hal)
      have HU1 := Lib.hid (HU.out.kept hal)
      clear hal d0 d1 d2 d3 d4 HO HB HU
      generalize hw1 : wr.alloc (.cells #[.int .i64 x.v, .int .i64 x.t.kind, .int .i64 x.t.num, .string x.t.name, .slice u1 x.t.args.length u2] 42) = w1 at HBX HO1 HB1 HU1 ⊢
      clear hw1
      generalize wr.heap.size = nb at HBX ⊢
      have HC := Lib.hid (specGet_any s _ x.v Any w1 (HAS.out.kept HB1.out) hLs)
      generalize getT s x.v = y at HC
      obtain ⟨e0, e1, e2, e3, e4, ef⟩ := box_cells5 HBX.out.now
      go_wp2_with fail
      refine HC.out.mono ?_
      rintro e w2 ⟨u, rfl, hu, hb⟩
      obtain ⟨ya, yc, rfl⟩ := hu.at.slice
      clear e0 e1 e2 e3 e4 ef hu HC
      go_upto_region 6 with (fail)
      have hal : Below w1.heap.size w1 (w2.alloc (.cells #[.int .i64 y.kind, .int .i64 y.num, .string y.name, .slice ya y.args.length yc] 40)) := belowAlloc hb _
      replace HBX := Lib.hid (HBX.out.read hal)
      replace HO1 := Lib.hid (HO1.out.kept hal)
      replace HB1 := Lib.hid (belowOn HB1.out (Nat.le_refl _) hal)
      replace HU1 := Lib.hid (HU1.out.kept hal)
      clear hal hb
      generalize hw3 : w2.alloc (.cells #[.int .i64 y.kind, .int .i64 y.num, .string y.name, .slice ya y.args.length yc] 40) = w3 at HBX HO1 HB1 HU1 ⊢
      clear hw3
      obtain ⟨e0, e1, e2, e3, e4, ef⟩ := box_cells5 HBX.out.now
      cases hin : getB s x.v with
      | false =>
        have HK := Lib.hid (newOf_yes HX.out hin)
        obtain ⟨L, hL1, hrow, hch⟩ := HO1.out
        have hLn : m = L.length := by have := congrArg List.length hL1; rw [List.length_map, ← HM.out] at this; exact this
        rw [← hLn, ← HM.out] at hrow
        rw [← HM.out] at hch
        have hne := rowK_block HO1.out
        rw [← HM.out] at hne
        have HROW := Lib.hid hrow
        have HPA := Lib.hid (And.intro hL1 (And.intro hLn hch))
        have HNE := Lib.hid hne
        clear hne
        have hwz : w.heap.size ≤ w3.heap.size := HB1.out.size
        clear hL1 hLn hrow hch hin
        go_wp2_with (at_builtin; refine wpList_append_lies _ rfl _ _ 24 rfl w.heap.size 42 i0 _ 5 64 Try.underlying24 HII.out.1 HII.out.2.1 HII.out.2.2.1 HII.out.2.2.2 rfl (by omega) (.slice oa m oc) m (cellsE bdE L) rfl (HROW.out.alloc _) ⟨w3.heap.size, 0, none⟩ 1 1 (bdE.cells x (.slice u1 x.t.args.length u2)) rfl rfl (World.news_of_block (heap_alloc_new w3 _)) (by simp [bdE, Value.oneCell']) (by omega) (by unfold maxLen; omega) (by omega) (by simp; omega) (w3.heap.size + 1) (by simp) ?_; intro gg cap' w5 hown1 hgrow hat hlt1; have HAP := Lib.hid (And.intro hown1 (And.intro hgrow (And.intro hat hlt1))); clear hown1 hgrow hat hlt1)
        have HBF := Lib.hid ((belowAlloc HB1.out (.cells #[.int .i64 x.v, .int .i64 x.t.kind, .int .i64 x.t.num, .string x.t.name, .slice u1 x.t.args.length u2] 42)).trans (below_of_grown HAP.out.2.1 (by simp; omega) (fun j hj => (HNE.out j hj).1)))
        have HN : Hid (RowK bdE 42 w5 w.heap.size (.slice (some ⟨gg, 0, none⟩) (m + 1) cap') (newOf s (t.take (k + 1)))) := Lib.hid (by
          have h := rowK_append (E := bdE) (x := x) HPA.out.2.1 HROW.out HPA.out.2.2 (C := fun j => j < w.heap.size) HU1.out (fun b hb => ⟨Nat.lt_of_lt_of_le hb hwz, fun e => by have h1 := (HNE.out b e).1; omega⟩) (belowAlloc (Below.refl _ _) _) HAP.out.1 HAP.out.2.1 (HAP.out.2.2.1.imp id (fun h => by omega))
          rw [← HPA.out.1, ← HK.out] at h
          exact h)
        clear HAP HPA HROW HNE e0 e1 e2 e3 e4 ef
        go_wp2
        go_roundw
        case rel => exact ⟨k + 1, by omega, by go_num, HN, HBF⟩
        case measure => simp [intOf]; omega
      | true =>
        have HK := Lib.hid (newOf_not HX.out hin)
        clear hin e0 e1 e2 e3 e4 ef
        go_wp2
        go_roundw
        case rel => exact ⟨k + 1, by omega, by go_num, Lib.hid (by rw [HK.out, HM.out]; exact HO1.out), HB1⟩
        case measure => simp [intOf]; omega
    · obtain rfl : k = t.length := by omega
      obtain ⟨m, hm⟩ : ∃ m, m = (newOf s (t.take t.length)).length := ⟨_, rfl⟩
      rw [← hm]
      have HL : Hid (ListS bdE wr Any (.slice oa m oc) (newOf s t)) := Lib.hid (by have := HO.out.inS; rw [← hm, List.take_length] at this; exact this)
      clear hm HO
      go_wp2
      go_ret
      exact ⟨_, rfl, HL.out, HB.out⟩

set_option maxRecDepth 100000 in
set_option maxHeartbeats 2000000 in
theorem specNewBindings_any (s : List Bd) (Vs : Value) (t : List Bd) (Vt : Value) (w : World) (hA : ListS bdE w Any Vs s) (hZ : szB s ≤ 1048576) (hT : ListS bdE w Any Vt t) (hZt : szB t ≤ 1048576) :
    Calls Try.prog 5 #[Vs, Vt] w (OldB (nbL s t) w) := by
  obtain ⟨sa, sc, rfl⟩ := hA.slice
  obtain ⟨ta, tc, rfl⟩ := hT.slice
  have HE := Lib.hid (eachB_of hZ)
  have HF := Lib.hid (eachB_of hZt)
  have HA := Lib.hid hA
  have HT := Lib.hid hT
  have HYES := Lib.hid (fun h => nb_yes (s := s) (t := t) h)
  have HNO := Lib.hid (fun h => nb_no (s := s) (t := t) h)
  generalize nbL s t = r at HYES HNO ⊢
  have HC := Lib.hid (specSubstOk_any s _ w hA HE.out)
  clear hA hT
  go_enter Try.func5, Try.ntmps5
  go_wp2_with fail
  refine HC.out.mono ?_
  rintro e w0 ⟨rfl, hb⟩
  have HW := Lib.hid hb
  clear hb HC
  cases hs : substB s with
  | false =>
    obtain rfl := HNO.out fun h => substB_false.1 hs h.1
    clear hs
    go_wp2
    go_ret
    exact ⟨_, rfl, .nil _ _, HW.out⟩
  | true =>
  have HSP := Lib.hid (substB_true.1 hs)
  have HC := Lib.hid (specSubstOk_any t _ w0 (HT.out.kept HW.out) HF.out)
  clear hs
  go_wp2_with fail
  refine HC.out.mono ?_
  rintro e w1 ⟨rfl, hb⟩
  have HW1 := Lib.hid (belowOn HW.out (Nat.le_refl _) hb)
  clear hb HC HW
  cases ht : substB t with
  | false =>
    obtain rfl := HNO.out fun h => substB_false.1 ht h.2
    clear ht
    go_wp2
    go_ret
    exact ⟨_, rfl, .nil _ _, HW1.out⟩
  | true =>
  have HTP := Lib.hid (substB_true.1 ht)
  obtain rfl := HYES.out ⟨HSP.out, HTP.out⟩
  have HC := Lib.hid (specNew_any s _ t _ w1 (HA.out.kept HW1.out) HE.out.1 (HT.out.kept HW1.out) HF.out.1)
  clear ht HYES HNO
  go_wp2_with fail
  refine HC.out.mono ?_
  rintro e w2 ⟨v, rfl, hv, hb⟩
  have HW2 := Lib.hid (belowOn HW1.out (Nat.le_refl _) hb)
  have HC := Lib.hid (specCopyB_any (newOf s t) v w2 hv (newOf_each HF.out))
  obtain ⟨va, vc, rfl⟩ := hv.slice
  clear hv hb
  go_wp2_with fail
  refine HC.out.mono ?_
  rintro e w3 ⟨v, rfl, hv, hb⟩
  have HW3 := Lib.hid (belowOn HW2.out (Nat.le_refl _) hb)
  have HV := Lib.hid hv
  clear hv hb HC
  go_wp2
  go_ret
  exact ⟨_, rfl, HV.out, HW3.out⟩
end Go.Proofs.Ytnbnepeikdieaab

