/-
  RestrictSubst of the program; slices.Contains over integers.
-/
import Derived.Test.YtnbnepeikdieaaaCopiedB
import Derived.Test.YtnbnepeikdieaaaImplComp
import Derived.Deep.AppendLies
namespace Go.Proofs.Ytnbnepeikdieaaa
open Go.RowKit
set_option linter.unusedVariables false
set_option linter.unusedSimpArgs false

def IntIdx (vs : List Int) (n : Int) (w : World) (e : Ending) (w' : World) : Prop := ((n ∈ vs ∧ ∃ k : Nat, e = .returned (.int .i64 k)) ∨ (¬ n ∈ vs ∧ e = .returned (.int .i64 (-1)))) ∧ w = w'
set_option maxHeartbeats 400000 in
theorem indexInt_any (vs : List Int) (V : Value) (n : Int) (w : World) (h : Vals w V (vs.map (.int .i64))) (hl : vs.length ≤ 1048576) :
    Calls Try.prog 85 #[V, .int .i64 n] w (IntIdx vs n w) := by
  obtain ⟨a, cap, rfl, hv⟩ := h
  rw [List.length_map]
  have HV := Lib.hid hv
  have HYES : Hid (∀ (k : Nat), vs[k]? = some n → n ∈ vs) := Lib.hid fun k hk => List.mem_of_getElem? hk
  have HNO : Hid ((∀ (i : Nat) (y : Int), i < vs.length → vs[i]? = some y → ¬ y = n) → ¬ n ∈ vs) := Lib.hid fun h hm => by
    obtain ⟨i, hi⟩ := List.getElem?_of_mem hm
    exact h i n (List.getElem?_eq_some_iff.1 hi).1 hi rfl
  unfold IntIdx
  generalize (n ∈ vs) = r at HYES HNO ⊢
  clear hv
  go_enter Try.func85, Try.ntmps85
  go_wp2
  go_loop [8] (fun iv => ∃ k : Nat, k ≤ vs.length ∧ iv = .int .i64 k ∧ Hid (∀ (i : Nat) (y : Int), i < k → vs[i]? = some y → ¬ y = n)) (fun iv => vs.length - (intOf iv).toNat)
  case atStart => exact ⟨0, Nat.zero_le _, rfl, Lib.hid (fun i y hi => absurd hi (Nat.not_lt_zero _))⟩
  case round =>
    obtain ⟨k, hk, rfl, HN⟩ := hrel
    by_cases hlt : k < vs.length
    · have hltI : (k : Int) < (vs.length : Int) := by omega
      obtain ⟨y, hy⟩ : ∃ y, vs[k]? = some y := ⟨_, List.getElem?_eq_getElem hlt⟩
      obtain ⟨g, off, rfl, hg, hc⟩ : ∃ g off, a = some ⟨g, off, none⟩ ∧ g < w.heap.size ∧ ∀ j x, (vs.map (Value.int .i64))[j]? = some x → w.cell? ⟨g, off + j, none⟩ = some x := by
        rcases HV.out with h | h
        · rw [List.map_eq_nil_iff] at h; rw [h] at hlt; exact absurd hlt (Nat.not_lt_zero _)
        · exact h
      have c1 := hc k (.int .i64 y) (by rw [List.getElem?_map, hy]; rfl)
      have HY := Lib.hid hy
      clear hc hy
      by_cases e : n = y
      · have d : (n == y) = true := by rw [e]; exact beq_self_eq_true _
        have HR := Lib.hid (HYES.out k (by rw [HY.out, e]))
        clear e
        go_wp2
        go_ret
        exact ⟨.inl ⟨HR.out, k, rfl⟩, rfl⟩
      · have d : (n == y) = false := beq_eq_false_iff_ne.2 e
        have HE := Lib.hid e
        clear e
        go_wp2
        go_round
        case rel =>
          refine ⟨k + 1, by omega, by go_num, Lib.hid fun i z hi hz => ?_⟩
          by_cases q : i = k
          · subst q
            cases hz.symm.trans HY.out
            exact fun h => HE.out h.symm
          · exact HN.out i z (by omega) hz
        case measure => simp [intOf]; omega
    · obtain rfl : k = vs.length := by omega
      have HR := Lib.hid (HNO.out HN.out)
      go_wp2
      go_ret
      exact ⟨.inr ⟨HR.out, rfl⟩, rfl⟩
set_option maxRecDepth 100000 in
set_option maxHeartbeats 400000 in
theorem containsInt_any (vs : List Int) (V : Value) (n : Int) (w : World) (h : Vals w V (vs.map (.int .i64))) (hl : vs.length ≤ 1048576) :
    Calls Try.prog 60 #[V, .int .i64 n] w fun e w' => e = .returned (.bool (decide (n ∈ vs))) ∧ w = w' := by
  have HC := Lib.hid (indexInt_any vs V n w h hl)
  have HYES : Hid (n ∈ vs → decide (n ∈ vs) = true) := Lib.hid fun h => decide_eq_true h
  have HNO : Hid (¬ n ∈ vs → decide (n ∈ vs) = false) := Lib.hid fun h => decide_eq_false h
  generalize decide (n ∈ vs) = r at HYES HNO ⊢
  obtain ⟨a, cap, rfl, _⟩ := h
  rw [List.length_map] at HC ⊢
  unfold IntIdx at HC
  go_enter Try.func60, Try.ntmps60
  go_wp2_with fail
  refine HC.out.mono ?_
  rintro e w1 ⟨⟨hm, k, rfl⟩ | ⟨hm, rfl⟩, rfl⟩
  · obtain rfl := HYES.out hm
    have hk0 : (0 : Int) ≤ (k : Int) := by omega
    have d : decide ((0 : Int) ≤ (k : Int)) = true := decide_eq_true hk0
    clear HC hm HYES HNO
    go_wp2
    go_ret
    exact ⟨by simp, rfl⟩
  · obtain rfl := HNO.out hm
    clear HC hm HYES HNO
    go_wp2
    go_ret
    exact ⟨rfl, rfl⟩

set_option maxRecDepth 100000 in
set_option maxHeartbeats 4000000 in
theorem implRestrict_any (s : List Bd) (V : Value) (vs : List Int) (U : Value) (w : World) (hA : ListS bdE w Any V s) (hZ : szB s ≤ 1048576) (hF : fineB s) (hV : Vals w U (vs.map (.int .i64))) (hl : vs.length ≤ 1048576) :
    Calls Try.prog 27 #[V, U] w (NewB (rsB s vs) w) := by
  obtain ⟨i0, hi, hz0, hz1, hz2⟩ := info_parts infoBinding
  have HII := Lib.hid (And.intro hi (And.intro hz0 (And.intro hz1 hz2)))
  obtain ⟨a, cap, rfl⟩ := hA.slice
  have HE := Lib.hid (eachB_of hZ)
  have hL : s.length ≤ 1048576 := HE.out.1
  have HF := Lib.hid hF.wf
  have HA := Lib.hid hA
  have HV := Lib.hid hV
  obtain ⟨va, vc, rfl, _⟩ := hV
  rw [List.length_map] at HV ⊢
  have HYES := Lib.hid (fun h => rs_yes (s := s) (vs := vs) h)
  have HNO := Lib.hid (fun h => rs_no (s := s) (vs := vs) h)
  generalize rsB s vs = r at HYES HNO ⊢
  have HC := Lib.hid (implSubstOk_e s _ w hA HE.out HF.out)
  clear hA hF hi hz0 hz1 hz2
  go_enter Try.func27, Try.ntmps27
  go_wp2_with fail
  refine HC.out.mono ?_
  rintro e w0 ⟨rfl, hb⟩
  have HW := Lib.hid hb
  clear hb HC
  cases hs : substB s with
  | false =>
    obtain rfl := HNO.out (substB_false.1 hs)
    clear hs
    go_wp2
    go_ret
    exact ⟨_, rfl, .nil, HW.out⟩
  | true =>
  have HS := Lib.hid (substB_true.1 hs)
  obtain rfl := HYES.out HS.out
  clear hs HYES HNO
  go_wp2
  go_loopw [5, 13] (fun lv cv wr => ∃ k : Nat, k ≤ s.length ∧ cv = .int .i64 k ∧ Hid (ListO bdE 60 wr (iv w0.heap.size wr.heap.size) lv (keep (s.take k) vs)) ∧ Hid (Below w0.heap.size w0 wr)) (fun _ cv _ => s.length - (intOf cv).toNat)
  case atStart => exact ⟨0, Nat.zero_le _, rfl, Lib.hid .nil, Lib.hid (Below.refl _ _)⟩
  case round =>
    obtain ⟨k, hk, rfl, HO, HB⟩ := hrel
    obtain ⟨oa, oc, rfl⟩ := HO.out.slice
    by_cases hlt : k < s.length
    · have hltI : (k : Int) < (s.length : Int) := by omega
      obtain ⟨x, hx⟩ : ∃ x, s[k]? = some x := ⟨_, List.getElem?_eq_getElem hlt⟩
      obtain ⟨g, off, u1, u2, rfl, hg, hq, hc, hu⟩ := HA.out.bd hx
      obtain ⟨d0, d1, d2, d3, d4⟩ := hc wr (belowOn HW.out (Nat.le_refl _) HB.out)
      have HX := Lib.hid hx
      have HXG := Lib.hid (HS.out.good x (List.mem_of_getElem? hx))
      have HU := Lib.hid (at_args (hu.at.kept (belowOn HW.out (Nat.le_refl _) HB.out)))
      have hxz : x.t.sz ≤ 1048576 := by have := HE.out.2 x (List.mem_of_getElem? hx); omega
      obtain ⟨m, hm⟩ : ∃ m, m = (keep (s.take k) vs).length := ⟨_, rfl⟩
      have hmk : m ≤ 1048576 := by have := keep_len s vs k; omega
      rw [← hm]
      have HM := Lib.hid hm
      clear hq hc hu hx hm
      go_upto_region 7 with (fail)
      have hal : Below wr.heap.size wr (wr.alloc (.cells #[.int .i64 x.v, .int .i64 x.t.kind, .int .i64 x.t.num, .string x.t.name, .slice u1 x.t.args.length u2] 60)) := belowAlloc (Below.refl _ _) _
      have HBX := Lib.hid (at_box_of wr #[.int .i64 x.v, .int .i64 x.t.kind, .int .i64 x.t.num, .string x.t.name, .slice u1 x.t.args.length u2] 60 wr.heap.size rfl)
      have HO1 := Lib.hid ((HO.out.kept hal).sub (fun j hj => (⟨hj.1, by have := hj.2; have := hal.size; omega⟩ : iv w0.heap.size (wr.alloc (.cells #[.int .i64 x.v, .int .i64 x.t.kind, .int .i64 x.t.num, .string x.t.name, .slice u1 x.t.args.length u2] 60)).heap.size j)))
      have HB1 := Lib.hid (belowOn HB.out (Nat.le_refl _) hal)
      have HU1 := Lib.hid (HU.out.read hal)
      clear hal d0 d1 d2 d3 d4 HO HB HU
      generalize hw1 : wr.alloc (.cells #[.int .i64 x.v, .int .i64 x.t.kind, .int .i64 x.t.num, .string x.t.name, .slice u1 x.t.args.length u2] 60) = w1 at HBX HO1 HB1 HU1 ⊢
      clear hw1
      generalize wr.heap.size = nb at HBX ⊢
      have HC := Lib.hid (containsInt_any vs _ x.v w1 (HV.out.kept (belowOn HW.out (Nat.le_refl _) HB1.out)) hl)
      obtain ⟨e0, e1, e2, e3, e4, ef⟩ := box_cells5 HBX.out.now
      go_wp2_with fail
      refine HC.out.mono ?_
      rintro e w2 ⟨rfl, rfl⟩
      cases hin : decide (x.v ∈ vs) with
      | true =>
        have HK := Lib.hid (keep_yes HX.out hin)
        have HCO := Lib.hid (copiedB_any x _ w1 HU1.out.argsAt hxz HXG.out)
        clear hin HC
        go_wp2_with fail
        refine HCO.out.mono ?_
        rintro e w2 ⟨u, rfl, hn⟩
        obtain ⟨ua, uc, rfl⟩ := hn.1.argsAt.slice
        have HN := Lib.hid hn
        obtain ⟨L, C, hL1, hrow, hbk, hr, hC, hd⟩ := (HO1.out.kept hn.2).parts
        have hLn : m = L.length := by have := congrArg List.length hL1; rw [List.length_map, ← HM.out] at this; exact this
        rw [← hLn, ← HM.out] at hrow
        rw [← HM.out] at hbk hC
        have HROW := Lib.hid hrow
        have HPA := Lib.hid (And.intro hL1 (And.intro hLn (And.intro hbk (And.intro hr (And.intro hC hd)))))
        have HB2 := Lib.hid (belowOn HB1.out (Nat.le_refl _) hn.2)
        have hs2 := hn.2.size
        clear hL1 hLn hrow hbk hr hC hd hn HCO e0 e1 e2 e3 e4 ef
        go_wp2_with (at_builtin; refine wpList_append_lies _ rfl _ _ 25 rfl 0 60 i0 _ 5 64 Try.underlying25 HII.out.1 HII.out.2.1 HII.out.2.2.1 HII.out.2.2.2 rfl (by omega) (.slice oa m oc) m (cellsE bdE L) rfl (HROW.out.alloc _) ⟨w2.heap.size, 0, none⟩ 1 1 (bdE.cells x (.slice ua x.t.args.length uc)) rfl rfl (World.news_of_block (heap_alloc_new w2 _)) (by simp [bdE, Value.oneCell']) (by omega) (by unfold maxLen; omega) (by omega) (Nat.zero_le _) (w2.heap.size + 1) (by simp) ?_; intro gg cap' w3 hown1 hgrow hat hlt1; have HAP := Lib.hid (And.intro hown1 (And.intro hgrow (And.intro hat hlt1))); clear hown1 hgrow hat hlt1)
        have HLO : Hid (ListO bdE 60 w3 (iv w0.heap.size w3.heap.size) (.slice (some ⟨gg, 0, none⟩) (m + 1) cap') (keep (s.take (k + 1)) vs)) := Lib.hid (by
          have hgs := HAP.out.2.1.size
          simp only [World.size_alloc] at hgs
          have hb1 := HB1.out.size
          have h := listO_append (E := bdE) (x := x) (S' := iv w0.heap.size w3.heap.size) HPA.out.2.1 HPA.out.2.2.1 HPA.out.2.2.2.1 HPA.out.2.2.2.2.1 HPA.out.2.2.2.2.2 HN.out.1 (fun j hj => by have := hj.2; omega) (fun j hj => ⟨hj.2, fun h => by have h1 := hj.1; have h2 := h.2; omega⟩) (belowAlloc (Below.refl _ _) _) HAP.out.1 HAP.out.2.1 (HAP.out.2.2.1.imp id (fun h => by omega)) (fun j hj => by
            have hl := HAP.out.2.2.2
            rcases hj with hj | hj | hj
            · exact ⟨hj.1, by have := hj.2; omega⟩
            · exact ⟨by have := hj.1; omega, by have := hj.2; omega⟩
            · subst hj
              refine ⟨?_, hl⟩
              rcases HAP.out.2.2.1 with h | h
              · exact (HPA.out.2.2.1 _ h).1
              · omega)
          rw [← HPA.out.1, ← HK.out] at h
          exact h)
        have HBF : Hid (Below w0.heap.size w0 w3) := Lib.hid ((belowAlloc HB2.out _).trans (below_of_grown HAP.out.2.1 (by have := HB2.out.size; simp; omega) (fun j hj => by have h := (HPA.out.2.2.1 j hj).1; omega)))
        clear HAP HPA HROW HN
        go_wp2
        go_roundw
        case rel => exact ⟨k + 1, by omega, by go_num, HLO, HBF⟩
        case measure => simp [intOf]; omega
      | false =>
        have HK := Lib.hid (keep_not HX.out hin)
        clear hin HC e0 e1 e2 e3 e4 ef
        go_wp2
        go_roundw
        case rel => exact ⟨k + 1, by omega, by go_num, Lib.hid (by rw [HK.out, HM.out]; exact HO1.out), HB1⟩
        case measure => simp [intOf]; omega
    · obtain rfl : k = s.length := by omega
      have HL : Hid (ListO bdE 60 wr (iv w0.heap.size wr.heap.size) (.slice oa (keep (s.take s.length) vs).length oc) (keep s vs)) := Lib.hid (by have := HO.out; rw [List.take_length] at this ⊢; exact this)
      clear HO
      go_wp2
      go_ret
      exact ⟨_, rfl, HL.out.sub fun j hj => ⟨by have := hj.1; have := HW.out.size; omega, hj.2⟩, belowOn HW.out (Nat.le_refl _) HB.out⟩
end Go.Proofs.Ytnbnepeikdieaaa

