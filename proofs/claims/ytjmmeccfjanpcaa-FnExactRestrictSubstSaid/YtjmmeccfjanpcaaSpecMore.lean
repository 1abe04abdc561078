/-
  The model's l02Same, MoreGeneral.
-/
import Derived.Test.YtjmmeccfjanpcaaSpecLookup
namespace Go.Proofs.Ytjmmeccfjanpcaa
open Go.RowKit
set_option linter.unusedVariables false
set_option linter.unusedSimpArgs false

set_option maxHeartbeats 400000 in
theorem specSame_any (a b : Tm) (Va Vb : Value) (w : World) (hA : ArgsAt w Va a.args) (hB : ArgsAt w Vb b.args) (hZa : a.sz ≤ 1048576) (hZb : b.sz ≤ 1048576) :
    Calls Try.prog 65 #[.agg #[.int .i64 a.kind, .int .i64 a.num, .string a.name, Va], .agg #[.int .i64 b.kind, .int .i64 b.num, .string b.name, Vb]] w fun e w' => e = .returned (.bool (a.cmp b == 0)) ∧ Below w.heap.size w w' := by
  obtain ⟨aa, ca, rfl⟩ := hA.slice
  obtain ⟨ab, cb, rfl⟩ := hB.slice
  have hal : Below w.heap.size w ((w.alloc (.cells #[.int .i64 a.kind, .int .i64 a.num, .string a.name, .slice aa a.args.length ca] 31)).alloc (.cells #[.int .i64 b.kind, .int .i64 b.num, .string b.name, .slice ab b.args.length cb] 31)) := belowAlloc (belowAlloc (Below.refl _ _) _) _
  have HC := Lib.hid (specCmp_any (a.nodes + 1) a b _ _ _ (Nat.lt_succ_self _) (hA.kept hal) (hB.kept hal) hZa hZb)
  have HW := Lib.hid hal
  clear hal hA hB
  go_enter Try.func65, Try.ntmps65
  go_wp2_with fail
  refine HC.out.mono ?_
  rintro e w1 ⟨rfl, hb⟩
  have HB := Lib.hid (belowOn HW.out (Nat.le_refl _) hb)
  clear hb HC
  go_wp2
  go_ret
  exact ⟨rfl, HB.out⟩

def varTm (v : Int) : Tm := .mk 1 v ⟨#[]⟩ []
/-- The equation of one binding holds under t. -/
def EqnP (t : List Bd) (b : Bd) : Prop := (putT t (varTm b.v)).nodes ≤ 5000 ∧ (putT t b.t).nodes ≤ 5000 ∧ ((putT t (varTm b.v)).cmp (putT t b.t) == 0) = true
def MoreP (s t : List Bd) : Prop := SubstP s ∧ SubstP t ∧ ∀ b ∈ s, EqnP t b
open Classical in
noncomputable def moreB (s t : List Bd) : Bool := decide (MoreP s t)
open Classical in
theorem more_true {s t : List Bd} : moreB s t = true ↔ MoreP s t := by simp [moreB]
open Classical in
theorem more_false {s t : List Bd} : moreB s t = false ↔ ¬ MoreP s t := by simp [moreB]
theorem varTm_ok {v : Int} (h : 0 ≤ v ∧ v ≤ 100000) : Ok (varTm v) := ⟨by rw [nodes_eq]; show 1 + nodesL [] ≤ 5000; rw [nodesL_nil]; decide, .var v h.1 h.2⟩

set_option maxRecDepth 100000 in
set_option maxHeartbeats 8000000 in
theorem specMore_any (s t : List Bd) (Vs Vt : Value) (w : World) (hA : ListS bdE w Any Vs s) (hE : EachB s) (hT : ListS bdE w Any Vt t) (hF : EachB t) :
    Calls Try.prog 32 #[Vs, Vt] w fun e w' => e = .returned (.bool (moreB s t)) ∧ Below w.heap.size w w' := by
  obtain ⟨a, cap, rfl⟩ := hA.slice
  obtain ⟨ta, tc, rfl⟩ := hT.slice
  have hL : s.length ≤ 1048576 := hE.1
  have hLt : t.length ≤ 1048576 := hF.1
  have HA := Lib.hid hA.lowB
  have HT := Lib.hid hT.lowB
  have HNO := Lib.hid (fun (h : ¬ MoreP s t) => more_false.2 h)
  have HYES := Lib.hid (fun (h : MoreP s t) => more_true.2 h)
  generalize moreB s t = r at HYES HNO ⊢
  have HC := Lib.hid (specSubstOk_any s _ w hA hE)
  clear hA hT
  go_enter Try.func32, Try.ntmps32
  go_wp2_with fail
  refine HC.out.mono ?_
  rintro e w0 ⟨rfl, hb⟩
  have HW := Lib.hid hb
  clear hb HC
  cases hs : substB s with
  | false =>
    obtain rfl := HNO.out fun h => substB_false.1 hs h.1
    clear hs
    go_wp2
    go_ret
    exact ⟨rfl, HW.out⟩
  | true =>
  have HSP := Lib.hid (substB_true.1 hs)
  have HC := Lib.hid (specSubstOk_any t _ w0 (HT.out.any.kept HW.out) hF)
  clear hs
  go_wp2_with fail
  refine HC.out.mono ?_
  rintro e w1 ⟨rfl, hb⟩
  have HW1 := Lib.hid (belowOn HW.out (Nat.le_refl _) hb)
  clear hb HC HW
  cases ht : substB t with
  | false =>
    obtain rfl := HNO.out fun h => substB_false.1 ht h.2.1
    clear ht
    go_wp2
    go_ret
    exact ⟨rfl, HW1.out⟩
  | true =>
  have HTP := Lib.hid (substB_true.1 ht)
  clear ht
  go_wp2
  go_loopw [21] (fun iv wr => ∃ k : Nat, k ≤ s.length ∧ iv = .int .i64 k ∧ Hid (∀ (i : Nat) (b : Bd), i < k → s[i]? = some b → EqnP t b) ∧ Hid (Below w.heap.size w wr)) (fun iv _ => s.length - (intOf iv).toNat)
  case atStart => exact ⟨0, Nat.zero_le _, rfl, Lib.hid (fun i b hi => absurd hi (Nat.not_lt_zero _)), HW1⟩
  case round =>
    obtain ⟨k, hk, rfl, HN, HB⟩ := hrel
    clear HW1
    by_cases hlt : k < s.length
    · have hltI : (k : Int) < (s.length : Int) := by omega
      obtain ⟨x, hx⟩ : ∃ x, s[k]? = some x := ⟨_, List.getElem?_eq_getElem hlt⟩
      obtain ⟨g, off, u1, u2, rfl, hg, hq, hc, hu⟩ := HA.out.bd hx
      obtain ⟨d0, d1, d2, d3, d4⟩ := hc wr HB.out
      have HX := Lib.hid hx
      have HXO := Lib.hid (HSP.out.1.1 k x hx)
      have HFV := Lib.hid (putT_fine HTP.out (varTm_ok (HSP.out.1.1 k x hx).1))
      have HFX := Lib.hid (putT_fine HTP.out (HSP.out.1.1 k x hx).2)
      have HU := Lib.hid (hu.kept HB.out)
      have hxz : x.t.sz ≤ 1048576 := by have := hE.2 x (List.mem_of_getElem? hx); omega
      clear hq hc hu hx
      go_upto_region 6 with (fail)
      have hal : Below wr.heap.size wr (wr.alloc (.cells #[.int .i64 x.v, .int .i64 x.t.kind, .int .i64 x.t.num, .string x.t.name, .slice u1 x.t.args.length u2] 58)) := belowAlloc (Below.refl _ _) _
      have HBX := Lib.hid (at_box_of wr #[.int .i64 x.v, .int .i64 x.t.kind, .int .i64 x.t.num, .string x.t.name, .slice u1 x.t.args.length u2] 58 wr.heap.size rfl)
      have HB1 := Lib.hid (belowOn HB.out (Nat.le_refl _) hal)
      have HU1 := Lib.hid (HU.out.kept hal)
      clear hal d0 d1 d2 d3 d4 HB HU
      generalize hw1 : wr.alloc (.cells #[.int .i64 x.v, .int .i64 x.t.kind, .int .i64 x.t.num, .string x.t.name, .slice u1 x.t.args.length u2] 58) = w2 at HBX HB1 HU1 ⊢
      clear hw1
      generalize wr.heap.size = nb at HBX ⊢
      obtain ⟨e0, e1, e2, e3, e4, ef⟩ := box_cells5 HBX.out.now
      have HV := Lib.hid (var_any x.v w2)
      go_wp2_with fail
      refine HV.out.mono ?_
      rintro e w3 ⟨rfl, hb⟩
      have HB3 := Lib.hid (belowOn HB1.out (Nat.le_refl _) hb)
      have HBX3 := Lib.hid (HBX.out.read hb)
      have HU3 := Lib.hid (HU1.out.kept hb)
      have HP := Lib.hid (specApply4_any t (varTm x.v) _ (.slice none 0 0) (fun j => j < w.heap.size) w3 HTP.out (varTm_ok HXO.out.1) hLt (fun j hj => Nat.lt_of_lt_of_le hj (belowOn HB1.out (Nat.le_refl _) hb).size) (HT.out.kept (belowOn HB1.out (Nat.le_refl _) hb)) (.nil _ _) (by show ByteArray.size ⟨#[]⟩ + szL [] ≤ 1048576; decide))
      clear hb HV HB1 HBX HU1 e0 e1 e2 e3 e4 ef
      generalize hr1 : putT t (varTm x.v) = r1 at HP HFV
      have HR1 := Lib.hid hr1
      clear hr1
      go_wp2_with fail
      refine HP.out.mono ?_
      rintro e w4 ⟨u, rfl, hu, hb⟩
      obtain ⟨pa, pc, rfl⟩ := hu.at.slice
      have hal : Below w4.heap.size w4 (w4.alloc (.cells #[.int .i64 r1.kind, .int .i64 r1.num, .string r1.name, .slice pa r1.args.length pc] 31)) := belowAlloc (Below.refl _ _) _
      have HP1 := Lib.hid (at_args (hu.at.kept hal))
      have HT1 := Lib.hid (at_box_of w4 #[.int .i64 r1.kind, .int .i64 r1.num, .string r1.name, .slice pa r1.args.length pc] 31 w4.heap.size rfl)
      have HB4 := Lib.hid (belowOn HB3.out (Nat.le_refl _) (belowOn hb (Nat.le_refl _) hal))
      have HBX4 := Lib.hid ((HBX3.out.read hb).read hal)
      have HU4 := Lib.hid ((HU3.out.kept hb).kept hal)
      clear hu hb hal HP HB3 HBX3 HU3
      go_upto_region 7 with (fail)
      generalize hw1 : w4.alloc (.cells #[.int .i64 r1.kind, .int .i64 r1.num, .string r1.name, .slice pa r1.args.length pc] 31) = w5 at HP1 HT1 HB4 HBX4 HU4 ⊢
      clear hw1
      generalize w4.heap.size = n1 at HT1 ⊢
      obtain ⟨e0, e1, e2, e3, e4, ef⟩ := box_cells5 HBX4.out.now
      have HQ := Lib.hid (specApply4_any t x.t _ _ (fun j => j < w.heap.size) w5 HTP.out HXO.out.2 hLt (fun j hj => Nat.lt_of_lt_of_le hj HB4.out.size) (HT.out.kept HB4.out) HU4.out hxz)
      generalize hr2 : putT t x.t = r2 at HQ HFX
      have HR2 := Lib.hid hr2
      clear hr2
      go_wp2_with fail
      refine HQ.out.mono ?_
      rintro e w6 ⟨v, rfl, hv, hb⟩
      obtain ⟨qa, qc, rfl⟩ := hv.at.slice
      have hal : Below w6.heap.size w6 (w6.alloc (.cells #[.int .i64 r2.kind, .int .i64 r2.num, .string r2.name, .slice qa r2.args.length qc] 31)) := belowAlloc (Below.refl _ _) _
      have HP2 := Lib.hid (at_args (hv.at.kept hal))
      have HT2 := Lib.hid (at_box_of w6 #[.int .i64 r2.kind, .int .i64 r2.num, .string r2.name, .slice qa r2.args.length qc] 31 w6.heap.size rfl)
      replace HP1 := Lib.hid ((HP1.out.read hb).read hal)
      replace HT1 := Lib.hid ((HT1.out.read hb).read hal)
      have HB6 := Lib.hid (belowOn HB4.out (Nat.le_refl _) (belowOn hb (Nat.le_refl _) hal))
      clear hv hb hal HQ HB4 HBX4 HU4 e0 e1 e2 e3 e4 ef
      go_upto_region 8 with (fail)
      generalize hw1 : w6.alloc (.cells #[.int .i64 r2.kind, .int .i64 r2.num, .string r2.name, .slice qa r2.args.length qc] 31) = w7 at HP1 HP2 HT1 HT2 HB6 ⊢
      clear hw1
      generalize w6.heap.size = n2 at HT2 ⊢
      cases h1 : decide (r1.nodes ≤ 5000) with
      | false =>
        obtain rfl := HNO.out fun h => by
          have := (h.2.2 x (List.mem_of_getElem? HX.out)).1
          rw [HR1.out] at this
          exact of_decide_eq_false h1 this
        clear h1
        go_wp2
        go_ret
        exact ⟨rfl, HB6.out⟩
      | true =>
        have HD1 := Lib.hid (of_decide_eq_true h1)
        clear h1
        cases h2 : decide (r2.nodes ≤ 5000) with
        | false =>
          obtain rfl := HNO.out fun h => by
            have := (h.2.2 x (List.mem_of_getElem? HX.out)).2.1
            rw [HR2.out] at this
            exact of_decide_eq_false h2 this
          clear h2
          go_wp2
          go_ret
          exact ⟨rfl, HB6.out⟩
        | true =>
          have HD2 := Lib.hid (of_decide_eq_true h2)
          have HSM := Lib.hid (specSame_any r1 r2 _ _ w7 HP1.out.argsAt HP2.out.argsAt (by have h1 := good_sz HFV.out.1; have := HD1.out; omega) (by have h1 := good_sz HFX.out.1; have := HD2.out; omega))
          obtain ⟨a0, a1, a2, a3, _⟩ := box_cells HT1.out.now
          obtain ⟨b0, b1, b2, b3, _⟩ := box_cells HT2.out.now
          clear h2
          go_wp2_with fail
          refine HSM.out.mono ?_
          rintro e w8 ⟨rfl, hb⟩
          have HB8 := Lib.hid (belowOn HB6.out (Nat.le_refl _) hb)
          clear hb HSM a0 a1 a2 a3 b0 b1 b2 b3
          cases hc : (r1.cmp r2 == 0) with
          | false =>
            obtain rfl := HNO.out fun h => by
              have := (h.2.2 x (List.mem_of_getElem? HX.out)).2.2
              rw [HR1.out, HR2.out, hc] at this
              cases this
            clear hc
            go_wp2
            go_ret
            exact ⟨rfl, HB8.out⟩
          | true =>
            have HEQ : Hid (EqnP t x) := Lib.hid (by unfold EqnP; rw [HR1.out, HR2.out]; exact ⟨HD1.out, HD2.out, hc⟩)
            clear hc
            go_wp2
            go_roundw
            case rel =>
              refine ⟨k + 1, by omega, by go_num, Lib.hid fun i y hi hy => ?_, HB8⟩
              by_cases q : i = k
              · subst q
                cases hy.symm.trans HX.out
                exact HEQ.out
              · exact HN.out i y (by omega) hy
            case measure => simp [intOf]; omega
    · obtain rfl : k = s.length := by omega
      obtain rfl := HYES.out ⟨HSP.out, HTP.out, fun b hb => by
        obtain ⟨i, hi⟩ := List.getElem?_of_mem hb
        exact HN.out i b (List.getElem?_eq_some_iff.1 hi).1 hi⟩
      go_wp2
      go_ret
      exact ⟨rfl, HB.out⟩
end Go.Proofs.Ytjmmeccfjanpcaa

