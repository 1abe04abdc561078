/-
  The model's SubstOk.
-/
import Derived.Test.YtjmmeccfjanpcaaDoorSpecValues
import Derived.Test.YtjmmeccfjanpcaaDoorSpecVarsP
namespace Go.Proofs.YtjmmeccfjanpcaaDoor
open Go.RowKit
set_option linter.unusedVariables false
set_option linter.unusedSimpArgs false

/-- One binding against the list. -/
def FreeP (s : List Bd) (b : Bd) : Prop := ¬ (b.t.kind = 1 ∧ b.v ≤ b.t.num) ∧ ∀ v ∈ b.t.vl, getO s v = none
theorem subst_of {s : List Bd} (hv : valuesB s = true) (h : ∀ (i : Nat) (b : Bd), i < s.length → s[i]? = some b → FreeP s b) : substB s = true := by
  rw [substB_true]
  refine ⟨valuesB_true.1 hv, fun b hb => ?_⟩
  obtain ⟨i, hi⟩ := List.getElem?_of_mem hb
  exact h i b (List.getElem?_eq_some_iff.1 hi).1 hi
theorem subst_not {s : List Bd} {i : Nat} {b : Bd} (hb : s[i]? = some b) (h : ¬ FreeP s b) : substB s = false := by
  rw [substB_false]
  exact fun hs => h (hs.2 b (List.mem_of_getElem? hb))
theorem subst_values {s : List Bd} (h : valuesB s = false) : substB s = false := by
  rw [substB_false]
  exact fun hs => valuesB_false.1 h hs.1
def allVars (t : Tm) : List Int := t.vl.foldl insAsc []
theorem allVars_mem {t : Tm} {v : Int} : v ∈ allVars t ↔ v ∈ t.vl := by
  have := (insL_spec t.vl [] List.Pairwise.nil).2 v
  rw [allVars, this]; simp
theorem allVars_len (t : Tm) : (allVars t).length ≤ t.nodes := by
  have h1 := insL_len t.vl []
  have h2 := vl_len t
  simp at h1
  unfold allVars
  omega

set_option maxRecDepth 100000 in
set_option maxHeartbeats 8000000 in
theorem specSubstOk_any (s : List Bd) (V : Value) (w : World) (hA : ListS bdE w Any V s) (hE : EachB s) :
    Calls Tryd.prog 15 #[V] w fun e w' => e = .returned (.bool (substB s)) ∧ Below w.heap.size w w' := by
  obtain ⟨a, cap, rfl⟩ := hA.slice
  have HA := Lib.hid hA
  have hL : s.length ≤ 1048576 := hE.1
  have HC := Lib.hid (specValues_any s _ w hA hE)
  clear hA
  go_enter Tryd.func15, Tryd.ntmps15
  go_wp2_with fail
  refine HC.out.mono ?_
  rintro e w0 ⟨rfl, hb⟩
  have HW := Lib.hid hb
  clear hb HC
  cases hv : valuesB s with
  | false =>
    have HF := Lib.hid (subst_values hv)
    clear hv
    go_wp2
    go_ret
    exact ⟨by rw [HF.out]; rfl, HW.out⟩
  | true =>
  have HOF := Lib.hid (fun h => subst_of (s := s) hv h)
  clear hv
  go_wp2
  go_loopw [14] (fun iv wr => ∃ k : Nat, k ≤ s.length ∧ iv = .int .i64 k ∧ Hid (∀ (i : Nat) (b : Bd), i < k → s[i]? = some b → FreeP s b) ∧ Hid (Below w.heap.size w wr)) (fun iv _ => s.length - (intOf iv).toNat)
  case atStart => exact ⟨0, Nat.zero_le _, rfl, Lib.hid (fun i b hi => absurd hi (Nat.not_lt_zero _)), HW⟩
  case round =>
    obtain ⟨k, hk, rfl, HN, HB⟩ := hrel
    clear HW
    by_cases hlt : k < s.length
    · have hltI : (k : Int) < (s.length : Int) := by omega
      obtain ⟨x, hx⟩ : ∃ x, s[k]? = some x := ⟨_, List.getElem?_eq_getElem hlt⟩
      obtain ⟨g, off, u1, u2, rfl, hg, hq, hc, hu⟩ := HA.out.bd hx
      obtain ⟨d0, d1, d2, d3, d4⟩ := hc wr HB.out
      have HX := Lib.hid hx
      have HU := Lib.hid (hu.at.kept HB.out)
      have hxz : x.t.sz ≤ 1048576 := by have := hE.2 x (List.mem_of_getElem? hx); omega
      have hxn : x.t.nodes ≤ 1048576 := by have h1 := hE.2 x (List.mem_of_getElem? hx); have h2 := nodes_sz x.t; omega
      clear hx hq hc hu
      go_upto_region 6 with (fail)
      have hal : Below wr.heap.size wr (wr.alloc (.cells #[.int .i64 x.v, .int .i64 x.t.kind, .int .i64 x.t.num, .string x.t.name, .slice u1 x.t.args.length u2] 45)) := belowAlloc (Below.refl _ _) _
      have h5 := heap_new wr (.cells #[.int .i64 x.v, .int .i64 x.t.kind, .int .i64 x.t.num, .string x.t.name, .slice u1 x.t.args.length u2] 45)
      have HW1 := Lib.hid (belowOn HB.out (Nat.le_refl _) hal)
      have HU1 := Lib.hid (HU.out.kept hal)
      clear hal d0 d1 d2 d3 d4 HU HB
      generalize hw1 : wr.alloc (.cells #[.int .i64 x.v, .int .i64 x.t.kind, .int .i64 x.t.num, .string x.t.name, .slice u1 x.t.args.length u2] 45) = w1 at h5 HW1 HU1 ⊢
      clear hw1
      obtain ⟨e0, e1, e2, e3, e4, ef⟩ := box_cells5 h5
      clear h5
      by_cases hs : x.t.kind = 1 ∧ x.v ≤ x.t.num
      · have HF : Hid (substB s = false) := Lib.hid (subst_not HX.out fun h => h.1 hs)
        have k1 : (x.t.kind == 1) = true := by rw [hs.1]; rfl
        have k2 : decide (x.v ≤ x.t.num) = true := decide_eq_true hs.2
        clear hs
        go_wp2
        go_ret
        exact ⟨by rw [HF.out]; rfl, HW1.out⟩
      · have HS := Lib.hid hs
        have HC2 := Lib.hid (specVars_any (x.t.nodes + 1) x.t _ w1 (.slice none 0 0) [] w1 (Nat.lt_succ_self _) HU1.out (Below.refl _ _) (World.ownsRow_nil w1 0 3 1) (by simp; omega) hxz)
        have HCS : ((x.t.kind == 1) = true ∧ decide (x.v ≤ x.t.num) = false) ∨ (x.t.kind == 1) = false := by
          by_cases k1 : x.t.kind = 1
          · exact .inl ⟨by rw [k1]; rfl, decide_eq_false fun h => hs ⟨k1, h⟩⟩
          · exact .inr (beq_eq_false_iff_ne.2 k1)
        clear hs
        rcases HCS with ⟨k1, k2⟩ | k1
        all_goals
          go_wp2_with fail
          refine HC2.out.mono ?_
          rintro e w2 ⟨vv, rfl, hrow, hb⟩
          have HB2 := Lib.hid (belowOn HW1.out (Nat.le_refl _) hb)
          have hvl : (allVars x.t).length ≤ 1048576 := by have := allVars_len x.t; omega
          obtain ⟨a2, cap2, rfl, hvals⟩ := hrow.vals
          rw [List.length_map]
          have HVV := Lib.hid hvals
          have hfd : x.t.vl.foldl insAsc [] = allVars x.t := rfl
          rw [hfd] at HVV ⊢
          clear hb hrow hvals hfd e0 e1 e2 e3 e4 ef HC2 HU1 HW1 k1
          go_wp2
          go_loopw [34] (fun jv wq => ∃ j : Nat, j ≤ (allVars x.t).length ∧ jv = .int .i64 j ∧ Hid (∀ (i : Nat) (v : Int), i < j → (allVars x.t)[i]? = some v → getO s v = none) ∧ Hid (Below w2.heap.size w2 wq)) (fun jv _ => (allVars x.t).length - (intOf jv).toNat)
          case atStart => exact ⟨0, Nat.zero_le _, rfl, Lib.hid (fun i v hi => absurd hi (Nat.not_lt_zero _)), Lib.hid (Below.refl _ _)⟩
          case round =>
            obtain ⟨j, hj, rfl, HM, HBQ⟩ := hrel
            by_cases hjl : j < (allVars x.t).length
            · have hjI : (j : Int) < ((allVars x.t).length : Int) := by omega
              obtain ⟨v, hvj⟩ : ∃ v, (allVars x.t)[j]? = some v := ⟨_, List.getElem?_eq_getElem hjl⟩
              obtain ⟨g2, off2, rfl, hg2, hc2⟩ : ∃ g off, a2 = some ⟨g, off, none⟩ ∧ g < w2.heap.size ∧ ∀ i y, ((allVars x.t).map (Value.int .i64))[i]? = some y → w2.cell? ⟨g, off + i, none⟩ = some y := by
                rcases HVV.out with h | h
                · rw [List.map_eq_nil_iff] at h
                  rw [h] at hjl
                  exact absurd hjl (Nat.not_lt_zero _)
                · exact h
              have q0 : wr.cell? ⟨g2, off2 + j, none⟩ = some (.int .i64 v) := (HBQ.out.cell (p := ⟨g2, off2 + j, none⟩) hg2).trans (hc2 j _ (by rw [List.getElem?_map, hvj]; rfl))
              have HVJ := Lib.hid hvj
              have HG := Lib.hid (specGet_any s _ v Any wr (HA.out.kept (belowOn HB2.out (Nat.le_refl _) HBQ.out)) hL)
              clear hc2 hvj
              go_wp2_with fail
              refine HG.out.mono ?_
              rintro e w3 ⟨u, rfl, hu, hb⟩
              obtain ⟨ua, uc, rfl⟩ := hu.at.slice
              have HB3 := Lib.hid (belowOn HBQ.out (Nat.le_refl _) hb)
              clear hb hu HG q0
              cases hgb : getB s v with
              | true =>
                have HF : Hid (substB s = false) := Lib.hid (subst_not HX.out fun h => by
                  have := h.2 v (allVars_mem.1 (List.mem_of_getElem? HVJ.out))
                  rw [← getB_none, hgb] at this
                  cases this)
                clear hgb
                go_wp2
                go_ret
                exact ⟨by rw [HF.out]; rfl, belowOn HB2.out (Nat.le_refl _) (belowAlloc HB3.out _)⟩
              | false =>
                have HNV := Lib.hid (getB_none.1 hgb)
                clear hgb
                go_wp2
                go_roundw
                case rel =>
                  refine ⟨j + 1, by omega, by go_num, Lib.hid fun i y hi hy => ?_, Lib.hid (belowAlloc HB3.out _)⟩
                  by_cases e : i = j
                  · subst e
                    cases hy.symm.trans HVJ.out
                    exact HNV.out
                  · exact HM.out i y (by omega) hy
                case measure => simp [intOf]; omega
            · obtain rfl : j = (allVars x.t).length := by omega
              have HFR : Hid (FreeP s x) := Lib.hid ⟨HS.out, fun v hv => by
                obtain ⟨i, hi⟩ := List.getElem?_of_mem (allVars_mem.2 hv)
                exact HM.out i v (List.getElem?_eq_some_iff.1 hi).1 hi⟩
              go_wp2
              go_roundw
              case rel =>
                refine ⟨k + 1, by omega, by go_num, Lib.hid fun i y hi hy => ?_, Lib.hid (belowOn HB2.out (Nat.le_refl _) HBQ.out)⟩
                by_cases e : i = k
                · subst e
                  cases hy.symm.trans HX.out
                  exact HFR.out
                · exact HN.out i y (by omega) hy
              case measure => simp [intOf]; omega
    · obtain rfl : k = s.length := by omega
      have HF := Lib.hid (HOF.out HN.out)
      go_wp2
      go_ret
      exact ⟨by rw [HF.out]; rfl, HB.out⟩
end Go.Proofs.YtjmmeccfjanpcaaDoor

