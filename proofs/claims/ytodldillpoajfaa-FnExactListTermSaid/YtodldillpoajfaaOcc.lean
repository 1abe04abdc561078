/-
  How often a variable occurs: the contracts of l02Occurs, OccursIn (model), occurrences, OccursIn (program).
-/
import Derived.Test.YtodldillpoajfaaAt
namespace Go.Proofs.Ytodldillpoajfaa
open Go.RowKit
set_option linter.unusedVariables false

mutual
def Tm.occ (v : Int) : Tm → Nat | .mk k i _ l => if k = 1 ∧ i = v then 1 else occL v l
def occL (v : Int) : List Tm → Nat | [] => 0 | t :: l => t.occ v + occL v l
end
theorem occ_eq (v : Int) (t : Tm) : t.occ v = if t.kind = 1 ∧ t.num = v then 1 else occL v t.args := by cases t; rw [Tm.occ]; rfl
theorem occL_nil (v : Int) : occL v [] = 0 := by rw [occL]
theorem occL_append (v : Int) (a b : List Tm) : occL v (a ++ b) = occL v a + occL v b := by
  induction a with
  | nil => simp [occL]
  | cons t l ih => simp only [List.cons_append, occL, ih]; omega
theorem occ_take (v : Int) {l : List Tm} {j : Nat} {t : Tm} (h : l[j]? = some t) : occL v (l.take (j + 1)) = occL v (l.take j) + t.occ v := by
  rw [take_snoc h, occL_append]; simp [occL]
mutual
theorem occ_nodes (v : Int) : ∀ t : Tm, t.occ v ≤ t.nodes
  | .mk k i _ l => by rw [Tm.occ, Tm.nodes]; have := occL_nodes v l; split <;> omega
theorem occL_nodes (v : Int) : ∀ l : List Tm, occL v l ≤ nodesL l
  | [] => by rw [occL]; omega
  | t :: l => by rw [occL, nodesL]; have := occ_nodes v t; have := occL_nodes v l; omega
end
theorem occ_take_le' (v : Int) (l : List Tm) (j : Nat) : occL v (l.take j) ≤ occL v l := by
  conv => rhs; rw [← List.take_append_drop j l]
  rw [occL_append]; omega
theorem occ_take_le (v : Int) (l : List Tm) (j : Nat) : occL v (l.take j) ≤ nodesL l := by have := occL_nodes v (l.take j); have := nodes_take_le l j; omega

set_option maxHeartbeats 400000 in
theorem isVar_any (t : Tm) (a : Option Addr) (cap : Nat) (v : Int) (w : World) :
    Calls Try.prog 79 #[.agg #[.int .i64 t.kind, .int .i64 t.num, .string t.name, .slice a t.args.length cap], .int .i64 v] w fun e w' => e = .returned (.bool (decide (t.kind = 1 ∧ t.num = v))) ∧ Below w.heap.size w w' := by
  generalize t.args.length = n
  generalize t.kind = k
  generalize t.num = i
  generalize t.name = s
  by_cases h1 : k = 1
  · subst h1
    by_cases h2 : i = v
    · subst h2
      go_enter Try.func79, Try.ntmps79
      go_wp2
      go_ret
      exact ⟨by simp, (Below.refl _ _).alloc (Nat.le_refl _) _⟩
    · go_enter Try.func79, Try.ntmps79
      go_wp2
      go_ret
      exact ⟨by simp [h2], (Below.refl _ _).alloc (Nat.le_refl _) _⟩
  · go_enter Try.func79, Try.ntmps79
    go_wp2
    go_ret
    exact ⟨by simp [h1], (Below.refl _ _).alloc (Nat.le_refl _) _⟩

set_option maxHeartbeats 1600000 in
theorem occurrences_any (N : Nat) : ∀ (t : Tm) (V : Value) (v : Int) (w : World), t.nodes < N → ArgsAt w V t.args → t.sz ≤ 1048576 →
    Calls Try.prog 50 #[.agg #[.int .i64 t.kind, .int .i64 t.num, .string t.name, V], .int .i64 v] w fun e w' => e = .returned (.int .i64 (t.occ v)) ∧ Below w.heap.size w w' := by
  induction N with
  | zero => intro t V v w hN; omega
  | succ N ih =>
    intro t V v w hN hA hZ
    obtain ⟨a, cap, rfl⟩ := hA.slice
    have HA := Lib.hid hA
    have HI := Lib.hid ih
    have HSE := Lib.hid (sz_eq t)
    have hL : t.args.length ≤ 1048576 := by have := length_szL t.args; have := HSE.out; omega
    have HNE := Lib.hid (nodes_eq t)
    have HOE := Lib.hid (occ_eq v t)
    have hnz : t.nodes ≤ 1048577 := by have := nodes_sz t; omega
    clear hA ih
    have B0 := Lib.hid ((Below.refl w.heap.size w).alloc (Nat.le_refl _) (.cells #[.int .i64 t.kind, .int .i64 t.num, .string t.name, .slice a t.args.length cap] 25))
    have HV := Lib.hid (isVar_any t a cap v (w.alloc (.cells #[.int .i64 t.kind, .int .i64 t.num, .string t.name, .slice a t.args.length cap] 25)))
    go_enter Try.func50, Try.ntmps50
    go_wp2_with fail
    refine HV.out.mono ?_
    rintro e w1 ⟨rfl, hb⟩
    have h1 := (hb.block w.heap.size (by simp)).trans (heap_new w _)
    obtain ⟨b0, b1, b2, b3, bf⟩ := box_cells h1
    have HB1 := Lib.hid (B0.out.trans (hb.mono (by simp)))
    clear hb h1 HV
    by_cases hv : t.kind = 1 ∧ t.num = v
    · have hd : decide (t.kind = 1 ∧ t.num = v) = true := decide_eq_true hv
      rw [hd]
      have HVV := Lib.hid hv
      clear hv hd
      go_wp2
      go_ret
      exact ⟨by rw [HOE.out, if_pos HVV.out]; rfl, HB1.out⟩
    · have hd : decide (t.kind = 1 ∧ t.num = v) = false := decide_eq_false hv
      rw [hd]
      have HVV := Lib.hid hv
      clear hv hd
      go_wp2
      go_loopw [5, 14] (fun sv i wr => ∃ k n : Nat, k ≤ t.args.length ∧ i = .int .i64 k ∧ sv = .int .i64 n ∧ n = occL v (t.args.take k) ∧ n ≤ t.nodes ∧ Below w.heap.size w wr)
          (fun _ i _ => t.args.length - (intOf i).toNat)
      case atStart => exact ⟨0, 0, Nat.zero_le _, rfl, rfl, by simp [occL_nil], by omega, HB1.out⟩
      case round =>
        obtain ⟨k, n, hk, rfl, rfl, hn, hn5, hb⟩ := hrel
        have HNN := Lib.hid hn
        have HB := Lib.hid hb
        clear hn hb b0 b1 b2 b3 bf
        by_cases hlt : k < t.args.length
        · obtain ⟨x, hx⟩ : ∃ x, t.args[k]? = some x := ⟨_, List.getElem?_eq_getElem hlt⟩
          obtain ⟨g, off, u1, u2, rfl, hg, _, hc, hch⟩ := HA.out.elem hx
          obtain ⟨d0, d1, d2, d3⟩ := hc _ HB.out
          have HC := Lib.hid hch
          have HOT := Lib.hid (occ_take v hx)
          have HOL := Lib.hid (occ_take_le v t.args (k + 1))
          have hN' : x.nodes < N := by have := nodes_at hx; have := HNE.out; omega
          have hZ' : x.sz ≤ 1048576 := by have h1 := sz_at hx; have := HSE.out; omega
          have hxo : x.occ v ≤ 1048577 := by have := occ_nodes v x; have := nodes_at hx; have := HNE.out; omega
          clear hc hch hx
          have hbx : Below w.heap.size w (wr.alloc (.cells #[.int .i64 x.kind, .int .i64 x.num, .string x.name, .slice u1 x.args.length u2] 25)) := HB.out.alloc HB.out.size _
          have HBX := Lib.hid hbx
          have HCALL := Lib.hid (HI.out x _ v _ hN' (HC.out.kept hbx) hZ')
          clear hbx
          go_wp2_with fail
          refine HCALL.out.mono ?_
          rintro e w2 ⟨rfl, hb2⟩
          have HB2 := Lib.hid (HBX.out.trans (hb2.mono HBX.out.size))
          clear hb2 HCALL
          go_wp2
          go_roundw
          case rel =>
            have h1 := HNN.out
            have h2 := HOT.out
            have h3 := HOL.out
            have h4 := HNE.out
            exact ⟨k + 1, n + x.occ v, by omega, by go_num, by go_num, by omega, by omega, HB2.out⟩
          case measure => simp [intOf]; omega
        · go_wp2
          go_ret
          obtain rfl : k = t.args.length := by omega
          have h1 := HNN.out
          rw [List.take_length] at h1
          have h2 : n = t.occ v := by rw [HOE.out, if_neg HVV.out]; exact h1
          exact ⟨by rw [h2]; rfl, HB.out⟩

noncomputable def occB (v : Int) (t : Tm) : Bool := okB t && decide (0 < t.occ v)

set_option maxHeartbeats 400000 in
theorem implOccursIn_any (v : Int) (t : Tm) (V : Value) (w : World) (hA : ArgsAt w V t.args) (hZ : t.sz ≤ 1048576) :
    Calls Try.prog 18 #[.int .i64 v, .agg #[.int .i64 t.kind, .int .i64 t.num, .string t.name, V]] w fun e w' => e = .returned (.bool (occB v t)) ∧ Below w.heap.size w w' := by
  obtain ⟨a, cap, rfl⟩ := hA.slice
  have B0 := Lib.hid ((Below.refl w.heap.size w).alloc (Nat.le_refl _) (.cells #[.int .i64 t.kind, .int .i64 t.num, .string t.name, .slice a t.args.length cap] 25))
  have HO := Lib.hid (implTermOk_any t _ (w.alloc (.cells #[.int .i64 t.kind, .int .i64 t.num, .string t.name, .slice a t.args.length cap] 25)) (hA.kept B0.out) hZ)
  have HA := Lib.hid hA
  clear hA
  go_enter Try.func18, Try.ntmps18
  go_wp2_with fail
  refine HO.out.mono ?_
  rintro e w1 ⟨rfl, hb⟩
  have hbox := (hb.block w.heap.size (by simp)).trans (heap_new w _)
  obtain ⟨x0, x1, x2, x3, _⟩ := box_cells hbox
  have HB := Lib.hid (B0.out.trans (hb.mono (by simp)))
  clear hb hbox HO
  cases hok : okB t with
  | false =>
    have HOK := Lib.hid hok
    clear hok
    go_wp2
    go_ret
    exact ⟨by rw [occB, HOK.out]; rfl, HB.out⟩
  | true =>
    have HOK := Lib.hid hok
    clear hok
    have HC := Lib.hid (occurrences_any (t.nodes + 1) t _ v w1 (by omega) (HA.out.kept HB.out) hZ)
    have ho : t.occ v ≤ 1048577 := by have := nodes_sz t; have := occ_nodes v t; omega
    go_wp2_with fail
    refine HC.out.mono ?_
    rintro e w2 ⟨rfl, hb2⟩
    have HB2 := Lib.hid (HB.out.trans (hb2.mono HB.out.size))
    clear hb2 HC
    go_wp2
    go_ret
    exact ⟨by rw [occB, HOK.out]; simp, HB2.out⟩

theorem fit_var {t : Tm} (h : Fit t) (h1 : t.kind = 1) : t.args = [] := by
  rcases h with ⟨h, _⟩ | ⟨_, _, _, h⟩ | ⟨h, _⟩ | ⟨h, _⟩ | ⟨h, _⟩
  · rw [h1] at h; cases h
  · exact h
  · rw [h1] at h; cases h
  · rw [h1] at h; cases h
  · rw [h1] at h; cases h

set_option maxHeartbeats 1600000 in
theorem occurs_any (N : Nat) : ∀ (t : Tm) (V : Value) (v : Int) (w : World), t.nodes < N → ArgsAt w V t.args → t.sz ≤ 1048576 → Good t →
    Calls Try.prog 66 #[.int .i64 v, .agg #[.int .i64 t.kind, .int .i64 t.num, .string t.name, V]] w fun e w' => e = .returned (.bool (decide (0 < t.occ v))) ∧ Below w.heap.size w w' := by
  induction N with
  | zero => intro t V v w hN; omega
  | succ N ih =>
    intro t V v w hN hA hZ hG
    obtain ⟨a, cap, rfl⟩ := hA.slice
    have HA := Lib.hid hA
    have HI := Lib.hid ih
    have HG := Lib.hid hG
    have HSE := Lib.hid (sz_eq t)
    have hL : t.args.length ≤ 1048576 := by have := length_szL t.args; have := HSE.out; omega
    have HNE := Lib.hid (nodes_eq t)
    have HOE := Lib.hid (occ_eq v t)
    clear hA ih hG
    have B0 := Lib.hid ((Below.refl w.heap.size w).alloc (Nat.le_refl _) (.cells #[.int .i64 t.kind, .int .i64 t.num, .string t.name, .slice a t.args.length cap] 25))
    go_enter Try.func66, Try.ntmps66
    go_wp2
    go_loopw [10] (fun i wr => ∃ k : Nat, k ≤ t.args.length ∧ i = .int .i64 k ∧ Hid (occL v (t.args.take k) = 0) ∧ Below (w.heap.size + 1) (w.alloc (.cells #[.int .i64 t.kind, .int .i64 t.num, .string t.name, .slice a t.args.length cap] 25)) wr)
        (fun i _ => t.args.length - (intOf i).toNat)
    case atStart => exact ⟨0, Nat.zero_le _, rfl, Lib.hid (by simp [occL_nil]), Below.refl _ _⟩
    case round =>
      obtain ⟨k, hk, rfl, HNN, hq⟩ := hrel
      have h1 := (hq.block w.heap.size (by simp)).trans (heap_new w _)
      obtain ⟨b0, b1, b2, b3, bf⟩ := box_cells h1
      have HB := Lib.hid (B0.out.trans (hq.mono (by simp)))
      have HQ := Lib.hid hq
      clear hq h1
      by_cases hlt : k < t.args.length
      · obtain ⟨x, hx⟩ : ∃ x, t.args[k]? = some x := ⟨_, List.getElem?_eq_getElem hlt⟩
        obtain ⟨g, off, u1, u2, rfl, hg, _, hc, hch⟩ := HA.out.elem hx
        obtain ⟨d0, d1, d2, d3⟩ := hc _ HB.out
        have HC := Lib.hid hch
        have HOT := Lib.hid (occ_take v hx)
        have hN' : x.nodes < N := by have := nodes_at hx; have := HNE.out; omega
        have hZ' : x.sz ≤ 1048576 := by have h1 := sz_at hx; have := HSE.out; omega
        have HX := Lib.hid hx
        clear hc hch hx
        have hbx : Below w.heap.size w (wr.alloc (.cells #[.int .i64 x.kind, .int .i64 x.num, .string x.name, .slice u1 x.args.length u2] 25)) := HB.out.alloc HB.out.size _
        have HBX := Lib.hid hbx
        have HQX := Lib.hid (HQ.out.alloc (o := .cells #[.int .i64 x.kind, .int .i64 x.num, .string x.name, .slice u1 x.args.length u2] 25) (by have := HQ.out.size; simpa using this))
        have HCALL := Lib.hid (HI.out x _ v _ hN' (HC.out.kept hbx) hZ' (HG.out.each HX.out))
        clear hbx b0 b1 b2 b3 bf
        go_wp2_with fail
        refine HCALL.out.mono ?_
        rintro e w2 ⟨rfl, hb2⟩
        have HB2 := Lib.hid (HBX.out.trans (hb2.mono HBX.out.size))
        have HQ2 := Lib.hid (belowOn HQX.out (by simp) hb2)
        clear hb2 HCALL
        by_cases hpos : 0 < x.occ v
        · rw [decide_eq_true hpos]
          have HP := Lib.hid hpos
          clear hpos
          go_wp2
          go_ret
          refine ⟨?_, HB2.out⟩
          have h1 : 0 < t.occ v := by
            rw [HOE.out]
            by_cases h : t.kind = 1 ∧ t.num = v
            · rw [if_pos h]; omega
            · rw [if_neg h]
              have := occ_take_le' v t.args (k + 1)
              have := HOT.out
              have := HP.out
              omega
          rw [decide_eq_true h1]
          rfl
        · rw [decide_eq_false hpos]
          have HP := Lib.hid hpos
          clear hpos
          go_wp2
          go_roundw
          case rel =>
            exact ⟨k + 1, by omega, by go_num, Lib.hid (by rw [HOT.out, HNN.out]; have := HP.out; omega), HQ2.out⟩
          case measure => simp [intOf]; omega
      · obtain rfl : k = t.args.length := by omega
        by_cases h1 : t.kind = 1
        · by_cases h2 : t.num = v
          · have HV := Lib.hid (show t.kind = 1 ∧ t.num = v from ⟨h1, h2⟩)
            go_wp2
            go_ret
            refine ⟨?_, HB.out⟩
            rw [decide_eq_true (by rw [HOE.out, if_pos HV.out]; omega)]
            simp [HV.out]
          · have HV := Lib.hid (show ¬ (t.kind = 1 ∧ t.num = v) from fun h => h2 h.2)
            go_wp2
            go_ret
            refine ⟨?_, HB.out⟩
            have h0 := HNN.out
            rw [List.take_length] at h0
            rw [decide_eq_false (by rw [HOE.out, if_neg HV.out]; omega)]
            simp [h1, h2]
        · have HV := Lib.hid (show ¬ (t.kind = 1 ∧ t.num = v) from fun h => h1 h.1)
          go_wp2
          go_ret
          refine ⟨?_, HB.out⟩
          have h0 := HNN.out
          rw [List.take_length] at h0
          rw [decide_eq_false (by rw [HOE.out, if_neg HV.out]; omega)]
          rfl

set_option maxHeartbeats 400000 in
theorem specOccursIn_any (v : Int) (t : Tm) (V : Value) (w : World) (hA : ArgsAt w V t.args) (hZ : t.sz ≤ 1048576) :
    Calls Try.prog 36 #[.int .i64 v, .agg #[.int .i64 t.kind, .int .i64 t.num, .string t.name, V]] w fun e w' => e = .returned (.bool (occB v t)) ∧ Below w.heap.size w w' := by
  obtain ⟨a, cap, rfl⟩ := hA.slice
  have B0 := Lib.hid ((Below.refl w.heap.size w).alloc (Nat.le_refl _) (.cells #[.int .i64 t.kind, .int .i64 t.num, .string t.name, .slice a t.args.length cap] 25))
  have HO := Lib.hid (specTermOk_any t _ (w.alloc (.cells #[.int .i64 t.kind, .int .i64 t.num, .string t.name, .slice a t.args.length cap] 25)) (hA.kept B0.out) hZ)
  have HA := Lib.hid hA
  clear hA
  go_enter Try.func36, Try.ntmps36
  go_wp2_with fail
  refine HO.out.mono ?_
  rintro e w1 ⟨rfl, hb⟩
  have hbox := (hb.block w.heap.size (by simp)).trans (heap_new w _)
  obtain ⟨x0, x1, x2, x3, _⟩ := box_cells hbox
  have HB := Lib.hid (B0.out.trans (hb.mono (by simp)))
  clear hb hbox HO
  cases hok : okB t with
  | false =>
    have HOK := Lib.hid hok
    clear hok
    go_wp2
    go_ret
    exact ⟨by rw [occB, HOK.out]; rfl, HB.out⟩
  | true =>
    have HOK := Lib.hid hok
    clear hok
    have HC := Lib.hid (occurs_any (t.nodes + 1) t _ v w1 (by omega) (HA.out.kept HB.out) hZ (okB_true.1 HOK.out).2)
    go_wp2_with fail
    refine HC.out.mono ?_
    rintro e w2 ⟨rfl, hb2⟩
    have HB2 := Lib.hid (HB.out.trans (hb2.mono HB.out.size))
    clear hb2 HC
    go_wp2
    go_ret
    exact ⟨by rw [occB, HOK.out]; rfl, HB2.out⟩
end Go.Proofs.Ytodldillpoajfaa
