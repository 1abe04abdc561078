/-
  How often a variable occurs: the contracts of l02Occurs, OccursIn (model), occurrences, OccursIn (program).
-/
import Derived.Test.YtokndpmoamjbfaaAt
namespace Go.Proofs.Ytokndpmoamjbfaa
open Go.RowKit
set_option linter.unusedVariables false

mutual
def Tm.occ (v : Int) : Tm → Nat | .mk k i _ l => if k = 1 ∧ i = v then 1 else occL v l
def occL (v : Int) : List Tm → Nat | [] => 0 | t :: l => t.occ v + occL v l
end
theorem occ_eq (v : Int) (t : Tm) : t.occ v = if t.kind = 1 ∧ t.num = v then 1 else occL v t.args := by cases t; rw [Tm.occ]; rfl
theorem occL_nil (v : Int) : occL v [] = 0 := by rw [occL]
theorem occL_append (v : Int) (a b : List Tm) : occL v (a ++ b) = occL v a + occL v b := by
  induction a with
  | nil => simp [occL]
  | cons t l ih => simp only [List.cons_append, occL, ih]; omega
theorem occ_take (v : Int) {l : List Tm} {j : Nat} {t : Tm} (h : l[j]? = some t) : occL v (l.take (j + 1)) = occL v (l.take j) + t.occ v := by
  rw [take_snoc h, occL_append]; simp [occL]
mutual
theorem occ_nodes (v : Int) : ∀ t : Tm, t.occ v ≤ t.nodes
  | .mk k i _ l => by rw [Tm.occ, Tm.nodes]; have := occL_nodes v l; split <;> omega
theorem occL_nodes (v : Int) : ∀ l : List Tm, occL v l ≤ nodesL l
  | [] => by rw [occL]; omega
  | t :: l => by rw [occL, nodesL]; have := occ_nodes v t; have := occL_nodes v l; omega
end
theorem occ_take_le' (v : Int) (l : List Tm) (j : Nat) : occL v (l.take j) ≤ occL v l := by
  conv => rhs; rw [← List.take_append_drop j l]
  rw [occL_append]; omega
theorem occ_take_le (v : Int) (l : List Tm) (j : Nat) : occL v (l.take j) ≤ nodesL l := by have := occL_nodes v (l.take j); have := nodes_take_le l j; omega

set_option maxHeartbeats 400000 in
theorem isVar_any (t : Tm) (a : Option Addr) (cap : Nat) (v : Int) (w : World) :
    Calls Try.prog 35 #[.agg #[.int .i64 t.kind, .int .i64 t.num, .string t.name, .slice a t.args.length cap], .int .i64 v] w fun e w' => e = .returned (.bool (decide (t.kind = 1 ∧ t.num = v))) ∧ Below w.heap.size w w' := by
  generalize t.args.length = n
  generalize t.kind = k
  generalize t.num = i
  generalize t.name = s
  by_cases h1 : k = 1
  · subst h1
    by_cases h2 : i = v
    · subst h2
      go_enter Try.func35, Try.ntmps35
      go_wp2
      go_ret
      exact ⟨by simp, (Below.refl _ _).alloc (Nat.le_refl _) _⟩
    · go_enter Try.func35, Try.ntmps35
      go_wp2
      go_ret
      exact ⟨by simp [h2], (Below.refl _ _).alloc (Nat.le_refl _) _⟩
  · go_enter Try.func35, Try.ntmps35
    go_wp2
    go_ret
    exact ⟨by simp [h1], (Below.refl _ _).alloc (Nat.le_refl _) _⟩

set_option maxHeartbeats 1600000 in
theorem occurrences_any (N : Nat) : ∀ (t : Tm) (V : Value) (v : Int) (w : World), t.nodes < N → ArgsAt w V t.args → t.sz ≤ 1048576 →
    Calls Try.prog 20 #[.agg #[.int .i64 t.kind, .int .i64 t.num, .string t.name, V], .int .i64 v] w fun e w' => e = .returned (.int .i64 (t.occ v)) ∧ Below w.heap.size w w' := by
  induction N with
  | zero => intro t V v w hN; omega
  | succ N ih =>
    intro t V v w hN hA hZ
    obtain ⟨a, cap, rfl⟩ := hA.slice
    have HA := Lib.hid hA
    have HI := Lib.hid ih
    have HSE := Lib.hid (sz_eq t)
    have hL : t.args.length ≤ 1048576 := by have := length_szL t.args; have := HSE.out; omega
    have HNE := Lib.hid (nodes_eq t)
    have HOE := Lib.hid (occ_eq v t)
    have hnz : t.nodes ≤ 1048577 := by have := nodes_sz t; omega
    clear hA ih
    have B0 := Lib.hid ((Below.refl w.heap.size w).alloc (Nat.le_refl _) (.cells #[.int .i64 t.kind, .int .i64 t.num, .string t.name, .slice a t.args.length cap] 25))
    have HV := Lib.hid (isVar_any t a cap v (w.alloc (.cells #[.int .i64 t.kind, .int .i64 t.num, .string t.name, .slice a t.args.length cap] 25)))
    go_enter Try.func20, Try.ntmps20
    go_wp2_with fail
    refine HV.out.mono ?_
    rintro e w1 ⟨rfl, hb⟩
    have h1 := (hb.block w.heap.size (by simp)).trans (heap_new w _)
    obtain ⟨b0, b1, b2, b3, bf⟩ := box_cells h1
    have HB1 := Lib.hid (B0.out.trans (hb.mono (by simp)))
    clear hb h1 HV
    by_cases hv : t.kind = 1 ∧ t.num = v
    · have hd : decide (t.kind = 1 ∧ t.num = v) = true := decide_eq_true hv
      rw [hd]
      have HVV := Lib.hid hv
      clear hv hd
      go_wp2
      go_ret
      exact ⟨by rw [HOE.out, if_pos HVV.out]; rfl, HB1.out⟩
    · have hd : decide (t.kind = 1 ∧ t.num = v) = false := decide_eq_false hv
      rw [hd]
      have HVV := Lib.hid hv
      clear hv hd
      go_wp2
      go_loopw [5, 14] (fun sv i wr => ∃ k n : Nat, k ≤ t.args.length ∧ i = .int .i64 k ∧ sv = .int .i64 n ∧ n = occL v (t.args.take k) ∧ n ≤ t.nodes ∧ Below w.heap.size w wr)
          (fun _ i _ => t.args.length - (intOf i).toNat)
      case atStart => exact ⟨0, 0, Nat.zero_le _, rfl, rfl, by simp [occL_nil], by omega, HB1.out⟩
      case round =>
        obtain ⟨k, n, hk, rfl, rfl, hn, hn5, hb⟩ := hrel
        have HNN := Lib.hid hn
        have HB := Lib.hid hb
        clear hn hb b0 b1 b2 b3 bf
        by_cases hlt : k < t.args.length
        · obtain ⟨x, hx⟩ : ∃ x, t.args[k]? = some x := ⟨_, List.getElem?_eq_getElem hlt⟩
          obtain ⟨g, off, u1, u2, rfl, hg, _, hc, hch⟩ := HA.out.elem hx
          obtain ⟨d0, d1, d2, d3⟩ := hc _ HB.out
          have HC := Lib.hid hch
          have HOT := Lib.hid (occ_take v hx)
          have HOL := Lib.hid (occ_take_le v t.args (k + 1))
          have hN' : x.nodes < N := by have := nodes_at hx; have := HNE.out; omega
          have hZ' : x.sz ≤ 1048576 := by have h1 := sz_at hx; have := HSE.out; omega
          have hxo : x.occ v ≤ 1048577 := by have := occ_nodes v x; have := nodes_at hx; have := HNE.out; omega
          clear hc hch hx
          have hbx : Below w.heap.size w (wr.alloc (.cells #[.int .i64 x.kind, .int .i64 x.num, .string x.name, .slice u1 x.args.length u2] 25)) := HB.out.alloc HB.out.size _
          have HBX := Lib.hid hbx
          have HCALL := Lib.hid (HI.out x _ v _ hN' (HC.out.kept hbx) hZ')
          clear hbx
          go_wp2_with fail
          refine HCALL.out.mono ?_
          rintro e w2 ⟨rfl, hb2⟩
          have HB2 := Lib.hid (HBX.out.trans (hb2.mono HBX.out.size))
          clear hb2 HCALL
          go_wp2
          go_roundw
          case rel =>
            have h1 := HNN.out
            have h2 := HOT.out
            have h3 := HOL.out
            have h4 := HNE.out
            exact ⟨k + 1, n + x.occ v, by omega, by go_num, by go_num, by omega, by omega, HB2.out⟩
          case measure => simp [intOf]; omega
        · go_wp2
          go_ret
          obtain rfl : k = t.args.length := by omega
          have h1 := HNN.out
          rw [List.take_length] at h1
          have h2 : n = t.occ v := by rw [HOE.out, if_neg HVV.out]; exact h1
          exact ⟨by rw [h2]; rfl, HB.out⟩

noncomputable def occB (v : Int) (t : Tm) : Bool := okB t && decide (0 < t.occ v)

set_option maxHeartbeats 400000 in
theorem implOccursIn_any (v : Int) (t : Tm) (V : Value) (w : World) (hA : ArgsAt w V t.args) (hZ : t.sz ≤ 1048576) :
    Calls Try.prog 10 #[.int .i64 v, .agg #[.int .i64 t.kind, .int .i64 t.num, .string t.name, V]] w fun e w' => e = .returned (.bool (occB v t)) ∧ Below w.heap.size w w' := by
  obtain ⟨a, cap, rfl⟩ := hA.slice
  have B0 := Lib.hid ((Below.refl w.heap.size w).alloc (Nat.le_refl _) (.cells #[.int .i64 t.kind, .int .i64 t.num, .string t.name, .slice a t.args.length cap] 25))
  have HO := Lib.hid (implTermOk_any t _ (w.alloc (.cells #[.int .i64 t.kind, .int .i64 t.num, .string t.name, .slice a t.args.length cap] 25)) (hA.kept B0.out) hZ)
  have HA := Lib.hid hA
  clear hA
  go_enter Try.func10, Try.ntmps10
  go_wp2_with fail
  refine HO.out.mono ?_
  rintro e w1 ⟨rfl, hb⟩
  have hbox := (hb.block w.heap.size (by simp)).trans (heap_new w _)
  obtain ⟨x0, x1, x2, x3, _⟩ := box_cells hbox
  have HB := Lib.hid (B0.out.trans (hb.mono (by simp)))
  clear hb hbox HO
  cases hok : okB t with
  | false =>
    have HOK := Lib.hid hok
    clear hok
    go_wp2
    go_ret
    exact ⟨by rw [occB, HOK.out]; rfl, HB.out⟩
  | true =>
    have HOK := Lib.hid hok
    clear hok
    have HC := Lib.hid (occurrences_any (t.nodes + 1) t _ v w1 (by omega) (HA.out.kept HB.out) hZ)
    have ho : t.occ v ≤ 1048577 := by have := nodes_sz t; have := occ_nodes v t; omega
    go_wp2_with fail
    refine HC.out.mono ?_
    rintro e w2 ⟨rfl, hb2⟩
    have HB2 := Lib.hid (HB.out.trans (hb2.mono HB.out.size))
    clear hb2 HC
    go_wp2
    go_ret
    exact ⟨by rw [occB, HOK.out]; simp, HB2.out⟩

theorem fit_var {t : Tm} (h : Fit t) (h1 : t.kind = 1) : t.args = [] := by
  rcases h with ⟨h, _⟩ | ⟨_, _, _, h⟩ | ⟨h, _⟩ | ⟨h, _⟩ | ⟨h, _⟩
  · rw [h1] at h; cases h
  · exact h
  · rw [h1] at h; cases h
  · rw [h1] at h; cases h
  · rw [h1] at h; cases h

end Go.Proofs.Ytokndpmoamjbfaa

