/-
  The program's methods of VarKind and Mark, hasSymbol and ContainsSymbol. (Written by wip/tools/gen_demm.py.)
-/
import Derived.Test.YtnmdnajbafpfiaaKdLaws
import Derived.Test.YtnmdnajbafpfiaaMkLaws
import Derived.Test.YtnmdnajbafpfiaaSpecSym
import Derived.Test.YtnmdnajbafpfiaaDemP
namespace Go.Proofs.Ytnmdnajbafpfiaa
open Go.RowKit
set_option linter.unusedVariables false
set_option linter.unusedSimpArgs false

/-! ### hasSymbol -/
theorem Good.symArgs {t : Tm} (h : Good t) (hk : t.kind = 2) : t.args = [] := by
  cases h with
  | sym s h => rfl
  | _ => cases hk
set_option maxHeartbeats 1600000 in
theorem hasSymbol_any (N : Nat) : ∀ (t : Tm) (V : Value) (s : ByteArray) (w : World), t.nodes < N → ArgsAt w V t.args → t.sz ≤ 1048576 → Good t →
    Calls Try.prog 62 #[.agg #[.int .i64 t.kind, .int .i64 t.num, .string t.name, V], .string s] w fun e w' => e = .returned (.bool (syB t s)) ∧ Below w.heap.size w w' := by
  induction N with
  | zero => intro t V s w hN; omega
  | succ N ih =>
    intro t V s w hN hA hZ hG
    obtain ⟨a, cap, rfl⟩ := hA.slice
    have HA := Lib.hid hA
    have HI := Lib.hid ih
    have HSE := Lib.hid (sz_eq t)
    have hL : t.args.length ≤ 1048576 := by have := length_szL t.args; have := HSE.out; omega
    have HNE := Lib.hid (nodes_eq t)
    have HOE := Lib.hid (sy_eq s t)
    have HG := Lib.hid hG
    have B0 := Lib.hid ((Below.refl w.heap.size w).alloc (Nat.le_refl _) (.cells #[.int .i64 t.kind, .int .i64 t.num, .string t.name, .slice a t.args.length cap] 28))
    obtain ⟨r, hr⟩ : ∃ r, syB t s = r := ⟨_, rfl⟩
    rw [hr]
    have HR := Lib.hid hr
    clear hA ih hr
    by_cases h1 : t.kind = 2
    · have k1 : (t.kind == 2) = true := by rw [beq_iff_eq]; exact h1
      have HS2 : Hid (syB t s = decide (t.name = s)) := Lib.hid (by
        unfold syB
        rw [HOE.out, hG.symArgs h1, syL_nil]
        by_cases h2 : t.name = s
        · rw [if_pos ⟨h1, h2⟩, decide_eq_true h2]; rfl
        · rw [if_neg (fun h => h2 h.2), decide_eq_false h2]; rfl)
      clear h1 hG
      by_cases h2 : t.name = s
      · have k2 : (t.name.toList == s.toList) = true := by rw [h2]; exact beq_self_eq_true _
        obtain rfl : r = true := by rw [← HR.out, HS2.out, decide_eq_true h2]
        clear h2
        go_enter Try.func62, Try.ntmps62
        go_wp2
        go_ret
        exact ⟨rfl, B0.out⟩
      · have k2 : (t.name.toList == s.toList) = false := by rw [beq_eq_false_iff_ne]; exact fun h => h2 (toList_inj h)
        obtain rfl : r = false := by rw [← HR.out, HS2.out, decide_eq_false h2]
        clear h2
        go_enter Try.func62, Try.ntmps62
        go_wp2
        go_ret
        exact ⟨rfl, B0.out⟩
    · have k1 : (t.kind == 2) = false := by rw [beq_eq_false_iff_ne]; exact h1
      have HSZ : Hid (t.sy s = syL s t.args) := Lib.hid (by rw [HOE.out, if_neg (fun h => h1 h.1), Nat.zero_add])
      clear h1 hG
      go_enter Try.func62, Try.ntmps62
      go_wp2
      go_loopw [17] (fun i wr => ∃ k : Nat, k ≤ t.args.length ∧ i = .int .i64 k ∧ Hid (syL s (t.args.take k) = 0) ∧ Hid (Below w.heap.size w wr))
          (fun i _ => t.args.length - (intOf i).toNat)
      case atStart => exact ⟨0, Nat.zero_le _, rfl, Lib.hid (by simp [syL_nil]), B0⟩
      case round =>
        obtain ⟨k, hk, rfl, HNN, HB⟩ := hrel
        by_cases hlt : k < t.args.length
        · obtain ⟨x, hx⟩ : ∃ x, t.args[k]? = some x := ⟨_, List.getElem?_eq_getElem hlt⟩
          obtain ⟨g, off, u1, u2, rfl, hg, _, hc, hch⟩ := HA.out.elem hx
          obtain ⟨d0, d1, d2, d3⟩ := hc _ HB.out
          have HC := Lib.hid hch
          have HOT := Lib.hid (sy_take s hx)
          have hN' : x.nodes < N := by have := nodes_at hx; have := HNE.out; omega
          have hZ' : x.sz ≤ 1048576 := by have h1 := sz_at hx; have := HSE.out; omega
          have HGX := Lib.hid (HG.out.each hx)
          clear hc hch hx
          have hbx : Below w.heap.size w (wr.alloc (.cells #[.int .i64 x.kind, .int .i64 x.num, .string x.name, .slice u1 x.args.length u2] 28)) := HB.out.alloc HB.out.size _
          have HBX := Lib.hid hbx
          have HCALL := Lib.hid (HI.out x _ s _ hN' (HC.out.kept hbx) hZ' HGX.out)
          clear hbx
          go_wp2_with fail
          refine HCALL.out.mono ?_
          rintro e w2 ⟨rfl, hb2⟩
          have HB2 := Lib.hid (HBX.out.trans (hb2.mono HBX.out.size))
          clear hb2 HCALL
          cases hpos : syB x s with
          | true =>
            obtain rfl : r = true := by
              have h0 := of_decide_eq_true hpos
              have h1 : 0 < t.sy s := by
                have h5 := sy_take_le s t.args (k + 1)
                have h6 := HOT.out
                have h7 := HSZ.out
                omega
              rw [← HR.out, syB, decide_eq_true h1]
            clear hpos
            go_wp2
            go_ret
            exact ⟨rfl, HB2.out⟩
          | false =>
            have HP := Lib.hid (of_decide_eq_false hpos)
            clear hpos
            go_wp2
            go_roundw
            case rel => exact ⟨k + 1, by omega, by go_num, Lib.hid (by rw [HOT.out, HNN.out]; have := HP.out; omega), HB2⟩
            case measure => simp [intOf]; omega
        · obtain rfl : k = t.args.length := by omega
          obtain rfl : r = false := by
            have h0 := HNN.out
            rw [List.take_length] at h0
            rw [← HR.out, syB, decide_eq_false (by rw [HSZ.out, h0]; omega)]
          go_wp2
          go_ret
          exact ⟨rfl, HB.out⟩

set_option maxHeartbeats 400000 in
theorem implContainsSymbol_any (t : Tm) (V : Value) (s : ByteArray) (w : World) (hA : ArgsAt w V t.args) (hZ : t.sz ≤ 1048576) (hS : s.size ≤ maxLen) :
    Calls Try.prog 32 #[.agg #[.int .i64 t.kind, .int .i64 t.num, .string t.name, V], .string s] w fun e w' => e = .returned (.bool (csB t s)) ∧ Below w.heap.size w w' := by
  obtain ⟨a, cap, rfl⟩ := hA.slice
  have B0 := Lib.hid ((Below.refl w.heap.size w).alloc (Nat.le_refl _) (.cells #[.int .i64 t.kind, .int .i64 t.num, .string t.name, .slice a t.args.length cap] 28))
  have HO := Lib.hid (implTermOk_any t _ (w.alloc (.cells #[.int .i64 t.kind, .int .i64 t.num, .string t.name, .slice a t.args.length cap] 28)) (hA.kept B0.out) hZ)
  have HA := Lib.hid hA
  clear hA
  go_enter Try.func32, Try.ntmps32
  go_wp2_with fail
  refine HO.out.mono ?_
  rintro e w1 ⟨rfl, hb⟩
  have hbox := (hb.block w.heap.size (by simp)).trans (heap_new w _)
  obtain ⟨x0, x1, x2, x3, _⟩ := box_cells hbox
  have HB := Lib.hid (B0.out.trans (hb.mono (by simp)))
  clear hb hbox HO
  cases hok : okB t with
  | false =>
    have HOK := Lib.hid hok
    clear hok
    go_wp2
    go_ret
    exact ⟨by rw [csB, HOK.out]; rfl, HB.out⟩
  | true =>
    have HOK := Lib.hid hok
    have HC := Lib.hid (hasSymbol_any (t.nodes + 1) t _ s w1 (by omega) (HA.out.kept HB.out) hZ (okB_true.1 hok).2)
    clear hok
    go_wp2_with fail
    refine HC.out.mono ?_
    rintro e w2 ⟨rfl, hb2⟩
    have HB2 := Lib.hid (HB.out.trans (hb2.mono HB.out.size))
    clear hb2 HC
    go_wp2
    go_ret
    exact ⟨by rw [csB, HOK.out]; rfl, HB2.out⟩

/-! ### VarKind -/
set_option maxHeartbeats 400000 in
theorem kdVariable_any (x : Kd) (w : World) :
    Calls Try.prog 152 #[.agg #[.int .i64 x.v, .int .i64 x.k]] w fun e w' => e = .returned (.agg #[.int .i64 1, .int .i64 x.v, .string ⟨#[]⟩, .slice none 0 0]) ∧ Below w.heap.size w w' := by
  obtain ⟨v, k⟩ := x
  go_enter Try.func152, Try.ntmps152
  go_wp2
  exact bodyPost_ret (v := .agg #[.int .i64 1, .int .i64 v, .string ⟨#[]⟩, .slice none 0 0]) (by simp [results, Try.results152, go_sem]) rfl ⟨rfl, ((Below.refl _ _).alloc (Nat.le_refl _) _).alloc (by simp) _⟩

set_option maxHeartbeats 400000 in
theorem kdOf_any (x : Kd) (n : Int) (w : World) :
    Calls Try.prog 151 #[.agg #[.int .i64 x.v, .int .i64 x.k], .int .i64 n] w fun e w' => e = .returned (.agg #[.int .i64 n, .int .i64 x.k]) ∧ Below w.heap.size w w' := by
  obtain ⟨v, k⟩ := x
  go_enter Try.func151, Try.ntmps151
  go_wp2
  exact bodyPost_ret (v := .agg #[.int .i64 n, .int .i64 k]) (by simp [results, Try.results151, go_sem]) rfl ⟨rfl, ((Below.refl _ _).alloc (Nat.le_refl _) _).alloc (by simp) _⟩

/-! ### Mark -/
set_option maxHeartbeats 400000 in
theorem mkVariable_any (x : Mk) (w : World) :
    Calls Try.prog 157 #[.agg #[.int .i64 x.v, .string x.tag]] w fun e w' => e = .returned (.agg #[.int .i64 1, .int .i64 x.v, .string ⟨#[]⟩, .slice none 0 0]) ∧ Below w.heap.size w w' := by
  obtain ⟨v, k⟩ := x
  go_enter Try.func157, Try.ntmps157
  go_wp2
  exact bodyPost_ret (v := .agg #[.int .i64 1, .int .i64 v, .string ⟨#[]⟩, .slice none 0 0]) (by simp [results, Try.results157, go_sem]) rfl ⟨rfl, ((Below.refl _ _).alloc (Nat.le_refl _) _).alloc (by simp) _⟩

set_option maxHeartbeats 400000 in
theorem mkOf_any (x : Mk) (n : Int) (w : World) :
    Calls Try.prog 156 #[.agg #[.int .i64 x.v, .string x.tag], .int .i64 n] w fun e w' => e = .returned (.agg #[.int .i64 n, .string x.tag]) ∧ Below w.heap.size w w' := by
  obtain ⟨v, k⟩ := x
  go_enter Try.func156, Try.ntmps156
  go_wp2
  exact bodyPost_ret (v := .agg #[.int .i64 n, .string k]) (by simp [results, Try.results156, go_sem]) rfl ⟨rfl, ((Below.refl _ _).alloc (Nat.le_refl _) _).alloc (by simp) _⟩

/-! ### compare -/
set_option maxHeartbeats 400000 in
theorem kdCompare_any (x y : Kd) (w : World) :
    Calls Try.prog 149 #[.agg #[.int .i64 x.v, .int .i64 x.k], .agg #[.int .i64 y.v, .int .i64 y.k]] w fun e w' => e = .returned (.int .i64 (cmpI x.v y.v)) ∧ Below w.heap.size w w' := by
  obtain ⟨v, k⟩ := x
  obtain ⟨u, j⟩ := y
  have HB : Hid (Below w.heap.size w ((w.alloc (.cells #[.int .i64 v, .int .i64 k] 39)).alloc (.cells #[.int .i64 u, .int .i64 j] 39))) := Lib.hid (belowAlloc (belowAlloc (Below.refl _ _) _) _)
  go_enter Try.func149, Try.ntmps149
  go_wp2_with fail
  refine (cmpInt_any v u _).mono ?_
  rintro e w' ⟨rfl, rfl⟩
  go_wp2
  go_ret
  exact ⟨rfl, HB.out⟩
def mkCmp (x y : Mk) : Int := if x.v = y.v then cmpS x.tag y.tag else cmpI x.v y.v
set_option maxHeartbeats 400000 in
theorem mkCompare_any (x y : Mk) (w : World) :
    Calls Try.prog 154 #[.agg #[.int .i64 x.v, .string x.tag], .agg #[.int .i64 y.v, .string y.tag]] w fun e w' => e = .returned (.int .i64 (mkCmp x y)) ∧ Below w.heap.size w w' := by
  obtain ⟨v, k⟩ := x
  obtain ⟨u, j⟩ := y
  have HB : Hid (Below w.heap.size w ((w.alloc (.cells #[.int .i64 v, .string k] 49)).alloc (.cells #[.int .i64 u, .string j] 49))) := Lib.hid (belowAlloc (belowAlloc (Below.refl _ _) _) _)
  obtain ⟨r, hr⟩ : ∃ r, mkCmp ⟨v, k⟩ ⟨u, j⟩ = r := ⟨_, rfl⟩
  rw [hr]
  have HR := Lib.hid hr
  clear hr
  by_cases hv : v = u
  · have q0 : (v != u) = false := by simp [hv]
    obtain rfl : r = cmpS k j := by rw [← HR.out]; exact if_pos hv
    clear hv
    go_enter Try.func154, Try.ntmps154
    go_wp2_with fail
    refine (cmpStr_any k j _).mono ?_
    rintro e w' ⟨rfl, rfl⟩
    go_wp2
    go_ret
    exact ⟨rfl, HB.out⟩
  · have q0 : (v != u) = true := by simp [hv]
    obtain rfl : r = cmpI v u := by rw [← HR.out]; exact if_neg hv
    clear hv
    go_enter Try.func154, Try.ntmps154
    go_wp2_with fail
    refine (cmpInt_any v u _).mono ?_
    rintro e w' ⟨rfl, rfl⟩
    go_wp2
    go_ret
    exact ⟨rfl, HB.out⟩

/-! ### allows -/
def kdAllows (x : Kd) (t : Tm) : Bool := decide (t.kind = 1 ∨ t.kind = x.k)
set_option maxHeartbeats 400000 in
theorem kdAllows_any (x : Kd) (t : Tm) (V : Value) (w : World) (hA : ArgsAt w V t.args) :
    Calls Try.prog 148 #[.agg #[.int .i64 x.v, .int .i64 x.k], .agg #[.int .i64 t.kind, .int .i64 t.num, .string t.name, V]] w fun e w' => e = .returned (.bool (kdAllows x t)) ∧ Below w.heap.size w w' := by
  obtain ⟨a, c, rfl⟩ := hA.slice
  obtain ⟨v, k⟩ := x
  have HB : Hid (Below w.heap.size w ((w.alloc (.cells #[.int .i64 v, .int .i64 k] 39)).alloc (.cells #[.int .i64 t.kind, .int .i64 t.num, .string t.name, .slice a t.args.length c] 28))) := Lib.hid (belowAlloc (belowAlloc (Below.refl _ _) _) _)
  obtain ⟨r, hr⟩ : ∃ r, kdAllows ⟨v, k⟩ t = r := ⟨_, rfl⟩
  rw [hr]
  have HR := Lib.hid hr
  clear hr hA
  by_cases h1 : t.kind = 1
  · obtain rfl : r = true := by rw [← HR.out]; exact decide_eq_true (.inl h1)
    have q1 : (t.kind == 1) = true := by rw [beq_iff_eq]; exact h1
    clear h1
    go_enter Try.func148, Try.ntmps148
    go_wp2
    go_ret
    exact ⟨rfl, HB.out⟩
  · have q1 : (t.kind == 1) = false := by rw [beq_eq_false_iff_ne]; exact h1
    by_cases h2 : t.kind = k
    · obtain rfl : r = true := by rw [← HR.out]; exact decide_eq_true (.inr h2)
      have q2 : (t.kind == k) = true := by rw [beq_iff_eq]; exact h2
      clear h1 h2
      go_enter Try.func148, Try.ntmps148
      go_wp2
      go_ret
      exact ⟨rfl, HB.out⟩
    · obtain rfl : r = false := by rw [← HR.out]; exact decide_eq_false fun h => h.elim h1 h2
      have q2 : (t.kind == k) = false := by rw [beq_eq_false_iff_ne]; exact h2
      clear h1 h2
      go_enter Try.func148, Try.ntmps148
      go_wp2
      go_ret
      exact ⟨rfl, HB.out⟩
def mkAllows (x : Mk) (t : Tm) : Bool := !syB t x.tag
set_option maxHeartbeats 400000 in
theorem mkAllows_any (x : Mk) (t : Tm) (V : Value) (w : World) (hA : ArgsAt w V t.args) (hZ : t.sz ≤ 1048576) (hG : Good t) :
    Calls Try.prog 153 #[.agg #[.int .i64 x.v, .string x.tag], .agg #[.int .i64 t.kind, .int .i64 t.num, .string t.name, V]] w fun e w' => e = .returned (.bool (mkAllows x t)) ∧ Below w.heap.size w w' := by
  obtain ⟨a, c, rfl⟩ := hA.slice
  obtain ⟨v, k⟩ := x
  have hb : Below w.heap.size w ((w.alloc (.cells #[.int .i64 v, .string k] 49)).alloc (.cells #[.int .i64 t.kind, .int .i64 t.num, .string t.name, .slice a t.args.length c] 28)) := belowAlloc (belowAlloc (Below.refl _ _) _) _
  have HC := Lib.hid (hasSymbol_any (t.nodes + 1) t _ k _ (Nat.lt_succ_self _) (hA.kept hb) hZ hG)
  have HB := Lib.hid hb
  unfold mkAllows
  obtain ⟨r, hr⟩ : ∃ r, syB t k = r := ⟨_, rfl⟩
  simp only [hr] at HC ⊢
  clear hA hb hr
  go_enter Try.func153, Try.ntmps153
  go_wp2_with fail
  refine HC.out.mono ?_
  rintro e w' ⟨rfl, hb⟩
  have HB2 := Lib.hid (HB.out.trans (hb.mono HB.out.size))
  clear hb HC
  go_wp2
  go_ret
  exact ⟨rfl, HB2.out⟩


end Go.Proofs.Ytnmdnajbafpfiaa

