/-
  The model's l02Insert and l02Vars.
-/
import Derived.Test.YtjmmeccfjanpcaaDoorInsRows
namespace Go.Proofs.YtjmmeccfjanpcaaDoor
open Go.RowKit
set_option linter.unusedVariables false
set_option linter.unusedSimpArgs false

theorem insert_any (b : Nat) (v : Value) (xs : List Int) (n : Int) (w : World) (hrow : Row w b 3 v (xs.map (Value.int .i64))) (hl : xs.length ≤ 1048576) :
    Calls Tryd.prog 54 #[v, .int .i64 n] w fun e w' => ∃ u, e = .returned u ∧ Row w' 0 3 u ((insAsc xs n).map (Value.int .i64)) ∧ Below w.heap.size w w' := by
  have hn0 : insAsc [] n = [n] := by simp [insAsc, scan]
  rcases hrow.shape with ⟨rfl, hx⟩ | ⟨g, cap, rfl, hg, hgl, hc, hcm, _, _⟩
  · have hx' : xs = [] := by simpa using hx
    subst hx'
    refine (insert_nil n w).mono ?_
    rintro e w' ⟨u, rfl, hr, hb⟩
    exact ⟨u, rfl, by rw [hn0]; exact hr.base (Nat.zero_le _), hb⟩
  · rw [List.length_map] at hrow hc ⊢
    have hcm' : cap ≤ 9223372036854775807 := by simpa [maxLen] using hcm
    have hle := scan_le xs n xs.length
    rcases hK : scan xs n xs.length with _ | j
    · by_cases hlt : 0 < xs.length
      · by_cases hN : xs.getD 0 0 = n
        · exact insert_ZE b g cap xs n w hrow hl hc hgl hcm' hK hlt hN
        · exact insert_ZL b g cap xs n w hrow hl hc hgl hcm' hK hlt hN
      · by_cases hkc : 0 < cap
        · exact insert_ZN b g cap xs n w hrow hl hc hgl hcm' hK (by omega) hkc
        · obtain rfl : xs = [] := List.length_eq_zero_iff.1 (by omega)
          obtain rfl : cap = 0 := by omega
          refine (insert_ZC g n w).mono ?_
          rintro e w' ⟨u, rfl, hr, hb⟩
          exact ⟨u, rfl, by rw [hn0]; exact hr.base (Nat.zero_le _), hb⟩
    · rw [hK] at hle
      by_cases hlt : j + 1 < xs.length
      · by_cases hN : xs.getD (j + 1) 0 = n
        · exact insert_SE b g cap xs n w j hrow hl hc hgl hcm' hK hlt hN
        · exact insert_SL b g cap xs n w j hrow hl hc hgl hcm' hK hlt hN
      · by_cases hkc : j + 1 < cap
        · exact insert_SN b g cap xs n w j hrow hl hc hgl hcm' hK (by omega) hkc
        · exact insert_SC b g cap xs n w j hrow hl hc hgl hcm' hK (by omega) (by omega)

theorem insAsc_len (xs : List Int) (n : Int) : (insAsc xs n).length ≤ xs.length + 1 := by
  unfold insAsc
  split
  · omega
  · have := scan_le xs n xs.length
    simp; omega
theorem insL_len (ys : List Int) : ∀ xs : List Int, (ys.foldl insAsc xs).length ≤ xs.length + ys.length := by
  induction ys with
  | nil => intro xs; simp
  | cons y ys ih => intro xs; have := ih (insAsc xs y); have := insAsc_len xs y; simp only [List.foldl_cons, List.length_cons]; omega

set_option maxRecDepth 100000 in
set_option maxHeartbeats 1600000 in
theorem specVars_any (N : Nat) : ∀ (t : Tm) (V : Value) (w0 : World) (v : Value) (xs : List Int) (w : World), t.nodes < N → ArgsAt w0 V t.args → Below w0.heap.size w0 w → Row w 0 3 v (xs.map (Value.int .i64)) → xs.length + t.nodes ≤ 1048576 → t.sz ≤ 1048576 →
    Calls Tryd.prog 35 #[.agg #[.int .i64 t.kind, .int .i64 t.num, .string t.name, V], v] w fun e w' => ∃ u, e = .returned u ∧ Row w' 0 3 u ((t.vl.foldl insAsc xs).map (Value.int .i64)) ∧ Below w.heap.size w w' := by
  induction N with
  | zero => intro t V w0 v xs w hN; omega
  | succ N ih =>
    intro t V w0 v xs w hN hA hBw hrow hxl hZ
    obtain ⟨a, cap, rfl⟩ := hA.slice
    have HI := Lib.hid ih
    have HA := Lib.hid hA
    have HSE := Lib.hid (sz_eq t)
    have hL : t.args.length ≤ 1048576 := by have := length_szL t.args; have := HSE.out; omega
    have HNE := Lib.hid (nodes_eq t)
    have HVE := Lib.hid (vl_eq t)
    have htn := nodes_pos t
    have HBW := Lib.hid hBw
    have hsl : ∃ sa sn sc, v = .slice sa sn sc := by
      rcases hrow.shape with ⟨h, _⟩ | ⟨g, c, h, _⟩
      · exact ⟨_, _, _, h⟩
      · exact ⟨_, _, _, h⟩
    obtain ⟨sa, sn, sc, rfl⟩ := hsl
    have B0 := Lib.hid ((Below.refl w.heap.size w).alloc (Nat.le_refl _) (.cells #[.int .i64 t.kind, .int .i64 t.num, .string t.name, .slice a t.args.length cap] 43))
    have HR0 := Lib.hid (hrow.kept B0.out)
    clear hA ih hBw hrow
    by_cases hv : t.kind = 1
    · have HV : Hid (t.vl = [t.num]) := Lib.hid (by rw [HVE.out, if_pos hv])
      rw [hv] at B0 HR0 ⊢
      clear hv
      have HX := Lib.hid (at_box w #[.int .i64 1, .int .i64 t.num, .string t.name, .slice a t.args.length cap] 43)
      have HINS := Lib.hid (insert_any 0 _ xs t.num _ HR0.out (by omega))
      go_enter Tryd.func35, Tryd.ntmps35
      go_wp2_with fail
      refine HINS.out.mono ?_
      rintro e w2 ⟨u, rfl, hr2, hb2⟩
      have HO2 := Lib.hid hr2
      have HB2 := Lib.hid (B0.out.trans (hb2.mono B0.out.size))
      clear hr2 hb2
      go_wp2
      go_ret
      refine ⟨_, rfl, ?_, HB2.out⟩
      rw [HV.out]
      exact HO2.out
    · have HV : Hid (t.vl = vlL t.args) := Lib.hid (by rw [HVE.out, if_neg hv])
      have hkb : (t.kind == 1) = false := by simp [hv]
      go_enter Tryd.func35, Tryd.ntmps35
      go_wp2
      go_loopw [1, 17] (fun vv i wr => ∃ (k : Nat), k ≤ t.args.length ∧ i = .int .i64 k ∧ Row wr 0 3 vv (((vlL (t.args.take k)).foldl insAsc xs).map (Value.int .i64)) ∧ Below w.heap.size w wr)
          (fun _ i _ => t.args.length - (intOf i).toNat)
      case atStart => exact ⟨0, Nat.zero_le _, rfl, by rw [List.take_zero, vlL_nil, List.foldl_nil]; exact HR0.out, B0.out⟩
      case round =>
        obtain ⟨k, hk, rfl, hr, hb⟩ := hrel
        obtain ⟨sa', sn', sc', rfl⟩ : ∃ sa sn sc, u1 = .slice sa sn sc := by
          rcases hr.shape with ⟨h, _⟩ | ⟨g, c, h, _⟩
          · exact ⟨_, _, _, h⟩
          · exact ⟨_, _, _, h⟩
        have HRR := Lib.hid hr
        have HB := Lib.hid hb
        have HW0 := Lib.hid (HBW.out.trans (hb.mono HBW.out.size))
        clear hr hb HR0
        by_cases hlt : k < t.args.length
        · obtain ⟨x, hx⟩ : ∃ x, t.args[k]? = some x := ⟨_, List.getElem?_eq_getElem hlt⟩
          obtain ⟨g, off, u1', u2', rfl, hg, hq, hc, hch⟩ := HA.out.elem hx
          clear hq
          obtain ⟨d0, d1, d2, d3⟩ := hc _ HW0.out
          have hgw : g < wr.heap.size := Nat.lt_of_lt_of_le hg HW0.out.size
          have HCH := Lib.hid hch
          have HVT := Lib.hid (vl_take hx)
          have hbnd : x.nodes < N ∧ x.sz ≤ 1048576 ∧ ((vlL (t.args.take k)).foldl insAsc xs).length + x.nodes ≤ 1048576 := by
            have h1 := nodes_take_at hx
            have h2 := HNE.out
            have h3 := sz_at hx
            have h4 := HSE.out
            have h5 := vlL_len (t.args.take k)
            have h6 := insL_len (vlL (t.args.take k)) xs
            omega
          have HBD := Lib.hid hbnd
          clear hc hch hx hbnd
          have hal : Below wr.heap.size wr (wr.alloc (.cells #[.int .i64 x.kind, .int .i64 x.num, .string x.name, .slice u1' x.args.length u2'] 43)) := (Below.refl _ _).alloc (Nat.le_refl _) _
          have HCALL := Lib.hid (HI.out x _ w0 _ _ _ HBD.out.1 HCH.out (belowOn HW0.out (Nat.le_refl _) hal) (HRR.out.kept hal) HBD.out.2.2 HBD.out.2.1)
          have HAL := Lib.hid hal
          clear hal
          go_wp2_with fail
          refine HCALL.out.mono ?_
          rintro e w2 ⟨u, rfl, hr2, hb2⟩
          have HB2 := Lib.hid (HB.out.trans ((HAL.out.trans (hb2.mono HAL.out.size)).mono HB.out.size))
          have hsz2 := hb2.size
          have HR2 := Lib.hid hr2
          clear hb2 hr2 HCALL d0 d1 d2 d3
          simp only [World.size_alloc] at hsz2
          go_wp2
          go_roundw
          case rel => exact ⟨k + 1, by omega, by go_num, by rw [HVT.out, List.foldl_append]; exact HR2.out, HB2.out⟩
          case measure => simp [intOf]; omega
        · go_wp2
          go_ret
          obtain rfl : k = t.args.length := by omega
          have h1 := HRR.out
          rw [List.take_length] at h1
          exact ⟨_, rfl, by rw [HV.out]; exact h1, HB.out⟩
end Go.Proofs.YtjmmeccfjanpcaaDoor

