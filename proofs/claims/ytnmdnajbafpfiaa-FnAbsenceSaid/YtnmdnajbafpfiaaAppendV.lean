/-
  The program's appendVars.
-/
import Derived.Test.YtnmdnajbafpfiaaVarsP
namespace Go.Proofs.Ytnmdnajbafpfiaa
open Go.RowKit
set_option linter.unusedVariables false
set_option linter.unusedSimpArgs false

set_option maxRecDepth 100000 in
set_option maxHeartbeats 1600000 in
theorem appendVars_any (N : Nat) : ∀ (t : Tm) (V : Value) (w0 : World) (b : Nat) (v : Value) (xs : List Int) (w : World), t.nodes < N → ArgsAt w0 V t.args → w0.heap.size ≤ b → Below w0.heap.size w0 w → b ≤ w.heap.size → Row w b 3 v (xs.map (Value.int .i64)) → xs.length + t.nodes ≤ 1048576 → t.sz ≤ 1048576 →
    Calls Try.prog 98 #[.agg #[.int .i64 t.kind, .int .i64 t.num, .string t.name, V], v] w fun e w' => ∃ u, e = .returned u ∧ Row w' b 3 u ((xs ++ t.vl).map (Value.int .i64)) ∧ Below b w w' := by
  induction N with
  | zero => intro t V w0 b v xs w hN; omega
  | succ N ih =>
    intro t V w0 b v xs w hN hA hb0 hBw hbw hrow hxl hZ
    obtain ⟨i0, hi, hz0, hz1, hz2⟩ := info_parts infoInt
    obtain ⟨a, cap, rfl⟩ := hA.slice
    have HI := Lib.hid ih
    have HA := Lib.hid hA
    have HSE := Lib.hid (sz_eq t)
    have hL : t.args.length ≤ 1048576 := by have := length_szL t.args; have := HSE.out; omega
    have HNE := Lib.hid (nodes_eq t)
    have HVE := Lib.hid (vl_eq t)
    have htn := nodes_pos t
    have HBW := Lib.hid hBw
    have HII := Lib.hid (And.intro hi (And.intro hz0 (And.intro hz1 hz2)))
    obtain ⟨g0, hg0⟩ : ∃ x : List Value, x = xs.map (Value.int .i64) := ⟨_, rfl⟩
    have hsl : ∃ sa sn sc, v = .slice sa sn sc := by
      rcases hrow.shape with ⟨h, _⟩ | ⟨g, c, h, _⟩
      · exact ⟨_, _, _, h⟩
      · exact ⟨_, _, _, h⟩
    obtain ⟨sa, sn, sc, rfl⟩ := hsl
    clear hg0 g0
    have HROW := Lib.hid hrow
    have B0 := Lib.hid ((Below.refl w.heap.size w).alloc (Nat.le_refl _) (.cells #[.int .i64 t.kind, .int .i64 t.num, .string t.name, .slice a t.args.length cap] 28))
    have HR0 := Lib.hid (hrow.kept B0.out)
    clear hA ih hBw hi hz0 hz1 hz2 hrow
    have hml : (xs.map (Value.int .i64)).length ≤ 1099511627776 := by simp; omega
    by_cases hv : t.kind = 1
    · have HV : Hid (t.vl = [t.num]) := Lib.hid (by rw [HVE.out, if_pos hv])
      rw [hv] at B0 HR0 ⊢
      clear hv
      have HX := Lib.hid (at_box w #[.int .i64 1, .int .i64 t.num, .string t.name, .slice a t.args.length cap] 28)
      go_enter Try.func98, Try.ntmps98
      go_upto_region 1 with (fail)
      generalize hwz : w.alloc (.cells #[.int .i64 1, .int .i64 t.num, .string t.name, .slice a t.args.length cap] 28) = wz at B0 HR0 HX ⊢
      clear hwz
      obtain ⟨c0, c1, c2, c3⟩ := HX.out.cells
      have hbz : b ≤ wz.heap.size := Nat.le_trans hbw B0.out.size
      go_wp2_with (at_builtin; refine append_one rfl _ _ 134 rfl b 3 i0 _ 8 Try.underlying134 HII.out.1 HII.out.2.1 HII.out.2.2.1 HII.out.2.2.2 rfl (by decide) _ _ rfl HR0.out (.int .i64 t.num) rfl rfl hml hbz ?_; intro v' w2 hown2 hb2; have HO2 := Lib.hid hown2; have HB2 := Lib.hid hb2; clear hown2 hb2)
      go_ret
      refine ⟨_, rfl, ?_, (B0.out.mono hbw).trans HB2.out⟩
      rw [HV.out, List.map_append]
      exact HO2.out
    · have HV : Hid (t.vl = vlL t.args) := Lib.hid (by rw [HVE.out, if_neg hv])
      have hkb : (t.kind == 1) = false := by simp [hv]
      go_enter Try.func98, Try.ntmps98
      go_wp2
      go_loopw [1, 18] (fun vv i wr => ∃ (k : Nat), k ≤ t.args.length ∧ i = .int .i64 k ∧ Row wr b 3 vv ((xs ++ vlL (t.args.take k)).map (Value.int .i64)) ∧ Below b w wr ∧ b ≤ wr.heap.size)
          (fun _ i _ => t.args.length - (intOf i).toNat)
      case atStart => exact ⟨0, Nat.zero_le _, rfl, by rw [List.take_zero, vlL_nil, List.append_nil]; exact HR0.out, B0.out.mono hbw, by simp; omega⟩
      case round =>
        obtain ⟨k, hk, rfl, hr, hb, hbr⟩ := hrel
        obtain ⟨sa', sn', sc', rfl⟩ : ∃ sa sn sc, u1 = .slice sa sn sc := by
          rcases hr.shape with ⟨h, _⟩ | ⟨g, c, h, _⟩
          · exact ⟨_, _, _, h⟩
          · exact ⟨_, _, _, h⟩
        have HRR := Lib.hid hr
        have HB := Lib.hid hb
        have HW0 := Lib.hid (HBW.out.trans (hb.mono hb0))
        clear hr hb HR0 HROW
        by_cases hlt : k < t.args.length
        · obtain ⟨x, hx⟩ : ∃ x, t.args[k]? = some x := ⟨_, List.getElem?_eq_getElem hlt⟩
          obtain ⟨g, off, u1', u2', rfl, hg, hq, hc, hch⟩ := HA.out.elem hx
          clear hq
          obtain ⟨d0, d1, d2, d3⟩ := hc _ HW0.out
          have hgw : g < wr.heap.size := Nat.lt_of_lt_of_le hg HW0.out.size
          have HCH := Lib.hid hch
          have HVT := Lib.hid (vl_take hx)
          have hbnd : x.nodes < N ∧ x.sz ≤ 1048576 ∧ (xs ++ vlL (t.args.take k)).length + x.nodes ≤ 1048576 := by
            have h1 := nodes_take_at hx
            have h2 := HNE.out
            have h3 := sz_at hx
            have h4 := HSE.out
            have h5 := vlL_len (t.args.take k)
            rw [List.length_append]
            omega
          have HBD := Lib.hid hbnd
          clear hc hch hx hbnd
          have hal : Below wr.heap.size wr (wr.alloc (.cells #[.int .i64 x.kind, .int .i64 x.num, .string x.name, .slice u1' x.args.length u2'] 28)) := (Below.refl _ _).alloc (Nat.le_refl _) _
          have HCALL := Lib.hid (HI.out x _ w0 b _ _ _ HBD.out.1 HCH.out hb0 (belowOn HW0.out (Nat.le_refl _) hal) (by simp; omega) (HRR.out.kept hal) HBD.out.2.2 HBD.out.2.1)
          have HAL := Lib.hid hal
          clear hal
          go_wp2_with fail
          refine HCALL.out.mono ?_
          rintro e w2 ⟨u, rfl, hr2, hb2⟩
          have HB2 := Lib.hid ((HB.out.trans (HAL.out.mono hbr)).trans hb2)
          have hsz2 := hb2.size
          have HR2 := Lib.hid hr2
          clear hb2 hr2 HCALL d0 d1 d2 d3
          simp only [World.size_alloc] at hsz2
          go_wp2
          go_roundw
          case rel => exact ⟨k + 1, by omega, by go_num, by rw [HVT.out, ← List.append_assoc]; exact HR2.out, HB2.out, by omega⟩
          case measure => simp [intOf]; omega
        · go_wp2
          go_ret
          obtain rfl : k = t.args.length := by omega
          have h1 := HRR.out
          rw [List.take_length] at h1
          exact ⟨_, rfl, by rw [HV.out]; exact h1, HB.out⟩
end Go.Proofs.Ytnmdnajbafpfiaa

