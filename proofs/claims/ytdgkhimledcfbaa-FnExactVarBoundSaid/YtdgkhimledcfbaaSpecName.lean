/-
  The model's OrderedVars and VarBound.
-/
import Derived.Test.YtdgkhimledcfbaaNameP
import Derived.Test.YtdgkhimledcfbaaVarsP
import Derived.Test.YtdgkhimledcfbaaSubstT
namespace Go.Proofs.Ytdgkhimledcfbaa
open Go.RowKit
set_option linter.unusedVariables false
set_option linter.unusedSimpArgs false

set_option maxRecDepth 100000 in
set_option maxHeartbeats 1600000 in
theorem order_any (N : Nat) : ∀ (t : Tm) (V : Value) (w0 : World) (b : Nat) (v : Value) (xs : List Int) (w : World), t.nodes < N → ArgsAt w0 V t.args → w0.heap.size ≤ b → Below w0.heap.size w0 w → b ≤ w.heap.size → Row w b 3 v (xs.map (Value.int .i64)) → xs.length + t.nodes ≤ 1048576 → t.sz ≤ 1048576 → Good t →
    Calls Try.prog 74 #[.agg #[.int .i64 t.kind, .int .i64 t.num, .string t.name, V], v] w fun e w' => ∃ u, e = .returned u ∧ Row w' b 3 u ((ordL xs t.vl).map (Value.int .i64)) ∧ Below b w w' := by
  induction N with
  | zero => intro t V w0 b v xs w hN; omega
  | succ N ih =>
    intro t V w0 b v xs w hN hA hb0 hBw hbw hrow hxl hZ hG
    obtain ⟨i0, hi, hz0, hz1, hz2⟩ := info_parts infoInt
    obtain ⟨a, cap, rfl⟩ := hA.slice
    have HI := Lib.hid ih
    have HA := Lib.hid hA
    have HG := Lib.hid hG
    have HSE := Lib.hid (sz_eq t)
    have hL : t.args.length ≤ 1048576 := by have := length_szL t.args; have := HSE.out; omega
    have HNE := Lib.hid (nodes_eq t)
    have HVE := Lib.hid (vl_eq t)
    have htn := nodes_pos t
    have HBW := Lib.hid hBw
    have HII := Lib.hid (And.intro hi (And.intro hz0 (And.intro hz1 hz2)))
    have hsl : ∃ sa sn sc, v = .slice sa sn sc := by
      rcases hrow.shape with ⟨h, _⟩ | ⟨g, c, h, _⟩
      · exact ⟨_, _, _, h⟩
      · exact ⟨_, _, _, h⟩
    obtain ⟨sa, sn, sc, rfl⟩ := hsl
    have B0 := Lib.hid ((Below.refl w.heap.size w).alloc (Nat.le_refl _) (.cells #[.int .i64 t.kind, .int .i64 t.num, .string t.name, .slice a t.args.length cap] 25))
    have HR0 := Lib.hid (hrow.kept B0.out)
    clear hA ih hBw hi hz0 hz1 hz2 hrow hG
    have hml : (xs.map (Value.int .i64)).length ≤ 1099511627776 := by simp; omega
    by_cases hv : t.kind = 1
    · have HV : Hid (t.vl = [t.num]) := Lib.hid (by rw [HVE.out, if_pos hv])
      have hlI : ¬ (0 : Int) < (t.args.length : Int) := by
        have hta : t.args.length = 0 := by rw [fit_var HG.out.fit hv]; rfl
        omega
      rw [hv] at B0 HR0 ⊢
      clear hv
      have HX := Lib.hid (at_box w #[.int .i64 1, .int .i64 t.num, .string t.name, .slice a t.args.length cap] 25)
      go_enter Try.func74, Try.ntmps74
      go_upto_region 1 with (fail)
      generalize hwz : w.alloc (.cells #[.int .i64 1, .int .i64 t.num, .string t.name, .slice a t.args.length cap] 25) = wz at B0 HR0 HX ⊢
      clear hwz
      obtain ⟨c0, c1, c2, c3⟩ := HX.out.cells
      have hbz : b ≤ wz.heap.size := Nat.le_trans hbw B0.out.size
      have HHAS := Lib.hid (specHas_any xs _ t.num wz HR0.out.vals (by omega))
      obtain ⟨q, hq⟩ : ∃ q, decide (t.num ∈ xs) = q := ⟨_, rfl⟩
      rw [hq] at HHAS
      have HQ := Lib.hid hq
      clear hq
      go_wp2_with fail
      refine HHAS.out.mono ?_
      rintro e w2 ⟨rfl, rfl⟩
      clear HHAS
      cases q with
      | true =>
        have HO : Hid (ordL xs t.vl = xs) := Lib.hid (by rw [HV.out, ordL_cons, ordL_nil, ordAdd_in (of_decide_eq_true HQ.out)])
        go_wp2
        go_loopw [1, 25] (fun vv i wr => vv = .slice sa sn sc ∧ i = .int .i64 0 ∧ Hid (Row wr b 3 (.slice sa sn sc) (xs.map (Value.int .i64))) ∧ Hid (Below b w wr)) (fun _ _ _ => 0)
        case atStart => exact ⟨rfl, rfl, HR0, Lib.hid (B0.out.mono hbw)⟩
        case round =>
          obtain ⟨rfl, rfl, HR1, HB1⟩ := hrel
          go_wp2
          go_ret
          exact ⟨_, rfl, by rw [HO.out]; exact HR1.out, HB1.out⟩
      | false =>
        have HO : Hid (ordL xs t.vl = xs ++ [t.num]) := Lib.hid (by rw [HV.out, ordL_cons, ordL_nil, ordAdd_out (of_decide_eq_false HQ.out)])
        go_wp2_with (at_builtin; refine append_one rfl _ _ 45 rfl b 3 i0 _ 8 Try.underlying45 HII.out.1 HII.out.2.1 HII.out.2.2.1 HII.out.2.2.2 rfl (by decide) _ _ rfl HR0.out (.int .i64 t.num) rfl rfl hml hbz ?_; intro v' w2 hown2 hb2; have HO2 := Lib.hid hown2; have HB2 := Lib.hid hb2; clear hown2 hb2)
        go_ret
        refine ⟨_, rfl, ?_, (B0.out.mono hbw).trans HB2.out⟩
        rw [HO.out, List.map_append]
        exact HO2.out
    · have HV : Hid (t.vl = vlL t.args) := Lib.hid (by rw [HVE.out, if_neg hv])
      have hkb : (t.kind == 1) = false := by simp [hv]
      go_enter Try.func74, Try.ntmps74
      go_wp2
      go_loopw [1, 25] (fun vv i wr => ∃ (k : Nat), k ≤ t.args.length ∧ i = .int .i64 k ∧ Row wr b 3 vv ((ordL xs (vlL (t.args.take k))).map (Value.int .i64)) ∧ Below b w wr ∧ b ≤ wr.heap.size)
          (fun _ i _ => t.args.length - (intOf i).toNat)
      case atStart => exact ⟨0, Nat.zero_le _, rfl, by rw [List.take_zero, vlL_nil, ordL_nil]; exact HR0.out, B0.out.mono hbw, by simp; omega⟩
      case round =>
        obtain ⟨k, hk, rfl, hr, hb, hbr⟩ := hrel
        obtain ⟨sa', sn', sc', rfl⟩ : ∃ sa sn sc, u1 = .slice sa sn sc := by
          rcases hr.shape with ⟨h, _⟩ | ⟨g, c, h, _⟩
          · exact ⟨_, _, _, h⟩
          · exact ⟨_, _, _, h⟩
        have HRR := Lib.hid hr
        have HB := Lib.hid hb
        have HW0 := Lib.hid (HBW.out.trans (hb.mono hb0))
        clear hr hb HR0
        by_cases hlt : k < t.args.length
        · obtain ⟨x, hx⟩ : ∃ x, t.args[k]? = some x := ⟨_, List.getElem?_eq_getElem hlt⟩
          obtain ⟨g, off, u1', u2', rfl, hg, hq, hc, hch⟩ := HA.out.elem hx
          clear hq
          obtain ⟨d0, d1, d2, d3⟩ := hc _ HW0.out
          have hgw : g < wr.heap.size := Nat.lt_of_lt_of_le hg HW0.out.size
          have HCH := Lib.hid hch
          have HVT := Lib.hid (vl_take hx)
          have HGX := Lib.hid (HG.out.each hx)
          have hbnd : x.nodes < N ∧ x.sz ≤ 1048576 ∧ (ordL xs (vlL (t.args.take k))).length + x.nodes ≤ 1048576 := by
            have h1 := nodes_take_at hx
            have h2 := HNE.out
            have h3 := sz_at hx
            have h4 := HSE.out
            have h5 := vlL_len (t.args.take k)
            have h6 := ordL_len (vlL (t.args.take k)) xs
            omega
          have HBD := Lib.hid hbnd
          clear hc hch hx hbnd
          have hal : Below wr.heap.size wr (wr.alloc (.cells #[.int .i64 x.kind, .int .i64 x.num, .string x.name, .slice u1' x.args.length u2'] 25)) := (Below.refl _ _).alloc (Nat.le_refl _) _
          have HCALL := Lib.hid (HI.out x _ w0 b _ _ _ HBD.out.1 HCH.out hb0 (belowOn HW0.out (Nat.le_refl _) hal) (by simp; omega) (HRR.out.kept hal) HBD.out.2.2 HBD.out.2.1 HGX.out)
          have HAL := Lib.hid hal
          clear hal
          go_wp2_with fail
          refine HCALL.out.mono ?_
          rintro e w2 ⟨u, rfl, hr2, hb2⟩
          have HB2 := Lib.hid ((HB.out.trans (HAL.out.mono hbr)).trans hb2)
          have hsz2 := hb2.size
          have HR2 := Lib.hid hr2
          clear hb2 hr2 HCALL d0 d1 d2 d3
          simp only [World.size_alloc] at hsz2
          go_wp2
          go_roundw
          case rel => exact ⟨k + 1, by omega, by go_num, by rw [HVT.out, ordL_append]; exact HR2.out, HB2.out, by omega⟩
          case measure => simp [intOf]; omega
        · obtain rfl : k = t.args.length := by omega
          rw [List.take_length] at HRR
          go_wp2
          go_ret
          exact ⟨_, rfl, by rw [HV.out]; exact HRR.out, HB.out⟩

theorem vl_sub {l : List Tm} {k : Nat} {v : Int} (h : v ∈ vlL (l.take k)) : v ∈ vlL l := by
  obtain ⟨t, ht, hv⟩ := mem_vlL.1 h
  exact mem_vlL.2 ⟨t, List.mem_of_mem_take ht, hv⟩
theorem ord_take {l : List Tm} (h : l.all okB = true) (k : Nat) : (ordL [] (vlL (l.take k))).length ≤ 100001 := ord_short fun v hv => vl_range h v (vl_sub hv)

set_option maxRecDepth 100000 in
set_option maxHeartbeats 1600000 in
theorem specOrdered_any (l : List Tm) (V : Value) (w : World) (hA : ArgsAt w V l) (hE : EachT l) :
    Calls Try.prog 29 #[V] w fun e w' => ∃ u, e = .returned u ∧ Row w' w.heap.size 3 u ((ovL l).map (Value.int .i64)) ∧ Below w.heap.size w w' := by
  obtain ⟨a, cap, rfl⟩ := hA.slice
  have HO := Lib.hid (specAllOk_e l _ w hA hE)
  have HA := Lib.hid hA
  have HE := Lib.hid hE
  have hL := hE.1
  obtain ⟨q, hq⟩ : ∃ q, l.all okB = q := ⟨_, rfl⟩
  rw [hq] at HO
  have HQ := Lib.hid hq
  clear hA hE hq
  go_enter Try.func29, Try.ntmps29
  go_wp2_with fail
  refine HO.out.mono ?_
  rintro e w1 ⟨rfl, hb⟩
  have HB1 := Lib.hid hb
  clear hb HO
  cases q with
  | false =>
    go_wp2
    go_ret
    exact ⟨_, rfl, by rw [ov_no HQ.out]; exact Row.nil _ _ _, HB1.out⟩
  | true =>
    have HV := Lib.hid (ov_yes HQ.out)
    have hs1 : w.heap.size ≤ w1.heap.size := HB1.out.size
    have HR0 : Hid (Row (w1.alloc (.cells #[] 3)) w.heap.size 3 (.slice (some ⟨w1.heap.size, 0, none⟩) 0 0) []) := Lib.hid (row_start hs1)
    have HB2 : Hid (Below w.heap.size w (w1.alloc (.cells #[] 3))) := Lib.hid (belowAlloc HB1.out _)
    clear HB1 hs1
    go_wp2
    go_loopw [3, 12] (fun vv i wr => ∃ (k : Nat), k ≤ l.length ∧ i = .int .i64 k ∧ Hid (Row wr w.heap.size 3 vv ((ordL [] (vlL (l.take k))).map (Value.int .i64))) ∧ Hid (Below w.heap.size w wr))
        (fun _ i _ => l.length - (intOf i).toNat)
    case atStart => exact ⟨0, Nat.zero_le _, rfl, Lib.hid (by rw [List.take_zero, vlL_nil, ordL_nil]; exact HR0.out), HB2⟩
    case round =>
      obtain ⟨k, hk, rfl, HRR, HB⟩ := hrel
      obtain ⟨sa', sc', rfl⟩ := HRR.out.slice
      clear HR0 HB2
      by_cases hlt : k < l.length
      · obtain ⟨x, hx⟩ : ∃ x, l[k]? = some x := ⟨_, List.getElem?_eq_getElem hlt⟩
        obtain ⟨g, off, u1', u2', rfl, hg, hq, hc, hch⟩ := HA.out.elem hx
        clear hq
        obtain ⟨d0, d1, d2, d3⟩ := hc _ HB.out
        have hgw : g < wr.heap.size := Nat.lt_of_lt_of_le hg HB.out.size
        have HVT := Lib.hid (vl_take hx)
        have HOX := Lib.hid (all_ok HQ.out x (List.mem_of_getElem? hx))
        have HZX := Lib.hid (HE.out.at hx)
        have hal : Below wr.heap.size wr (wr.alloc (.cells #[.int .i64 x.kind, .int .i64 x.num, .string x.name, .slice u1' x.args.length u2'] 25)) := (Below.refl _ _).alloc (Nat.le_refl _) _
        have HCALL := Lib.hid (order_any (x.nodes + 1) x _ w w.heap.size _ _ _ (Nat.lt_succ_self _) hch (Nat.le_refl _) (belowOn HB.out (Nat.le_refl _) hal) (by have := HB.out.size; simp; omega) (HRR.out.kept hal) (by have := ord_take HQ.out k; have := HOX.out.1; omega) HZX.out HOX.out.2)
        have HAL := Lib.hid (belowOn HB.out (Nat.le_refl _) hal)
        clear hal hc hch hx
        go_wp2_with fail
        refine HCALL.out.mono ?_
        rintro e w2 ⟨u, rfl, hr2, hb2⟩
        have HB2 := Lib.hid (HAL.out.trans hb2)
        have HR2 := Lib.hid hr2
        clear hb2 hr2 HCALL d0 d1 d2 d3
        go_wp2
        go_roundw
        case rel => exact ⟨k + 1, by omega, by go_num, Lib.hid (by rw [HVT.out, ordL_append]; exact HR2.out), HB2⟩
        case measure => simp [intOf]; omega
      · obtain rfl : k = l.length := by omega
        have HVO : Hid (ovL l = ordL [] (vlL (l.take l.length))) := Lib.hid (by rw [HV.out, List.take_length]; rfl)
        generalize ordL [] (vlL (l.take l.length)) = o at HRR HVO ⊢
        go_wp2
        go_ret
        exact ⟨_, rfl, by rw [HVO.out]; exact HRR.out, HB.out⟩
theorem specOrderedVars_any (l : List Tm) (V : Value) (w : World) (hA : ArgsAt w V l) (hZ : szL l ≤ 1048576) :
    Calls Try.prog 29 #[V] w fun e w' => ∃ u, e = .returned u ∧ Row w' 0 3 u ((ovL l).map (Value.int .i64)) ∧ Below w.heap.size w w' :=
  (specOrdered_any l V w hA (eachT_of (by omega))).mono fun e w' ⟨u, h1, h2, h3⟩ => ⟨u, h1, h2.base (Nat.zero_le _), h3⟩

theorem bnd_small {vs : List Int} (h : ∀ v ∈ vs, 0 ≤ v ∧ v ≤ 100000) : bndL vs ≤ 100001 := bnd_le.2 ⟨by decide, fun v hv => by have := (h v hv).2; omega⟩
theorem take_snocI {l : List Int} {j : Nat} {t : Int} (h : l[j]? = some t) : l.take (j + 1) = l.take j ++ [t] := by
  rw [List.take_add_one, h]; rfl

set_option maxRecDepth 100000 in
set_option maxHeartbeats 1600000 in
theorem specVarBound_e (l : List Tm) (V : Value) (w : World) (hA : ArgsAt w V l) (hE : EachT l) :
    Calls Try.prog 36 #[V] w fun e w' => e = .returned (.int .i64 (vbI l)) ∧ Below w.heap.size w w' := by
  obtain ⟨a, cap, rfl⟩ := hA.slice
  have HO := Lib.hid (specAllOk_e l _ w hA hE)
  have HA := Lib.hid hA
  have HE := Lib.hid hE
  have hL := hE.1
  obtain ⟨q, hq⟩ : ∃ q, l.all okB = q := ⟨_, rfl⟩
  rw [hq] at HO
  have HQ := Lib.hid hq
  have HVB : Hid (q = true → vbI l = bndL (ordOf l)) := Lib.hid fun h => by rw [vb_yes (hq.trans h), vb_ord]
  have HVN : Hid (q = false → vbI l = -1) := Lib.hid fun h => vb_no (hq.trans h)
  generalize vbI l = r at HVB HVN ⊢
  clear hA hE hq
  go_enter Try.func36, Try.ntmps36
  go_wp2_with fail
  refine HO.out.mono ?_
  rintro e w1 ⟨rfl, hb⟩
  have HB1 := Lib.hid hb
  clear hb HO
  cases q with
  | false =>
    obtain rfl := HVN.out rfl
    go_wp2
    go_ret
    exact ⟨rfl, HB1.out⟩
  | true =>
    have HR := Lib.hid (HVB.out rfl)
    have HC := Lib.hid (specOrdered_any l _ w1 (HA.out.kept HB1.out) HE.out)
    rw [ov_yes HQ.out] at HC
    have HRG : Hid (∀ v ∈ ordOf l, 0 ≤ v ∧ v ≤ 100000) := Lib.hid fun v hv => vl_range HQ.out v (((ordL_mem _ _).1 hv).resolve_left (by simp))
    have hol := ord_len HQ.out
    obtain ⟨o, ho⟩ : ∃ o, ordOf l = o := ⟨_, rfl⟩
    rw [ho] at HC HR HRG hol
    clear HVB HVN ho
    go_wp2_with fail
    refine HC.out.mono ?_
    rintro e w2 ⟨u, rfl, hr, hb⟩
    obtain ⟨ua, uc, rfl⟩ := hr.slice
    have HRO := Lib.hid hr
    have HB2 := Lib.hid (belowOn HB1.out (Nat.le_refl _) hb)
    clear hr hb HC HB1
    go_wp2
    go_loopw [3, 12] (fun m i wr => ∃ (k : Nat), k ≤ o.length ∧ i = .int .i64 k ∧ m = .int .i64 (bndL (o.take k)) ∧ Hid (Below w2.heap.size w2 wr))
        (fun _ i _ => o.length - (intOf i).toNat)
    case atStart => exact ⟨0, Nat.zero_le _, rfl, rfl, Lib.hid (Below.refl _ _)⟩
    case round =>
      obtain ⟨k, hk, rfl, rfl, HB⟩ := hrel
      by_cases hlt : k < o.length
      · obtain ⟨v, hv⟩ : ∃ v, o[k]? = some v := ⟨_, List.getElem?_eq_getElem hlt⟩
        rcases HRO.out.at (by intro e; rw [List.map_eq_nil_iff] at e; rw [e] at hlt; simp at hlt) with ⟨g, cap', heq, hlow, hg, hlen, hcm, hcells, hfr⟩
        simp only [Value.slice.injEq] at heq
        obtain ⟨rfl, -, -⟩ := heq
        have hck : wr.cell? ⟨g, k, none⟩ = some (.int .i64 v) := by
          rw [World.cell?_of_block (a := ⟨g, k, none⟩) (HB.out.block g hg)]
          exact hcells k _ (by rw [List.getElem?_map, hv]; rfl)
        have hgw : g < wr.heap.size := Nat.lt_of_lt_of_le hg HB.out.size
        have HS := Lib.hid (bnd_snoc (o.take k) v)
        have HT := Lib.hid (take_snocI hv)
        have hvr := HRG.out v (List.mem_of_getElem? hv)
        have HBK := Lib.hid (bnd_small (vs := o.take k) fun x hx => HRG.out x (List.mem_of_mem_take hx))
        have HBP := Lib.hid (bnd_pos (o.take k))
        have hw1 : IntKind.i64.wrap (v + 1) = v + 1 := IntWalk.i64_in _ (by omega)
        obtain ⟨m, hm⟩ : ∃ m, bndL (o.take k) = m := ⟨_, rfl⟩
        rw [hm] at HS HBK HBP ⊢
        clear hv hcells hlen hlow hfr hcm hm
        by_cases hge : m ≤ v
        · have hS : bndL (o.take k ++ [v]) = v + 1 := by rw [HS.out, if_pos (by omega)]
          have HS2 := Lib.hid hS
          clear hS
          go_wp2
          go_roundw
          case rel => exact ⟨k + 1, by omega, by go_num, by rw [HT.out, HS2.out], HB⟩
          case measure => simp [intOf]; omega
        · have hS : bndL (o.take k ++ [v]) = m := by rw [HS.out, if_neg (by omega)]
          have HS2 := Lib.hid hS
          clear hS
          go_wp2
          go_roundw
          case rel => exact ⟨k + 1, by omega, by go_num, by rw [HT.out, HS2.out], HB⟩
          case measure => simp [intOf]; omega
      · obtain rfl : k = o.length := by omega
        rw [List.take_length]
        go_wp2
        go_ret
        exact ⟨by rw [HR.out]; rfl, belowOn HB2.out (Nat.le_refl _) HB.out⟩
theorem specVarBound_any (l : List Tm) (V : Value) (w : World) (hA : ArgsAt w V l) (hZ : szL l ≤ 1048576) :
    Calls Try.prog 36 #[V] w fun e w' => e = .returned (.int .i64 (vbI l)) ∧ Below w.heap.size w w' := specVarBound_e l V w hA (eachT_of (by omega))
end Go.Proofs.Ytdgkhimledcfbaa

