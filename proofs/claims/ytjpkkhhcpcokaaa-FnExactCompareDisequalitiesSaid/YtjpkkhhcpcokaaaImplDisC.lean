/-
  The program's Binding.compare, slices.CompareFunc over bindings, CompareDisequalities.
-/
import Derived.Test.YtjpkkhhcpcokaaaDisC
import Derived.Test.YtjpkkhhcpcokaaaMapSubst
namespace Go.Proofs.Ytjpkkhhcpcokaaa
open Go.RowKit
set_option linter.unusedVariables false
set_option linter.unusedSimpArgs false

theorem bdCmp_varI {a b : Bd} (h : ¬ a.v = b.v) : bdCmp a b = cmpI a.v b.v := by rw [bdCmp_var h, cmpI_ne h]

set_option maxRecDepth 100000 in
set_option maxHeartbeats 2000000 in
theorem bdCompare_any (x : Bd) (Vx : Value) (y : Bd) (Vy : Value) (w : World) (hx : ArgsAt w Vx x.t.args) (hy : ArgsAt w Vy y.t.args) (hZ : x.t.sz ≤ 1048576 ∧ y.t.sz ≤ 1048576) (hG : Good x.t ∧ Good y.t) :
    Calls Try.prog 61 #[.agg #[.int .i64 x.v, .int .i64 x.t.kind, .int .i64 x.t.num, .string x.t.name, Vx], .agg #[.int .i64 y.v, .int .i64 y.t.kind, .int .i64 y.t.num, .string y.t.name, Vy]] w fun r w' => r = .returned (.int .i64 (bdCmp x y)) ∧ Below w.heap.size w w' := by
  obtain ⟨c0, hc0⟩ : ∃ c, bdCmp x y = c := ⟨_, rfl⟩
  rw [hc0]
  have HC0 := Lib.hid hc0
  clear hc0
  obtain ⟨xa, xc, rfl⟩ := hx.slice
  obtain ⟨ya, yc, rfl⟩ := hy.slice
  have hb : Below w.heap.size w ((w.alloc (.cells #[.int .i64 x.v, .int .i64 x.t.kind, .int .i64 x.t.num, .string x.t.name, .slice xa x.t.args.length xc] 62)).alloc (.cells #[.int .i64 y.v, .int .i64 y.t.kind, .int .i64 y.t.num, .string y.t.name, .slice ya y.t.args.length yc] 62)) := belowAlloc (belowAlloc (Below.refl _ _) _) _
  have HX := Lib.hid (at_box_of w #[.int .i64 x.v, .int .i64 x.t.kind, .int .i64 x.t.num, .string x.t.name, .slice xa x.t.args.length xc] 62 w.heap.size rfl)
  have HY := Lib.hid (at_box_of (w.alloc (.cells #[.int .i64 x.v, .int .i64 x.t.kind, .int .i64 x.t.num, .string x.t.name, .slice xa x.t.args.length xc] 62)) #[.int .i64 y.v, .int .i64 y.t.kind, .int .i64 y.t.num, .string y.t.name, .slice ya y.t.args.length yc] 62 (w.heap.size + 1) (by simp))
  replace HX := Lib.hid (HX.out.read (belowAlloc (Below.refl _ _) (.cells #[.int .i64 y.v, .int .i64 y.t.kind, .int .i64 y.t.num, .string y.t.name, .slice ya y.t.args.length yc] 62)))
  have HW := Lib.hid hb
  have HA := Lib.hid (hx.kept hb)
  have HB := Lib.hid (hy.kept hb)
  clear hx hy hb
  go_enter Try.func61, Try.ntmps61
  go_upto_region 1 with (fail)
  generalize hw1 : ((w.alloc (.cells #[.int .i64 x.v, .int .i64 x.t.kind, .int .i64 x.t.num, .string x.t.name, .slice xa x.t.args.length xc] 62)).alloc (.cells #[.int .i64 y.v, .int .i64 y.t.kind, .int .i64 y.t.num, .string y.t.name, .slice ya y.t.args.length yc] 62)) = w1 at HX HY HW HA HB ⊢
  clear hw1
  obtain ⟨d0, d1, d2, d3, d4, df⟩ := box_cells5 HX.out.now
  obtain ⟨e0, e1, e2, e3, e4, ef⟩ := box_cells5 HY.out.now
  have z0 := HX.out.le
  have z1 := HY.out.le
  by_cases hv : x.v = y.v
  · have q0 : (x.v != y.v) = false := by simp [hv]
    have HC := Lib.hid (compare_any (x.t.nodes + 1) x.t y.t _ _ w1 (Nat.lt_succ_self _) HA.out HB.out hZ.1 hZ.2 hG.1 hG.2)
    obtain rfl : c0 = x.t.cmp y.t := by rw [← HC0.out, bdCmp_same hv]
    clear hv HA HB
    go_wp2_with fail
    refine HC.out.mono ?_
    rintro r w2 ⟨rfl, hb⟩
    have HW2 := Lib.hid (belowOn HW.out (Nat.le_refl _) hb)
    clear hb HC d0 d1 d2 d3 d4 df e0 e1 e2 e3 e4 ef z0 z1
    go_wp2
    go_ret
    exact ⟨rfl, HW2.out⟩
  · have q0 : (x.v != y.v) = true := by simp [hv]
    have HC := Lib.hid (cmpInt_any x.v y.v w1)
    obtain rfl : c0 = cmpI x.v y.v := by rw [← HC0.out, bdCmp_varI hv]
    clear hv HA HB
    go_wp2_with fail
    refine HC.out.mono ?_
    rintro r w2 ⟨rfl, rfl⟩
    clear HC d0 d1 d2 d3 d4 df e0 e1 e2 e3 e4 ef z0 z1
    go_wp2
    go_ret
    exact ⟨rfl, HW.out⟩

set_option maxRecDepth 100000 in
set_option maxHeartbeats 4000000 in
theorem compareB_any (d : List Bd) (Vd : Value) (e : List Bd) (Ve : Value) (w : World) (hA : ListS bdE w Any Vd d) (hB : ListS bdE w Any Ve e) (hd : EachB d) (he : EachB e) (hGd : ∀ b ∈ d, Good b.t) (hGe : ∀ b ∈ e, Good b.t) :
    Calls Try.prog 60 #[Vd, Ve, .func (.func 61) #[] #[]] w fun r w' => r = .returned (.int .i64 (dsCmp d e)) ∧ Below w.heap.size w w' := by
  obtain ⟨c0, hc0⟩ : ∃ c, dsCmp d e = c := ⟨_, rfl⟩
  rw [hc0]
  have HC0 : Hid (c0 = dsCmp (d.drop 0) (e.drop 0)) := Lib.hid hc0.symm
  clear hc0
  obtain ⟨aa, ca, rfl⟩ := hA.slice
  obtain ⟨ab, cb, rfl⟩ := hB.slice
  have hLa : d.length ≤ 1048576 := hd.1
  have hLb : e.length ≤ 1048576 := he.1
  have HA := Lib.hid hA
  have HB := Lib.hid hB
  have HE := Lib.hid hd
  have HF := Lib.hid he
  have HG := Lib.hid (And.intro hGd hGe)
  clear hA hB hd he hGd hGe
  go_enter Try.func60, Try.ntmps60
  go_wp2
  go_loopw [13] (fun i wr => ∃ k : Nat, k ≤ d.length ∧ k ≤ e.length ∧ i = .int .i64 k ∧ Hid (c0 = dsCmp (d.drop k) (e.drop k)) ∧ Hid (Below w.heap.size w wr)) (fun i _ => d.length - (intOf i).toNat)
  case atStart => exact ⟨0, Nat.zero_le _, Nat.zero_le _, rfl, HC0, Lib.hid (Below.refl _ _)⟩
  case round =>
    obtain ⟨k, hka, hkb, rfl, HDS, HQ⟩ := hrel
    by_cases hlt : k < d.length
    · have hltI : (k : Int) < (d.length : Int) := by omega
      obtain ⟨x, hx⟩ : ∃ x, d[k]? = some x := ⟨_, List.getElem?_eq_getElem hlt⟩
      obtain ⟨ga, offa, u1, u2, hva, hga, _, hcx, hax⟩ := (HA.out.kept HQ.out).bd hx
      cases hva
      have HXE := Lib.hid hx
      obtain ⟨d0, d1, d2, d3, d4⟩ := hcx wr (Below.refl _ _)
      have HAX := Lib.hid hax.at
      clear hx hcx hax
      go_upto_region 4 with (fail)
      have hal : Below wr.heap.size wr (wr.alloc (.cells #[.int .i64 x.v, .int .i64 x.t.kind, .int .i64 x.t.num, .string x.t.name, .slice u1 x.t.args.length u2] 62)) := belowAlloc (Below.refl _ _) _
      have HX1 := Lib.hid (at_box_of wr #[.int .i64 x.v, .int .i64 x.t.kind, .int .i64 x.t.num, .string x.t.name, .slice u1 x.t.args.length u2] 62 wr.heap.size rfl)
      have HQ1 := Lib.hid (belowOn HQ.out (Nat.le_refl _) hal)
      replace HAX := Lib.hid (HAX.out.kept hal)
      clear d0 d1 d2 d3 d4 hal HQ hga
      generalize hw1 : wr.alloc (.cells #[.int .i64 x.v, .int .i64 x.t.kind, .int .i64 x.t.num, .string x.t.name, .slice u1 x.t.args.length u2] 62) = w1 at HX1 HQ1 HAX ⊢
      clear hw1
      generalize wr.heap.size = nb at HX1 ⊢
      by_cases hlt2 : k < e.length
      · have hlt2I : ¬ ((e.length : Int) ≤ (k : Int)) := by omega
        have hlt2J : ((k : Int) < (e.length : Int)) := by omega
        obtain ⟨y, hy⟩ : ∃ y, e[k]? = some y := ⟨_, List.getElem?_eq_getElem hlt2⟩
        obtain ⟨gb, offb, v1, v2, hvb, hgb, _, hcy, hay⟩ := (HB.out.kept HQ1.out).bd hy
        cases hvb
        have HYE := Lib.hid hy
        obtain ⟨e0, e1, e2, e3, e4⟩ := hcy w1 (Below.refl _ _)
        have HAY := Lib.hid hay.at
        clear hy hcy hay
        go_upto_region 7 with (fail)
        have hal : Below w1.heap.size w1 (w1.alloc (.cells #[.int .i64 y.v, .int .i64 y.t.kind, .int .i64 y.t.num, .string y.t.name, .slice v1 y.t.args.length v2] 62)) := belowAlloc (Below.refl _ _) _
        have HY1 := Lib.hid (at_box_of w1 #[.int .i64 y.v, .int .i64 y.t.kind, .int .i64 y.t.num, .string y.t.name, .slice v1 y.t.args.length v2] 62 w1.heap.size rfl)
        have HQ2 := Lib.hid (belowOn HQ1.out (Nat.le_refl _) hal)
        replace HAX := Lib.hid (HAX.out.kept hal)
        replace HAY := Lib.hid (HAY.out.kept hal)
        have HX2 := Lib.hid (HX1.out.read hal)
        clear e0 e1 e2 e3 e4 hal HQ1 hgb HX1
        generalize hw2 : w1.alloc (.cells #[.int .i64 y.v, .int .i64 y.t.kind, .int .i64 y.t.num, .string y.t.name, .slice v1 y.t.args.length v2] 62) = w2 at HX2 HY1 HQ2 HAX HAY ⊢
        clear hw2
        generalize w1.heap.size = nc at HY1 ⊢
        obtain ⟨d0, d1, d2, d3, d4, df⟩ := box_cells5 HX2.out.now
        obtain ⟨e0, e1, e2, e3, e4, ef⟩ := box_cells5 HY1.out.now
        have z0 := HX2.out.le
        have z1 := HY1.out.le
        have HC := Lib.hid (bdCompare_any x _ y _ w2 HAX.out HAY.out ⟨Nat.le_succ_of_le (HE.out.2 x (List.mem_of_getElem? HXE.out)), Nat.le_succ_of_le (HF.out.2 y (List.mem_of_getElem? HYE.out))⟩ ⟨HG.out.1 x (List.mem_of_getElem? HXE.out), HG.out.2 y (List.mem_of_getElem? HYE.out)⟩)
        have HST := Lib.hid (ds_drop HXE.out HYE.out)
        generalize bdCmp x y = c at HC HST ⊢
        go_wp2_with fail
        refine HC.out.mono ?_
        rintro r w3 ⟨rfl, hb⟩
        have HQ3 := Lib.hid (belowOn HQ2.out (Nat.le_refl _) hb)
        have HKL : Hid (k < d.length ∧ k < e.length) := Lib.hid ⟨hlt, hlt2⟩
        clear hb HC d0 d1 d2 d3 d4 df e0 e1 e2 e3 e4 ef z0 z1
        by_cases hc : c = 0
        · subst hc
          go_wp2
          go_roundw
          case rel => exact ⟨k + 1, by have := HKL.out.1; omega, by have := HKL.out.2; omega, by go_num, Lib.hid (by rw [HDS.out, HST.out]; simp), HQ3⟩
          case measure => have := HKL.out.1; simp [intOf]; omega
        · obtain rfl : c0 = c := by rw [HDS.out, HST.out, if_neg hc]
          have hcn : (c0 != 0) = true := by simp [hc]
          clear HST HDS
          go_wp2
          go_ret
          exact ⟨rfl, HQ3.out⟩
      · have hke : e.length = k := by omega
        obtain rfl : c0 = 1 := by rw [HDS.out]; exact ds_long hke hlt
        have hlt2I : ((e.length : Int) ≤ (k : Int)) := by omega
        clear hke
        go_wp2
        go_ret
        exact ⟨rfl, HQ1.out⟩
    · have hkd : d.length = k := by omega
      have hkJ : ¬ ((k : Int) < (d.length : Int)) := by omega
      by_cases hq : e.length = k
      · obtain rfl : c0 = 0 := by rw [HDS.out]; exact ds_both hkd hq
        have hlf : decide ((d.length : Int) < (e.length : Int)) = false := by simp; omega
        have hlg : ¬ ((d.length : Int) < (e.length : Int)) := by omega
        clear hkd hq
        go_wp2
        go_ret
        exact ⟨rfl, HQ.out⟩
      · obtain rfl : c0 = -1 := by rw [HDS.out]; exact ds_short hkd (by omega)
        have hlf : decide ((d.length : Int) < (e.length : Int)) = true := by simp; omega
        have hlg : ((d.length : Int) < (e.length : Int)) := by omega
        clear hkd hq
        go_wp2
        go_ret
        exact ⟨rfl, HQ.out⟩

set_option maxRecDepth 100000 in
set_option maxHeartbeats 2000000 in
theorem implCompareDisequalities_any (d : List Bd) (Vd : Value) (e : List Bd) (Ve : Value) (w : World) (hA : ListS bdE w Any Vd d) (hZ : szB d ≤ 1048576) (hF : fineB d) (hB : ListS bdE w Any Ve e) (hZe : szB e ≤ 1048576) (hFe : fineB e) :
    Calls Try.prog 13 #[Vd, Ve] w fun r w' => r = .returned (.int .i64 (cdI d e)) ∧ Below w.heap.size w w' := by
  obtain ⟨c0, hc0⟩ : ∃ c, cdI d e = c := ⟨_, rfl⟩
  rw [hc0]
  have HNO : Hid (substB d = false ∨ substB e = false → c0 = 2) := Lib.hid fun h => hc0.symm.trans (cd_no h)
  have HYES : Hid (SubstP d → SubstP e → c0 = dsCmp d e) := Lib.hid fun h1 h2 => hc0.symm.trans (cd_yes h1 h2)
  clear hc0
  obtain ⟨aa, ca, rfl⟩ := hA.slice
  obtain ⟨ab, cb, rfl⟩ := hB.slice
  have HE := Lib.hid (And.intro (eachB_of hZ) (eachB_of hZe))
  have HZF := Lib.hid (And.intro hF hFe)
  have HA := Lib.hid hA
  have HB := Lib.hid hB
  have HC := Lib.hid (implSubstOk_e d _ w hA HE.out.1 fun b hb => (hF b hb).2)
  clear hA hB hF hFe
  go_enter Try.func13, Try.ntmps13
  go_wp2_with fail
  refine HC.out.mono ?_
  rintro r w1 ⟨rfl, hb⟩
  have HW1 := Lib.hid hb
  clear hb HC
  cases hs : substB d with
  | false =>
    obtain rfl := HNO.out (.inl hs)
    clear hs
    go_wp2
    go_ret
    exact ⟨rfl, HW1.out⟩
  | true =>
  have HS := Lib.hid (substB_true.1 hs)
  have HC := Lib.hid (implSubstOk_e e _ w1 (HB.out.kept HW1.out) HE.out.2 fun b hb => (HZF.out.2 b hb).2)
  clear hs
  go_wp2_with fail
  refine HC.out.mono ?_
  rintro r w2 ⟨rfl, hb⟩
  have HW2 := Lib.hid (belowOn HW1.out (Nat.le_refl _) hb)
  clear hb HC HW1
  cases hs : substB e with
  | false =>
    obtain rfl := HNO.out (.inr hs)
    clear hs
    go_wp2
    go_ret
    exact ⟨rfl, HW2.out⟩
  | true =>
  have HT := Lib.hid (substB_true.1 hs)
  obtain rfl := HYES.out HS.out HT.out
  have HC := Lib.hid (compareB_any d _ e _ w2 (HA.out.kept HW2.out) (HB.out.kept HW2.out) HE.out.1 HE.out.2 (fun b hb => HS.out.good b hb) (fun b hb => HT.out.good b hb))
  clear hs
  go_wp2_with fail
  refine HC.out.mono ?_
  rintro r w3 ⟨rfl, hb⟩
  have HW3 := Lib.hid (belowOn HW2.out (Nat.le_refl _) hb)
  clear hb HC
  go_wp2
  go_ret
  exact ⟨rfl, HW3.out⟩
end Go.Proofs.Ytjpkkhhcpcokaaa

