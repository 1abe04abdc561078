/-
  The model's IsUnifier.
-/
import Derived.Test.YtnbnepeikdieaaaImplIsUn
namespace Go.Proofs.Ytnbnepeikdieaaa
open Go.RowKit
set_option linter.unusedVariables false
set_option linter.unusedSimpArgs false

theorem iu_ap (s : List Bd) (a b : Tm) : iuB s a b = (apB s a && (apB s b && ((apT s a).cmp (apT s b) == 0))) := by
  by_cases h : SubstP s ∧ Ok a ∧ Ok b
  · rw [iu_yes h]
    by_cases ha : (putT s a).nodes ≤ 5000
    · by_cases hb : (putT s b).nodes ≤ 5000
      · obtain ⟨a1, a2⟩ := ap_yes ⟨h.1, h.2.1, ha⟩
        obtain ⟨b1, b2⟩ := ap_yes ⟨h.1, h.2.2, hb⟩
        rw [a1, a2, b1, b2]
        cases hc : ((putT s a).cmp (putT s b) == 0) with
        | true => exact solves_true.2 ⟨ha, hb, hc⟩
        | false => exact solves_false.2 fun k => by have := k.2.2; rw [hc] at this; cases this
      · obtain ⟨b1, b2⟩ := ap_no (s := s) (t := b) fun k => hb k.2.2
        rw [b2]
        simp only [Bool.false_and, Bool.and_false]
        exact solves_false.2 fun k => hb k.2.1
    · obtain ⟨a1, a2⟩ := ap_no (s := s) (t := a) fun k => ha k.2.2
      rw [a2]
      simp only [Bool.false_and]
      exact solves_false.2 fun k => ha k.1
  · rw [iu_no h]
    by_cases hs : SubstP s
    · by_cases ha : Ok a
      · have hb : ¬ Ok b := fun k => h ⟨hs, ha, k⟩
        rw [(ap_no (s := s) (t := b) fun k => hb k.2.1).2]
        simp
      · rw [(ap_no (s := s) (t := a) fun k => ha k.2.1).2]
        simp
    · rw [(ap_no (s := s) (t := a) fun k => hs k.1).2]
      simp

set_option maxRecDepth 100000 in
set_option maxHeartbeats 2000000 in
theorem specIsUnifier_any (s : List Bd) (Vs : Value) (a : Tm) (Va : Value) (b : Tm) (Vb : Value) (w : World) (hA : ListS bdE w Any Vs s) (hZ : szB s ≤ 1048576) (ha : ArgsAt w Va a.args) (hZa : a.sz ≤ 1048576) (hb : ArgsAt w Vb b.args) (hZb : b.sz ≤ 1048576) :
    Calls Try.prog 35 #[Vs, .agg #[.int .i64 a.kind, .int .i64 a.num, .string a.name, Va], .agg #[.int .i64 b.kind, .int .i64 b.num, .string b.name, Vb]] w fun e w' => e = .returned (.bool (iuB s a b)) ∧ Below w.heap.size w w' := by
  obtain ⟨sa, sc, rfl⟩ := hA.slice
  obtain ⟨aa, ac, rfl⟩ := ha.slice
  obtain ⟨ba, bc, rfl⟩ := hb.slice
  have hB := belowAlloc (belowAlloc (Below.refl w.heap.size w) (.cells #[.int .i64 a.kind, .int .i64 a.num, .string a.name, .slice aa a.args.length ac] 31)) (.cells #[.int .i64 b.kind, .int .i64 b.num, .string b.name, .slice ba b.args.length bc] 31)
  have HX := Lib.hid (at_box_of w #[.int .i64 a.kind, .int .i64 a.num, .string a.name, .slice aa a.args.length ac] 31 w.heap.size rfl)
  replace HX := Lib.hid (HX.out.read (belowAlloc (Below.refl _ _) (.cells #[.int .i64 b.kind, .int .i64 b.num, .string b.name, .slice ba b.args.length bc] 31)))
  have HY := Lib.hid (at_box_of (w.alloc (.cells #[.int .i64 a.kind, .int .i64 a.num, .string a.name, .slice aa a.args.length ac] 31)) #[.int .i64 b.kind, .int .i64 b.num, .string b.name, .slice ba b.args.length bc] 31 (w.heap.size + 1) (by simp))
  have HA := Lib.hid (hA.kept hB)
  have HPB := Lib.hid (hb.kept hB)
  have HB := Lib.hid hB
  have HIU := Lib.hid (iu_ap s a b)
  have HZ := Lib.hid (And.intro hZ (And.intro (ap_sz s a) (ap_sz s b)))
  have HCA := Lib.hid (specApplySubst_any s _ a _ _ (hA.kept hB) hZ (ha.kept hB) hZa)
  generalize iuB s a b = r at HIU ⊢
  clear hA ha hb hB hZ
  go_enter Try.func35, Try.ntmps35
  go_upto_region 1 with (fail)
  generalize hw1 : (w.alloc (.cells #[.int .i64 a.kind, .int .i64 a.num, .string a.name, .slice aa a.args.length ac] 31)).alloc (.cells #[.int .i64 b.kind, .int .i64 b.num, .string b.name, .slice ba b.args.length bc] 31) = w1 at HX HY HA HPB HB HCA ⊢
  clear hw1
  obtain ⟨x0, x1, x2, x3⟩ := HX.out.cells
  have z0 := HX.out.le
  go_wp2_with fail
  refine HCA.out.mono ?_
  rintro e w2 ⟨u, rfl, hu, hb2⟩
  obtain ⟨ua, uc, rfl⟩ := hu.at.slice
  have HY2 := Lib.hid (HY.out.read hb2)
  have HA2 := Lib.hid (HA.out.kept hb2)
  have HPB2 := Lib.hid (HPB.out.kept hb2)
  have HU2 := Lib.hid hu.at
  have HB2 := Lib.hid (belowOn HB.out (Nat.le_refl _) hb2)
  clear hu hb2 HCA x0 x1 x2 x3 z0 HX HY HA HPB HB
  go_upto_region 2 with (fail)
  have hal : Below w2.heap.size w2 (w2.alloc (.cells #[.int .i64 (apT s a).kind, .int .i64 (apT s a).num, .string (apT s a).name, .slice ua (apT s a).args.length uc] 31)) := belowAlloc (Below.refl _ _) _
  have HG := Lib.hid (at_box_of w2 #[.int .i64 (apT s a).kind, .int .i64 (apT s a).num, .string (apT s a).name, .slice ua (apT s a).args.length uc] 31 w2.heap.size rfl)
  replace HY2 := Lib.hid (HY2.out.read hal)
  replace HA2 := Lib.hid (HA2.out.kept hal)
  replace HPB2 := Lib.hid (HPB2.out.kept hal)
  replace HU2 := Lib.hid (HU2.out.kept hal)
  replace HB2 := Lib.hid (belowOn HB2.out (Nat.le_refl _) hal)
  clear hal
  generalize hw3 : w2.alloc (.cells #[.int .i64 (apT s a).kind, .int .i64 (apT s a).num, .string (apT s a).name, .slice ua (apT s a).args.length uc] 31) = w3 at HG HY2 HA2 HPB2 HU2 HB2 ⊢
  clear hw3
  generalize w2.heap.size = nb at HG ⊢
  have HCB := Lib.hid (specApplySubst_any s _ b _ w3 HA2.out HZ.out.1 HPB2.out hZb)
  obtain ⟨y0, y1, y2, y3⟩ := HY2.out.cells
  have z0 := HY2.out.le
  go_wp2_with fail
  refine HCB.out.mono ?_
  rintro e w4 ⟨v, rfl, hv, hb4⟩
  obtain ⟨va, vc, rfl⟩ := hv.at.slice
  have HG4 := Lib.hid (HG.out.read hb4)
  have HU4 := Lib.hid (HU2.out.kept hb4)
  have HV4 := Lib.hid hv.at
  have HB4 := Lib.hid (belowOn HB2.out (Nat.le_refl _) hb4)
  clear hv hb4 HCB y0 y1 y2 y3 z0 HG HY2 HA2 HPB2 HU2 HB2
  go_upto_region 3 with (fail)
  have hal : Below w4.heap.size w4 (w4.alloc (.cells #[.int .i64 (apT s b).kind, .int .i64 (apT s b).num, .string (apT s b).name, .slice va (apT s b).args.length vc] 31)) := belowAlloc (Below.refl _ _) _
  have HH := Lib.hid (at_box_of w4 #[.int .i64 (apT s b).kind, .int .i64 (apT s b).num, .string (apT s b).name, .slice va (apT s b).args.length vc] 31 w4.heap.size rfl)
  replace HG4 := Lib.hid (HG4.out.read hal)
  replace HU4 := Lib.hid (HU4.out.kept hal)
  replace HV4 := Lib.hid (HV4.out.kept hal)
  replace HB4 := Lib.hid (belowOn HB4.out (Nat.le_refl _) hal)
  clear hal
  generalize hw5 : w4.alloc (.cells #[.int .i64 (apT s b).kind, .int .i64 (apT s b).num, .string (apT s b).name, .slice va (apT s b).args.length vc] 31) = w5 at HH HG4 HU4 HV4 HB4 ⊢
  clear hw5
  generalize w4.heap.size = nc at HH ⊢
  obtain ⟨g0, g1, g2, g3⟩ := HG4.out.cells
  obtain ⟨k0, k1, k2, k3⟩ := HH.out.cells
  have z1 := HG4.out.le
  have z2 := HH.out.le
  cases hba : apB s a with
  | false =>
    have HR : Hid (r = false) := Lib.hid (by rw [HIU.out, hba]; rfl)
    clear hba HIU
    go_wp2
    go_ret
    exact ⟨by rw [HR.out]; rfl, HB4.out⟩
  | true =>
  cases hbb : apB s b with
  | false =>
    have HR : Hid (r = false) := Lib.hid (by rw [HIU.out, hba, hbb]; rfl)
    clear hba hbb HIU
    go_wp2
    go_ret
    exact ⟨by rw [HR.out]; rfl, HB4.out⟩
  | true =>
  have HR : Hid (r = ((apT s a).cmp (apT s b) == 0)) := Lib.hid (by rw [HIU.out, hba, hbb]; rfl)
  have HS := Lib.hid (specSame_any (apT s a) (apT s b) _ _ w5 HU4.out HV4.out HZ.out.2.1 HZ.out.2.2)
  generalize ((apT s a).cmp (apT s b) == 0) = q at HR HS
  clear hba hbb HIU
  go_wp2_with fail
  refine HS.out.mono ?_
  rintro e w6 ⟨rfl, hb6⟩
  have HB6 := Lib.hid (belowOn HB4.out (Nat.le_refl _) hb6)
  clear hb6 HS g0 g1 g2 g3 k0 k1 k2 k3 z1 z2
  go_wp2
  go_ret
  exact ⟨by rw [HR.out]; rfl, HB6.out⟩
end Go.Proofs.Ytnbnepeikdieaaa

