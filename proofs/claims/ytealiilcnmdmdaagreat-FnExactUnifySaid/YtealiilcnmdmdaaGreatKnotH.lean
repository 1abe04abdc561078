/-
  The program's solver: equate of two terms that are no variables; all cases.
-/
import Derived.Test.YtealiilcnmdmdaaGreatKnotG
namespace Go.Proofs.YtealiilcnmdmdaaGreat
open Go.RowKit
set_option linter.unusedVariables false
set_option linter.unusedSimpArgs false

set_option maxRecDepth 100000 in
set_option maxHeartbeats 4000000 in
/-- Neither is a variable. -/
theorem equate_terms (w0 : World) (p : Nat) (s0 : St) (E : List (Tm × Tm)) (r : List (Nat × Nat)) (x y a b : Nat) (w : World) (c : EqC w0 p s0 E r x y a b w) (hab : ¬ a = b) (ha : ¬ (s0.tm a).kind = 1) (hb : ¬ (s0.tm b).kind = 1) :
    Calls Tryz.prog 78 #[.pointer (some ⟨p, 0, none⟩), .pointer (some ⟨a, 0, none⟩), .pointer (some ⟨b, 0, none⟩)] w (EqP w0 p E s0 w) := by
  have heq := eqlPtr w (c.block c.aD) (c.block c.bD)
  rw [decide_eq_false hab] at heq
  obtain ⟨u1, u2, hga, hca⟩ := c.cells c.aD
  obtain ⟨v1, v2, hgb, hcb⟩ := c.cells c.bD
  obtain ⟨a1, a2, a3, a4⟩ := hca w (Below.refl _ _)
  obtain ⟨b1, b2, b3, b4⟩ := hcb w (Below.refl _ _)
  have q1 := isVarQ a _ false w (by simp [ha]) a1
  have Q3 := Lib.hid (isVarR a _ false w (by simp [ha]) a1)
  have Q4 := Lib.hid (isVarR b _ false w (by simp [hb]) b1)
  have HCA := Lib.hid hca
  have HCB := Lib.hid hcb
  have HC := Lib.hid c
  have HAB := Lib.hid (And.intro hab (And.intro ha hb))
  have HGA := Lib.hid (And.intro hga hgb)
  have HCM : Hid (∀ W, Below w.heap.size w W → Calls Tryz.prog 96 #[.agg #[.int .i64 (s0.tm a).kind, .int .i64 (s0.tm a).num, .string (s0.tm a).name, .slice u1 (s0.tm a).args.length u2], .agg #[.int .i64 (s0.tm b).kind, .int .i64 (s0.tm b).num, .string (s0.tm b).name, .slice v1 (s0.tm b).args.length v2]] W fun e w' => e = .returned (.int .i64 ((s0.tm a).cmp (s0.tm b))) ∧ Below W.heap.size W w') := Lib.hid fun W hW => by
    have oa := c.hI.ok a c.aD
    have ob := c.hI.ok b c.bD
    have za := good_sz oa.2
    have zb := good_sz ob.2
    have na := oa.1
    have nb := ob.1
    exact compare_any ((s0.tm a).nodes + 1) _ _ _ _ W (Nat.lt_succ_self _) (hga.kept hW) (hgb.kept hW) (by omega) (by omega) oa.2 ob.2
  have HFIN : Hid (¬ ((s0.tm a).kind = 4 ∧ (s0.tm b).kind = 4) → ∀ W, Below w.heap.size w W → EqP w0 p E s0 w (.returned (.bool ((s0.tm a).cmp (s0.tm b) == 0))) W) := Lib.hid fun h4 W hW => by
    have cn := c.kept hW
    have hxa := c.hxa
    have hyb := c.hyb
    refine ⟨_, rfl, Fr.of_below hW, _, cn.h, fun h => ?_, fun h o F hE => ?_⟩
    · have hz : (s0.tm a).cmp (s0.tm b) = 0 := by simpa using h
      have e := cmp_zero _ _ _ (Nat.le_refl _) (c.hI.ok a c.aD).2 (c.hI.ok b c.bD).2 hz
      exact c.skip (.inr ⟨ha, fun q => h4 ⟨q, by rw [← e]; exact q⟩, e⟩)
    · refine c.hI.clash hE c.mem (by rw [← hxa]; exact ha) (by rw [← hyb]; exact hb) (by rw [← hxa, ← hyb]; exact h4) (by
        rw [← hxa, ← hyb]
        intro e
        rw [e, cmp_self] at h
        simp at h)
  clear c hab ha hb hca hcb hga hgb
  go_enter Tryz.func78, Tryz.ntmps78
  go_wp2
  go_quiet ((go_at_call 92; exact q1 _))
  go_wp2_with fail
  refine (Q3.out _).mono ?_
  rintro e w1 ⟨rfl, rfl⟩
  go_wp2_with fail
  refine (Q4.out _).mono ?_
  rintro e w1 ⟨rfl, rfl⟩
  go_upto_region 9 with (fail)
  have HW1 := Lib.hid (below_drewN (Below.refl w.heap.size w) nq)
  generalize hw1 : w.drewN nq = w1 at HW1 ⊢
  clear hw1 q1 Q3 Q4 heq a1 a2 a3 a4 b1 b2 b3 b4
  obtain ⟨a1, a2, a3, a4⟩ := HCA.out w1 HW1.out
  have HP := Lib.hid (isPair_any (s0.tm a).kind (s0.tm a).num (s0.tm a).name (.slice u1 (s0.tm a).args.length u2) w1)
  by_cases hk : (s0.tm a).kind = 4
  · have d1 : decide ((s0.tm a).kind = 4) = true := decide_eq_true hk
    rw [d1] at HP
    have HKA := Lib.hid hk
    clear hk d1
    go_wp2_with fail
    refine HP.out.mono ?_
    rintro e w2 ⟨rfl, hb2⟩
    have HW2 := Lib.hid (belowOn HW1.out (Nat.le_refl _) hb2)
    clear hb2 HP a1 a2 a3 a4 HW1
    obtain ⟨b1, b2, b3, b4⟩ := HCB.out w2 HW2.out
    have HP := Lib.hid (isPair_any (s0.tm b).kind (s0.tm b).num (s0.tm b).name (.slice v1 (s0.tm b).args.length v2) w2)
    by_cases hkb : (s0.tm b).kind = 4
    · have d1 : decide ((s0.tm b).kind = 4) = true := decide_eq_true hkb
      rw [d1] at HP
      have HKB := Lib.hid hkb
      clear hkb d1
      go_wp2_with fail
      refine HP.out.mono ?_
      rintro e w3 ⟨rfl, hb3⟩
      have HW3 := Lib.hid (belowOn HW2.out (Nat.le_refl _) hb3)
      clear hb3 HP b1 b2 b3 b4 HW2
      have cn := HC.out.kept HW3.out
      have HT := Lib.hid (tie_any w0 p s0 E r x y a b w3 cn.h cn.hI cn.hs cn.hxa cn.hyb HAB.out.1 HKA.out HKB.out cn.hC cn.hS)
      clear cn
      go_wp2_with fail
      refine HT.out.mono ?_
      rintro e w4 ⟨rfl, s, h1, h2, h3, h4⟩
      have HE : Hid (Fr isM w w4 ∧ SolW w0 p s w4 ∧ StepS s0 E s ∧ s.bound ≤ 400) := Lib.hid ⟨(Fr.of_below HW3.out).trans h4, h1, h2, by have := HC.out.hB; omega⟩
      clear h1 h2 h3 h4 HT
      go_wp2
      go_ret
      exact ⟨true, rfl, HE.out.1, s, HE.out.2.1, fun _ => HE.out.2.2, (fun h => by cases h)⟩
    · have d1 : decide ((s0.tm b).kind = 4) = false := decide_eq_false hkb
      rw [d1] at HP
      have HKB := Lib.hid (fun h : (s0.tm a).kind = 4 ∧ (s0.tm b).kind = 4 => hkb h.2)
      clear hkb d1
      go_wp2_with fail
      refine HP.out.mono ?_
      rintro e w3 ⟨rfl, hb3⟩
      have HW3 := Lib.hid (belowOn HW2.out (Nat.le_refl _) hb3)
      clear hb3 HP b1 b2 b3 b4 HW2 HKA
      go_upto_region 12 with (fail)
      obtain ⟨a1, a2, a3, a4⟩ := HCA.out w3 HW3.out
      obtain ⟨b1, b2, b3, b4⟩ := HCB.out w3 HW3.out
      go_still_tail 8, (by kernel_rfl)
      change wpList _ _ _ _ _ w3.drew
      have HD := Lib.hid (HW3.out.drew)
      clear a1 a2 a3 a4 b1 b2 b3 b4
      generalize w3.drew = w5 at HD ⊢
      have HCC := Lib.hid (HCM.out w5 HD.out)
      go_wp2_with fail
      refine HCC.out.mono ?_
      rintro e w6 ⟨rfl, hb6⟩
      have HE := Lib.hid (HFIN.out HKB.out w6 (belowOn HD.out (Nat.le_refl _) hb6))
      clear hb6 HCC
      go_wp2
      go_ret
      exact HE.out
  · have d1 : decide ((s0.tm a).kind = 4) = false := decide_eq_false hk
    rw [d1] at HP
    have HKB := Lib.hid (fun h : (s0.tm a).kind = 4 ∧ (s0.tm b).kind = 4 => hk h.1)
    clear hk d1
    go_wp2_with fail
    refine HP.out.mono ?_
    rintro e w2 ⟨rfl, hb2⟩
    have HW2 := Lib.hid (belowOn HW1.out (Nat.le_refl _) hb2)
    clear hb2 HP a1 a2 a3 a4 HW1
    go_upto_region 12 with (fail)
    obtain ⟨a1, a2, a3, a4⟩ := HCA.out w2 HW2.out
    obtain ⟨b1, b2, b3, b4⟩ := HCB.out w2 HW2.out
    go_still_tail 8, (by kernel_rfl)
    change wpList _ _ _ _ _ w2.drew
    have HD := Lib.hid (HW2.out.drew)
    clear a1 a2 a3 a4 b1 b2 b3 b4
    generalize w2.drew = w5 at HD ⊢
    have HCC := Lib.hid (HCM.out w5 HD.out)
    go_wp2_with fail
    refine HCC.out.mono ?_
    rintro e w6 ⟨rfl, hb6⟩
    have HE := Lib.hid (HFIN.out HKB.out w6 (belowOn HD.out (Nat.le_refl _) hb6))
    clear hb6 HCC
    go_wp2
    go_ret
    exact HE.out
theorem equate_any (w0 : World) (p : Nat) (s0 : St) (E : List (Tm × Tm)) (r : List (Nat × Nat)) (x y a b : Nat) (w : World) (c : EqC w0 p s0 E r x y a b w) :
    Calls Tryz.prog 78 #[.pointer (some ⟨p, 0, none⟩), .pointer (some ⟨a, 0, none⟩), .pointer (some ⟨b, 0, none⟩)] w (EqP w0 p E s0 w) := by
  by_cases hab : a = b
  · exact equate_same w0 p s0 E r x y a b w c hab
  · by_cases ha : (s0.tm a).kind = 1
    · by_cases hb : (s0.tm b).kind = 1 ∧ (s0.tm a).num < (s0.tm b).num
      · exact equate_less w0 p s0 E r x y a b w c hab ha hb.1 hb.2
      · refine equate_first w0 p s0 E r x y a b w c hab ha fun hk => ?_
        have h1 : ¬ (s0.tm a).num < (s0.tm b).num := fun h => hb ⟨hk, h⟩
        have h2 : ¬ (s0.tm a).num = (s0.tm b).num := fun e => hab (by
          have e1 := c.hI.vars a c.aD ha
          have e2 := c.hI.vars b c.bD hk
          rw [e, e2] at e1
          exact (Option.some.inj e1).symm)
        omega
    · by_cases hb : (s0.tm b).kind = 1
      · exact equate_second w0 p s0 E r x y a b w c hab ha hb
      · exact equate_terms w0 p s0 E r x y a b w c hab ha hb
end Go.Proofs.YtealiilcnmdmdaaGreat


