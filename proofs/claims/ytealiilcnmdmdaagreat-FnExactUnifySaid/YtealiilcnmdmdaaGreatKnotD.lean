/-
  The program's solver: tie.
-/
import Derived.Test.YtealiilcnmdmdaaGreatKnotC
import Derived.StillTailTactics
namespace Go.Proofs.YtealiilcnmdmdaaGreat
open Go.RowKit
set_option linter.unusedVariables false
set_option linter.unusedSimpArgs false

/-- What a step leaves. -/
structure StepS (s0 : St) (E : List (Tm × Tm)) (s : St) : Prop where
  inv : KInv s E
  mu : muS s < muS s0
  crd : credB s ≤ credB s0
theorem ext_len {k : Nat} {s s2 : St} (h : Ext k s s2) : s2.D.length ≤ credB s + k := Nat.le_trans (len_credB s2) h.credB

set_option maxRecDepth 100000 in
set_option maxHeartbeats 2000000 in
theorem tie_any (w0 : World) (p : Nat) (s0 : St) (E : List (Tm × Tm)) (r : List (Nat × Nat)) (x y a b : Nat) (w : World) (h : SolW w0 p (popS s0 r) w) (hI : KInv s0 E) (hs : s0.steps = r ++ [(x, y)]) (hxa : a = s0.rep x) (hyb : b = s0.rep y) (hab : a ≠ b)
    (hka : (s0.tm a).kind = 4) (hkb : (s0.tm b).kind = 4) (hC : credB s0 ≤ 1099511500000) (hS : s0.steps.length ≤ 1099511500000) :
    Calls Tryz.prog 95 #[.pointer (some ⟨p, 0, none⟩), .pointer (some ⟨a, 0, none⟩), .pointer (some ⟨b, 0, none⟩)] w fun e w' => e = .returned (.tuple #[]) ∧ ∃ s, SolW w0 p s w' ∧ StepS s0 E s ∧ s.bound = s0.bound ∧ Fr isM w w' := by
  have hxD : x ∈ s0.D := (hI.stepsD (x, y) (by rw [hs]; simp)).1
  have hyD : y ∈ s0.D := (hI.stepsD (x, y) (by rw [hs]; simp)).2
  have haD : a ∈ s0.D := by rw [hxa]; exact hI.repD x hxD
  have hbD : b ∈ s0.D := by rw [hyb]; exact hI.repD y hyD
  have hra : s0.rep a = a := by rw [hxa]; exact hI.repR x hxD
  have hrb : s0.rep b = b := by rw [hyb]; exact hI.repR y hyD
  have hrl : r.length < s0.steps.length := by rw [hs]; simp
  have HC1 := Lib.hid (partsOf_any w0 p (popS s0 r) a w h hI.pre haD hka (Nat.le_trans (len_credB s0) (by omega)))
  have HI := Lib.hid (And.intro hI (And.intro hs (And.intro hxa (And.intro hyb (And.intro haD (And.intro hbD (And.intro hra (And.intro hrb hab))))))))
  have HKB := Lib.hid hkb
  have HB := Lib.hid (And.intro hC (And.intro hS hrl))
  clear h hI hs hxa hyb hka hkb hxD hyD haD hbD hra hrb hC hS hrl
  go_enter Tryz.func95, Tryz.ntmps95
  go_wp2_with fail
  refine HC1.out.mono ?_
  rintro e w1 ⟨u, v, s1, g1, rfl, hg1, hp1, hs1, hf1⟩
  obtain ⟨s1', hq1, rfl⟩ : ∃ s1', PtS s0 a u v s1' ∧ s1 = popS s1' r := ⟨_, hp1.pop⟩
  obtain ⟨hx1, hpa⟩ := hq1.ext HI.out.1 HI.out.2.2.2.2.1
  have HX1 := Lib.hid (And.intro hx1 hpa)
  have HF1 := Lib.hid hf1
  have HG1 := Lib.hid hg1
  have HC2 := Lib.hid (partsOf_any w0 p (popS s1' r) b w1 hs1 (hx1.inv E HI.out.1).pre (hx1.D b HI.out.2.2.2.2.2.1) (by rw [show (popS s1' r).tm b = s0.tm b from hx1.tm b HI.out.2.2.2.2.2.1]; exact HKB.out) (by have h1 := ext_len hx1; have h2 := HB.out.1; show s1'.D.length ≤ _; omega))
  clear hp1 hq1 hx1 hpa hf1 hg1 hs1 HC1
  go_wp2_with fail
  refine HC2.out.mono ?_
  rintro e w2 ⟨z, q, s2, g2, rfl, hg2, hp2, hs2, hf2⟩
  obtain ⟨s2', hq2, rfl⟩ : ∃ s2', PtS s1' b z q s2' ∧ s2 = popS s2' r := ⟨_, hp2.pop⟩
  obtain ⟨hx2, hpb⟩ := hq2.ext (HX1.out.1.inv E HI.out.1) (HX1.out.1.D b HI.out.2.2.2.2.2.1)
  have hx := HX1.out.1.trans hx2
  have HX := Lib.hid (And.intro hx (And.intro hpb ((hx2.parts a (HX1.out.1.D a HI.out.2.2.2.2.1) (by rw [HX1.out.2]; simp)).trans HX1.out.2)))
  have HF2 := Lib.hid (HF1.out.trans hf2)
  have HGG : Hid (w2.heap[g1]? = some (.cells #[ptrN u, ptrN v] 90 (0, 0)) ∧ w2.heap[g2]? = some (.cells #[ptrN z, ptrN q] 90 (0, 0))) := Lib.hid ⟨hf2.cells HG1.out (not_isM (by decide) (by decide) (by decide)), hg2⟩
  obtain ⟨tie2, hT2⟩ := hs2
  have hra2 : s2'.rep a = a := (hx.rep a HI.out.2.2.2.2.1).trans HI.out.2.2.2.2.2.2.1
  have hrb2 : s2'.rep b = b := (hx.rep b HI.out.2.2.2.2.2.1).trans HI.out.2.2.2.2.2.2.2.1
  obtain ⟨hT3, hf3⟩ := hT2.bound (hx.D a HI.out.2.2.2.2.1) (hx.D b HI.out.2.2.2.2.2.1) hra2 hrb2 HI.out.2.2.2.2.2.2.2.2
  obtain ⟨_, _, _, _, _, c0, _, _, _, _, _, f⟩ := (hT2.knots a (hx.D a HI.out.2.2.2.2.1)).cells
  have f0 := f 0
  have HS3 : Hid (SolW w0 p (linkS (popS s2' r) r a b s2'.bound) (w2.setCell ⟨a, 0, none⟩ (.pointer (some ⟨b, 0, none⟩)))) := Lib.hid ⟨_, hT3⟩
  have HF3 : Hid (Fr isM w (w2.setCell ⟨a, 0, none⟩ (.pointer (some ⟨b, 0, none⟩)))) := Lib.hid (HF2.out.trans hf3.wide)
  have HG3 : Hid ((w2.setCell ⟨a, 0, none⟩ (.pointer (some ⟨b, 0, none⟩))).heap[g1]? = some (.cells #[ptrN u, ptrN v] 90 (0, 0)) ∧ (w2.setCell ⟨a, 0, none⟩ (.pointer (some ⟨b, 0, none⟩))).heap[g2]? = some (.cells #[ptrN z, ptrN q] 90 (0, 0))) := Lib.hid ⟨hf3.cells HGG.out.1 (not_isK (by decide)), hf3.cells HGG.out.2 (not_isK (by decide))⟩
  clear hp2 hq2 hx2 hpb hf2 hg2 HC2 hT2 hT3 hf3 f hx hra2 hrb2 HF2 HGG HG1 HF1 HX1 HKB
  go_upto_region 2 with (fail)
  clear c0 f0
  generalize hw3 : w2.setCell ⟨a, 0, none⟩ (.pointer (some ⟨b, 0, none⟩)) = w3 at HS3 HF3 HG3 ⊢
  clear hw3
  have l1 : w3.cell? ⟨g1, 1, none⟩ = some (.pointer (some ⟨v, 0, none⟩)) := cell_of_row w3 g1 1 _ _ _ HG3.out.1
  have l2 : w3.cell? ⟨g2, 1, none⟩ = some (.pointer (some ⟨q, 0, none⟩)) := cell_of_row w3 g2 1 _ _ _ HG3.out.2
  go_still_tail 7, (by kernel_rfl)
  change wpList _ _ _ _ _ w3.drew
  have HS4 : Hid (SolW w0 p (linkS (popS s2' r) r a b s2'.bound) w3.drew) := Lib.hid (HS3.out.kept (Below.refl _ _).drew)
  have HF4 : Hid (Fr isM w w3.drew) := Lib.hid (HF3.out.trans (Fr.of_below (Below.refl _ _).drew))
  have HG4 : Hid (w3.drew.heap[g1]? = some (.cells #[ptrN u, ptrN v] 90 (0, 0)) ∧ w3.drew.heap[g2]? = some (.cells #[ptrN z, ptrN q] 90 (0, 0))) := Lib.hid HG3.out
  clear l1 l2 HS3 HF3 HG3
  generalize w3.drew = w4 at HS4 HF4 HG4 ⊢
  have HP := Lib.hid (push_any w0 p _ v q w4 HS4.out (by have h2 := HB.out; show r.length ≤ _; omega))
  go_wp2_with fail
  refine HP.out.mono ?_
  rintro e w5 ⟨rfl, hs5, hf5⟩
  have HS5 := Lib.hid hs5
  have HF5 := Lib.hid (HF4.out.trans hf5)
  have HG5 : Hid (w5.heap[g1]? = some (.cells #[ptrN u, ptrN v] 90 (0, 0)) ∧ w5.heap[g2]? = some (.cells #[ptrN z, ptrN q] 90 (0, 0))) := Lib.hid ⟨hf5.cells HG4.out.1 (not_isM (by decide) (by decide) (by decide)), hf5.cells HG4.out.2 (not_isM (by decide) (by decide) (by decide))⟩
  clear hs5 hf5 HP HS4 HF4 HG4
  have l1 : w5.cell? ⟨g1, 0, none⟩ = some (.pointer (some ⟨u, 0, none⟩)) := cell_of_row w5 g1 0 _ _ _ HG5.out.1
  have l2 : w5.cell? ⟨g2, 0, none⟩ = some (.pointer (some ⟨z, 0, none⟩)) := cell_of_row w5 g2 0 _ _ _ HG5.out.2
  go_upto_region 3 with (fail)
  go_still_tail 7, (by kernel_rfl)
  change wpList _ _ _ _ _ w5.drew
  have HS6 : Hid (SolW w0 p _ w5.drew) := Lib.hid (HS5.out.kept (Below.refl _ _).drew)
  have HF6 : Hid (Fr isM w w5.drew) := Lib.hid (HF5.out.trans (Fr.of_below (Below.refl _ _).drew))
  clear l1 l2 HS5 HF5 HG5
  generalize w5.drew = w6 at HS6 HF6 ⊢
  have HP := Lib.hid (push_any w0 p _ u z w6 HS6.out (by have h2 := HB.out; show (r ++ [(v, q)]).length ≤ _; simp; omega))
  go_wp2_with fail
  refine HP.out.mono ?_
  rintro e w7 ⟨rfl, hs7, hf7⟩
  have HE : Hid (SolW w0 p (linkS s2' (r ++ [(v, q), (u, z)]) a b s2'.bound) w7 ∧ Fr isM w w7) := Lib.hid ⟨by
    have e : pushS (pushS (linkS (popS s2' r) r a b s2'.bound) v q) u z = linkS s2' (r ++ [(v, q), (u, z)]) a b s2'.bound := by
      unfold pushS linkS popS
      simp
    rw [e] at hs7
    exact hs7, HF6.out.trans hf7⟩
  clear hs7 hf7 HP HS6 HF6
  go_wp2
  go_end0
  refine ⟨rfl, _, HE.out.1, ?_, ?_, HE.out.2⟩
  · obtain ⟨hI, hs, hxa, hyb, haD, hbD, hra, hrb, hab⟩ := HI.out
    obtain ⟨hx, hpb, hpa⟩ := HX.out
    have hI2 := hx.inv E hI
    have hs2 : s2'.steps = r ++ [(x, y)] := hx.steps.trans hs
    have hxD : x ∈ s0.D := (hI.stepsD (x, y) (by rw [hs]; simp)).1
    have hyD : y ∈ s0.D := (hI.stepsD (x, y) (by rw [hs]; simp)).2
    have hra2 : s2'.rep a = a := (hx.rep a haD).trans hra
    have hrb2 : s2'.rep b = b := (hx.rep b hbD).trans hrb
    obtain ⟨k1, k2, k3⟩ := link_cred hI2 (r := r ++ [(v, q), (u, z)]) (n := s2'.bound) (hx.D a haD) hra2 hrb2 hab
    have k4 := k3 (by rw [hpa]; simp)
    refine ⟨hI2.link hs2 (.inl ⟨by rw [hx.rep x hxD]; exact hxa, by rw [hx.rep y hyD]; exact hyb⟩) hab (.inr ⟨u, v, z, q, hpa, hpb, rfl, rfl⟩), ?_, ?_⟩
    · have h1 := hx.credA
      have h2 : s0.steps.length = r.length + 1 := by rw [hs]; simp
      have h3 : (linkS s2' (r ++ [(v, q), (u, z)]) a b s2'.bound).steps.length = r.length + 2 := by show (r ++ [(v, q), (u, z)]).length = _; simp
      unfold muS
      rw [h2, h3]
      omega
    · rw [k1]; exact hx.credB
  · exact HX.out.1.bound
end Go.Proofs.YtealiilcnmdmdaaGreat

