/-
  The program's solver: push.
  The program's solver: tie.
-/
import Derived.Test.YtbbgiefnmihmdaaKnotR
import Derived.Deep.RegionLaw
import Derived.Deep.AppendLies
import Derived.StillTailTactics
namespace Go.Proofs.Ytbbgiefnmihmdaa
open Go.RowKit
set_option linter.unusedVariables false
set_option linter.unusedSimpArgs false

theorem infoFunc : (Try.prog.info? 134).map (fun i => (i.zero, i.size, i.bytes)) = some (some .nilFunc, 1, 8) := by kernel_rfl

set_option maxRecDepth 100000 in
set_option maxHeartbeats 2000000 in
theorem push_any (w0 : World) (p : Nat) (s : St) (x y : Nat) (w : World) (h : SolW w0 p s w) (hS : s.steps.length ≤ 1099511600000) :
    Calls Try.prog 111 #[.pointer (some ⟨p, 0, none⟩), .pointer (some ⟨x, 0, none⟩), .pointer (some ⟨y, 0, none⟩)] w fun e w' => e = .returned (.tuple #[]) ∧ SolW w0 p (pushS s x y) w' ∧ Fr isM w w' := by
  obtain ⟨tie, hT⟩ := h
  obtain ⟨mb, SV, xs, n, hh⟩ := hT.head
  obtain ⟨oa, oc, rfl⟩ : ∃ a c, SV = .slice a xs.length c := by
    rcases hh.row.shape with ⟨rfl, rfl⟩ | ⟨g, cap, rfl, _⟩
    · exact ⟨none, 0, rfl⟩
    · exact ⟨_, _, rfl⟩
  have hxl : xs.length ≤ 1099511600000 := by rw [hh.steps.1]; exact hS
  have hb1 : Below w.heap.size w (((w.alloc (.cells #[.pointer (some ⟨p, 0, none⟩)] 126)).alloc (.cells #[.pointer (some ⟨x, 0, none⟩)] 132)).alloc (.cells #[.pointer (some ⟨y, 0, none⟩)] 132)) := belowAlloc (belowAlloc (belowAlloc (Below.refl _ _) _) _) _
  have hv1 : StepC (((w.alloc (.cells #[.pointer (some ⟨p, 0, none⟩)] 126)).alloc (.cells #[.pointer (some ⟨x, 0, none⟩)] 132)).alloc (.cells #[.pointer (some ⟨y, 0, none⟩)] 132)) p (.func (.func 147) #[] #[.pointer (some ⟨w.heap.size, 0, none⟩), .pointer (some ⟨w.heap.size + 1, 0, none⟩), .pointer (some ⟨w.heap.size + 1 + 1, 0, none⟩)]) (x, y) := by
    refine ⟨w.heap.size, w.heap.size + 1, w.heap.size + 1 + 1, rfl, ?_, ?_, ?_⟩
    · rw [Below.heap_alloc _ _ _ (by simp; omega), Below.heap_alloc _ _ _ (by simp)]
      exact heap_new w _
    · rw [Below.heap_alloc _ _ _ (by simp)]
      have := heap_new (w.alloc (.cells #[.pointer (some ⟨p, 0, none⟩)] 126)) (.cells #[.pointer (some ⟨x, 0, none⟩)] 132)
      simpa using this
    · have := heap_new ((w.alloc (.cells #[.pointer (some ⟨p, 0, none⟩)] 126)).alloc (.cells #[.pointer (some ⟨x, 0, none⟩)] 132)) (.cells #[.pointer (some ⟨y, 0, none⟩)] 132)
      simpa using this
  have HB1 := Lib.hid hb1
  have HV1 := Lib.hid hv1
  have HT := Lib.hid hT
  have HH := Lib.hid hh
  have hc1 : (((w.alloc (.cells #[.pointer (some ⟨p, 0, none⟩)] 126)).alloc (.cells #[.pointer (some ⟨x, 0, none⟩)] 132)).alloc (.cells #[.pointer (some ⟨y, 0, none⟩)] 132)).cell? ⟨w.heap.size, 0, none⟩ = some (.pointer (some ⟨p, 0, none⟩)) := by
    obtain ⟨x1, y1, z1, he, h1, _⟩ := hv1
    simp only [Value.func.injEq, Array.mk.injEq, List.cons.injEq, Value.pointer.injEq, Option.some.injEq, Addr.mk.injEq, and_true, true_and] at he
    obtain ⟨rfl, _⟩ := he
    exact cell_of_row _ _ 0 _ _ _ h1
  obtain ⟨i0, hi, hz0, hz1, hz2⟩ := info_parts infoFunc
  have HII := Lib.hid (And.intro hi (And.intro hz0 (And.intro hz1 hz2)))
  have hmf : ∀ (fn : Fn) (first cap : Array Value) (w : World), (Instr.makeFunc fn first cap).run Try.prog w = .ok (.func fn first cap) w := fun _ _ _ _ => rfl
  clear hT hh hb1 hv1 hS hi hz0 hz1 hz2
  go_enter Try.func111, Try.ntmps111
  go_upto_region 1 with (fail)
  generalize hw1 : ((w.alloc (.cells #[.pointer (some ⟨p, 0, none⟩)] 126)).alloc (.cells #[.pointer (some ⟨x, 0, none⟩)] 132)).alloc (.cells #[.pointer (some ⟨y, 0, none⟩)] 132) = w1 at HB1 HV1 hc1 ⊢
  clear hw1
  have hhd := HH.out.frame (Fr.of_below HB1.out)
  obtain ⟨e0, e1, e2, ef⟩ := hhd.cells
  have HWL : Hid (w.heap.size < w1.heap.size) := Lib.hid (by
    obtain ⟨x1, y1, z1, he, h1, _⟩ := HV1.out
    simp only [Value.func.injEq, Array.mk.injEq, List.cons.injEq, Value.pointer.injEq, Option.some.injEq, Addr.mk.injEq, and_true, true_and] at he
    obtain ⟨rfl, _⟩ := he
    exact lt_of_cells h1)
  have HROW : Hid ((w1.alloc (.cells #[.func (.func 147) #[] #[.pointer (some ⟨w.heap.size, 0, none⟩), .pointer (some ⟨w.heap.size + 1, 0, none⟩), .pointer (some ⟨w.heap.size + 1 + 1, 0, none⟩)]] 134)).drew.ownsRow w0.heap.size 134 1 (.slice oa xs.length oc) xs.length xs) := Lib.hid (hhd.row.kept (belowAlloc (Below.refl w1.heap.size w1) (.cells #[.func (.func 147) #[] #[.pointer (some ⟨w.heap.size, 0, none⟩), .pointer (some ⟨w.heap.size + 1, 0, none⟩), .pointer (some ⟨w.heap.size + 1 + 1, 0, none⟩)]] 134)).drew)
  have HNB : Hid ((w1.alloc (.cells #[.func (.func 147) #[] #[.pointer (some ⟨w.heap.size, 0, none⟩), .pointer (some ⟨w.heap.size + 1, 0, none⟩), .pointer (some ⟨w.heap.size + 1 + 1, 0, none⟩)]] 134)).drew.heap[w1.heap.size]? = some (.cells #[.func (.func 147) #[] #[.pointer (some ⟨w.heap.size, 0, none⟩), .pointer (some ⟨w.heap.size + 1, 0, none⟩), .pointer (some ⟨w.heap.size + 1 + 1, 0, none⟩)]] 134)) := Lib.hid (heap_alloc_new w1 (.cells #[.func (.func 147) #[] #[.pointer (some ⟨w.heap.size, 0, none⟩), .pointer (some ⟨w.heap.size + 1, 0, none⟩), .pointer (some ⟨w.heap.size + 1 + 1, 0, none⟩)]] 134))
  have HPC : Hid (∀ w2 : World, ((w1.alloc (.cells #[.func (.func 147) #[] #[.pointer (some ⟨w.heap.size, 0, none⟩), .pointer (some ⟨w.heap.size + 1, 0, none⟩), .pointer (some ⟨w.heap.size + 1 + 1, 0, none⟩)]] 134)).drew).grownBy w2 (Value.slice oa xs.length oc).ownBlock → w2.cell? ⟨p, 2, none⟩ = some (.slice oa xs.length oc) ∧ w2.frozen? ⟨p, 2, none⟩ = false ∧ w2.cell? ⟨w.heap.size, 0, none⟩ = some (.pointer (some ⟨p, 0, none⟩))) := Lib.hid fun w2 hg => by
    have hB := (belowAlloc (Below.refl w1.heap.size w1) (.cells #[.func (.func 147) #[] #[.pointer (some ⟨w.heap.size, 0, none⟩), .pointer (some ⟨w.heap.size + 1, 0, none⟩), .pointer (some ⟨w.heap.size + 1 + 1, 0, none⟩)]] 134)).drew
    have hq := hhd.frame (Fr.of_below hB)
    have hcell := (hg.block p (lt_of_cells hq.cell) (fun e => hq.p_ne.2.1 e.symm)).trans hq.cell
    have hwl : w.heap.size < w1.heap.size := HWL.out
    have hbx := hg.block w.heap.size (by simp; omega) (fun e => by have := HH.out.row.lt _ e.symm; omega)
    exact ⟨cell_of_row _ p 2 _ _ _ hcell, frozen_of_row _ p 2 _ _ hcell, (World.cell?_of_block (a := ⟨w.heap.size, 0, none⟩) hbx).trans ((hB.cell (p := ⟨w.heap.size, 0, none⟩) hwl).trans hc1)⟩
  have hwz : w0.heap.size ≤ w1.heap.size := Nat.le_trans HT.out.old.size HB1.out.size
  have hpl : p < w1.heap.size := lt_of_cells hhd.cell
  have hwl : w.heap.size < w1.heap.size := HWL.out
  clear hhd e0 e1
  go_region_law (first
    | (refine step_append_lies _ (by rfl) _ _ _ (by rfl) w0.heap.size 134 i0 _ 1 8 Try.underlying128 HII.out.1 HII.out.2.1 HII.out.2.2.1 HII.out.2.2.2 rfl (by omega) (.slice oa xs.length oc) xs.length xs (by rfl) HROW.out ⟨w1.heap.size, 0, none⟩ 1 1 [.func (.func 147) #[] #[.pointer (some ⟨w.heap.size, 0, none⟩), .pointer (some ⟨w.heap.size + 1, 0, none⟩), .pointer (some ⟨w.heap.size + 1 + 1, 0, none⟩)]] (by rfl) (by rfl) (World.news_of_block HNB.out) (by simp [Value.oneCell']) (by omega) (by unfold maxLen; omega) (by omega) (by simp; omega) (w1.heap.size + 1) (by simp) ?_; intro gg cap w2 hown1 hgrow hat hlt1; obtain ⟨q2, qf, q0⟩ := HPC.out _ hgrow; have HAP := Lib.hid (And.intro hown1 hgrow); clear hown1 hgrow hat hlt1)
    | go_simp)
  all_goals
    have HN : Hid (SolW w0 p (pushS s x y) (w2.setCell ⟨p, 2, none⟩ (.slice (some ⟨gg, 0, none⟩) (xs.length + 1) cap)) ∧ Fr isM w (w2.setCell ⟨p, 2, none⟩ (.slice (some ⟨gg, 0, none⟩) (xs.length + 1) cap))) := Lib.hid (by
      have hB := (belowAlloc HB1.out (.cells #[.func (.func 147) #[] #[.pointer (some ⟨w.heap.size, 0, none⟩), .pointer (some ⟨w.heap.size + 1, 0, none⟩), .pointer (some ⟨w.heap.size + 1 + 1, 0, none⟩)]] 134)).drew
      have hvW := HV1.out.frame (Fr.of_below (belowAlloc (Below.refl w1.heap.size w1) (.cells #[.func (.func 147) #[] #[.pointer (some ⟨w.heap.size, 0, none⟩), .pointer (some ⟨w.heap.size + 1, 0, none⟩), .pointer (some ⟨w.heap.size + 1 + 1, 0, none⟩)]] 134)).drew)
      obtain ⟨r1, r2⟩ := HT.out.pushed HH.out hB HAP.out.2 (by unfold Row; rw [List.length_append]; exact HAP.out.1) hvW
      exact ⟨⟨_, r1⟩, r2⟩)
    clear HAP
    go_wp2
    go_end0
    exact ⟨rfl, HN.out.1, HN.out.2⟩
end Go.Proofs.Ytbbgiefnmihmdaa

namespace Go.Proofs.Ytbbgiefnmihmdaa
open Go.RowKit
set_option linter.unusedVariables false
set_option linter.unusedSimpArgs false

/-- What a step leaves. -/
structure StepS (s0 : St) (E : List (Tm × Tm)) (s : St) : Prop where
  inv : KInv s E
  mu : muS s < muS s0
  crd : credB s ≤ credB s0
theorem ext_len {k : Nat} {s s2 : St} (h : Ext k s s2) : s2.D.length ≤ credB s + k := Nat.le_trans (len_credB s2) h.credB

set_option maxRecDepth 100000 in
set_option maxHeartbeats 2000000 in
theorem tie_any (w0 : World) (p : Nat) (s0 : St) (E : List (Tm × Tm)) (r : List (Nat × Nat)) (x y a b : Nat) (w : World) (h : SolW w0 p (popS s0 r) w) (hI : KInv s0 E) (hs : s0.steps = r ++ [(x, y)]) (hxa : a = s0.rep x) (hyb : b = s0.rep y) (hab : a ≠ b)
    (hka : (s0.tm a).kind = 4) (hkb : (s0.tm b).kind = 4) (hC : credB s0 ≤ 1099511500000) (hS : s0.steps.length ≤ 1099511500000) :
    Calls Try.prog 182 #[.pointer (some ⟨p, 0, none⟩), .pointer (some ⟨a, 0, none⟩), .pointer (some ⟨b, 0, none⟩)] w fun e w' => e = .returned (.tuple #[]) ∧ ∃ s, SolW w0 p s w' ∧ StepS s0 E s ∧ s.bound = s0.bound ∧ Fr isM w w' := by
  have hxD : x ∈ s0.D := (hI.stepsD (x, y) (by rw [hs]; simp)).1
  have hyD : y ∈ s0.D := (hI.stepsD (x, y) (by rw [hs]; simp)).2
  have haD : a ∈ s0.D := by rw [hxa]; exact hI.repD x hxD
  have hbD : b ∈ s0.D := by rw [hyb]; exact hI.repD y hyD
  have hra : s0.rep a = a := by rw [hxa]; exact hI.repR x hxD
  have hrb : s0.rep b = b := by rw [hyb]; exact hI.repR y hyD
  have hrl : r.length < s0.steps.length := by rw [hs]; simp
  have HC1 := Lib.hid (partsOf_any w0 p (popS s0 r) a w h hI.pre haD hka (Nat.le_trans (len_credB s0) (by omega)))
  have HI := Lib.hid (And.intro hI (And.intro hs (And.intro hxa (And.intro hyb (And.intro haD (And.intro hbD (And.intro hra (And.intro hrb hab))))))))
  have HKB := Lib.hid hkb
  have HB := Lib.hid (And.intro hC (And.intro hS hrl))
  clear h hI hs hxa hyb hka hkb hxD hyD haD hbD hra hrb hC hS hrl
  go_enter Try.func182, Try.ntmps182
  go_wp2_with fail
  refine HC1.out.mono ?_
  rintro e w1 ⟨u, v, s1, g1, rfl, hg1, hp1, hs1, hf1⟩
  obtain ⟨s1', hq1, rfl⟩ : ∃ s1', PtS s0 a u v s1' ∧ s1 = popS s1' r := ⟨_, hp1.pop⟩
  obtain ⟨hx1, hpa⟩ := hq1.ext HI.out.1 HI.out.2.2.2.2.1
  have HX1 := Lib.hid (And.intro hx1 hpa)
  have HF1 := Lib.hid hf1
  have HG1 := Lib.hid hg1
  have HC2 := Lib.hid (partsOf_any w0 p (popS s1' r) b w1 hs1 (hx1.inv E HI.out.1).pre (hx1.D b HI.out.2.2.2.2.2.1) (by rw [show (popS s1' r).tm b = s0.tm b from hx1.tm b HI.out.2.2.2.2.2.1]; exact HKB.out) (by have h1 := ext_len hx1; have h2 := HB.out.1; show s1'.D.length ≤ _; omega))
  clear hp1 hq1 hx1 hpa hf1 hg1 hs1 HC1
  go_wp2_with fail
  refine HC2.out.mono ?_
  rintro e w2 ⟨z, q, s2, g2, rfl, hg2, hp2, hs2, hf2⟩
  obtain ⟨s2', hq2, rfl⟩ : ∃ s2', PtS s1' b z q s2' ∧ s2 = popS s2' r := ⟨_, hp2.pop⟩
  obtain ⟨hx2, hpb⟩ := hq2.ext (HX1.out.1.inv E HI.out.1) (HX1.out.1.D b HI.out.2.2.2.2.2.1)
  have hx := HX1.out.1.trans hx2
  have HX := Lib.hid (And.intro hx (And.intro hpb ((hx2.parts a (HX1.out.1.D a HI.out.2.2.2.2.1) (by rw [HX1.out.2]; simp)).trans HX1.out.2)))
  have HF2 := Lib.hid (HF1.out.trans hf2)
  have HGG : Hid (w2.heap[g1]? = some (.cells #[ptrN u, ptrN v] 132 (0, 0)) ∧ w2.heap[g2]? = some (.cells #[ptrN z, ptrN q] 132 (0, 0))) := Lib.hid ⟨hf2.cells HG1.out (not_isM (by decide) (by decide) (by decide)), hg2⟩
  obtain ⟨tie2, hT2⟩ := hs2
  have hra2 : s2'.rep a = a := (hx.rep a HI.out.2.2.2.2.1).trans HI.out.2.2.2.2.2.2.1
  have hrb2 : s2'.rep b = b := (hx.rep b HI.out.2.2.2.2.2.1).trans HI.out.2.2.2.2.2.2.2.1
  obtain ⟨hT3, hf3⟩ := hT2.bound (hx.D a HI.out.2.2.2.2.1) (hx.D b HI.out.2.2.2.2.2.1) hra2 hrb2 HI.out.2.2.2.2.2.2.2.2
  obtain ⟨_, _, _, _, _, c0, _, _, _, _, _, f⟩ := (hT2.knots a (hx.D a HI.out.2.2.2.2.1)).cells
  have f0 := f 0
  have HS3 : Hid (SolW w0 p (linkS (popS s2' r) r a b s2'.bound) (w2.setCell ⟨a, 0, none⟩ (.pointer (some ⟨b, 0, none⟩)))) := Lib.hid ⟨_, hT3⟩
  have HF3 : Hid (Fr isM w (w2.setCell ⟨a, 0, none⟩ (.pointer (some ⟨b, 0, none⟩)))) := Lib.hid (HF2.out.trans hf3.wide)
  have HG3 : Hid ((w2.setCell ⟨a, 0, none⟩ (.pointer (some ⟨b, 0, none⟩))).heap[g1]? = some (.cells #[ptrN u, ptrN v] 132 (0, 0)) ∧ (w2.setCell ⟨a, 0, none⟩ (.pointer (some ⟨b, 0, none⟩))).heap[g2]? = some (.cells #[ptrN z, ptrN q] 132 (0, 0))) := Lib.hid ⟨hf3.cells HGG.out.1 (not_isK (by decide)), hf3.cells HGG.out.2 (not_isK (by decide))⟩
  clear hp2 hq2 hx2 hpb hf2 hg2 HC2 hT2 hT3 hf3 f hx hra2 hrb2 HF2 HGG HG1 HF1 HX1 HKB
  go_upto_region 2 with (fail)
  clear c0 f0
  generalize hw3 : w2.setCell ⟨a, 0, none⟩ (.pointer (some ⟨b, 0, none⟩)) = w3 at HS3 HF3 HG3 ⊢
  clear hw3
  have l1 : w3.cell? ⟨g1, 1, none⟩ = some (.pointer (some ⟨v, 0, none⟩)) := cell_of_row w3 g1 1 _ _ _ HG3.out.1
  have l2 : w3.cell? ⟨g2, 1, none⟩ = some (.pointer (some ⟨q, 0, none⟩)) := cell_of_row w3 g2 1 _ _ _ HG3.out.2
  go_still_tail 7, (by kernel_rfl)
  change wpList _ _ _ _ _ w3.drew
  have HS4 : Hid (SolW w0 p (linkS (popS s2' r) r a b s2'.bound) w3.drew) := Lib.hid (HS3.out.kept (Below.refl _ _).drew)
  have HF4 : Hid (Fr isM w w3.drew) := Lib.hid (HF3.out.trans (Fr.of_below (Below.refl _ _).drew))
  have HG4 : Hid (w3.drew.heap[g1]? = some (.cells #[ptrN u, ptrN v] 132 (0, 0)) ∧ w3.drew.heap[g2]? = some (.cells #[ptrN z, ptrN q] 132 (0, 0))) := Lib.hid HG3.out
  clear l1 l2 HS3 HF3 HG3
  generalize w3.drew = w4 at HS4 HF4 HG4 ⊢
  have HP := Lib.hid (push_any w0 p _ v q w4 HS4.out (by have h2 := HB.out; show r.length ≤ _; omega))
  go_wp2_with fail
  refine HP.out.mono ?_
  rintro e w5 ⟨rfl, hs5, hf5⟩
  have HS5 := Lib.hid hs5
  have HF5 := Lib.hid (HF4.out.trans hf5)
  have HG5 : Hid (w5.heap[g1]? = some (.cells #[ptrN u, ptrN v] 132 (0, 0)) ∧ w5.heap[g2]? = some (.cells #[ptrN z, ptrN q] 132 (0, 0))) := Lib.hid ⟨hf5.cells HG4.out.1 (not_isM (by decide) (by decide) (by decide)), hf5.cells HG4.out.2 (not_isM (by decide) (by decide) (by decide))⟩
  clear hs5 hf5 HP HS4 HF4 HG4
  have l1 : w5.cell? ⟨g1, 0, none⟩ = some (.pointer (some ⟨u, 0, none⟩)) := cell_of_row w5 g1 0 _ _ _ HG5.out.1
  have l2 : w5.cell? ⟨g2, 0, none⟩ = some (.pointer (some ⟨z, 0, none⟩)) := cell_of_row w5 g2 0 _ _ _ HG5.out.2
  go_upto_region 3 with (fail)
  go_still_tail 7, (by kernel_rfl)
  change wpList _ _ _ _ _ w5.drew
  have HS6 : Hid (SolW w0 p _ w5.drew) := Lib.hid (HS5.out.kept (Below.refl _ _).drew)
  have HF6 : Hid (Fr isM w w5.drew) := Lib.hid (HF5.out.trans (Fr.of_below (Below.refl _ _).drew))
  clear l1 l2 HS5 HF5 HG5
  generalize w5.drew = w6 at HS6 HF6 ⊢
  have HP := Lib.hid (push_any w0 p _ u z w6 HS6.out (by have h2 := HB.out; show (r ++ [(v, q)]).length ≤ _; simp; omega))
  go_wp2_with fail
  refine HP.out.mono ?_
  rintro e w7 ⟨rfl, hs7, hf7⟩
  have HE : Hid (SolW w0 p (linkS s2' (r ++ [(v, q), (u, z)]) a b s2'.bound) w7 ∧ Fr isM w w7) := Lib.hid ⟨by
    have e : pushS (pushS (linkS (popS s2' r) r a b s2'.bound) v q) u z = linkS s2' (r ++ [(v, q), (u, z)]) a b s2'.bound := by
      unfold pushS linkS popS
      simp
    rw [e] at hs7
    exact hs7, HF6.out.trans hf7⟩
  clear hs7 hf7 HP HS6 HF6
  go_wp2
  go_end0
  refine ⟨rfl, _, HE.out.1, ?_, ?_, HE.out.2⟩
  · obtain ⟨hI, hs, hxa, hyb, haD, hbD, hra, hrb, hab⟩ := HI.out
    obtain ⟨hx, hpb, hpa⟩ := HX.out
    have hI2 := hx.inv E hI
    have hs2 : s2'.steps = r ++ [(x, y)] := hx.steps.trans hs
    have hxD : x ∈ s0.D := (hI.stepsD (x, y) (by rw [hs]; simp)).1
    have hyD : y ∈ s0.D := (hI.stepsD (x, y) (by rw [hs]; simp)).2
    have hra2 : s2'.rep a = a := (hx.rep a haD).trans hra
    have hrb2 : s2'.rep b = b := (hx.rep b hbD).trans hrb
    obtain ⟨k1, k2, k3⟩ := link_cred hI2 (r := r ++ [(v, q), (u, z)]) (n := s2'.bound) (hx.D a haD) hra2 hrb2 hab
    have k4 := k3 (by rw [hpa]; simp)
    refine ⟨hI2.link hs2 (.inl ⟨by rw [hx.rep x hxD]; exact hxa, by rw [hx.rep y hyD]; exact hyb⟩) hab (.inr ⟨u, v, z, q, hpa, hpb, rfl, rfl⟩), ?_, ?_⟩
    · have h1 := hx.credA
      have h2 : s0.steps.length = r.length + 1 := by rw [hs]; simp
      have h3 : (linkS s2' (r ++ [(v, q), (u, z)]) a b s2'.bound).steps.length = r.length + 2 := by show (r ++ [(v, q), (u, z)]).length = _; simp
      unfold muS
      rw [h2, h3]
      omega
    · rw [k1]; exact hx.credB
  · exact HX.out.1.bound
end Go.Proofs.Ytbbgiefnmihmdaa

