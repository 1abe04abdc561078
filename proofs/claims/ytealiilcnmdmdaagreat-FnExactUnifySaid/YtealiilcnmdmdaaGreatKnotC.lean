/-
  The program's solver: push.
-/
import Derived.Test.YtealiilcnmdmdaaGreatKnotB
import Derived.Deep.RegionLaw
import Derived.Deep.AppendLies
namespace Go.Proofs.YtealiilcnmdmdaaGreat
open Go.RowKit
set_option linter.unusedVariables false
set_option linter.unusedSimpArgs false

theorem infoFunc : (Tryz.prog.info? 81).map (fun i => (i.zero, i.size, i.bytes)) = some (some .nilFunc, 1, 8) := by kernel_rfl

set_option maxRecDepth 100000 in
set_option maxHeartbeats 2000000 in
theorem push_any (w0 : World) (p : Nat) (s : St) (x y : Nat) (w : World) (h : SolW w0 p s w) (hS : s.steps.length ≤ 1099511600000) :
    Calls Tryz.prog 62 #[.pointer (some ⟨p, 0, none⟩), .pointer (some ⟨x, 0, none⟩), .pointer (some ⟨y, 0, none⟩)] w fun e w' => e = .returned (.tuple #[]) ∧ SolW w0 p (pushS s x y) w' ∧ Fr isM w w' := by
  obtain ⟨tie, hT⟩ := h
  obtain ⟨mb, SV, xs, n, hh⟩ := hT.head
  obtain ⟨oa, oc, rfl⟩ : ∃ a c, SV = .slice a xs.length c := by
    rcases hh.row.shape with ⟨rfl, rfl⟩ | ⟨g, cap, rfl, _⟩
    · exact ⟨none, 0, rfl⟩
    · exact ⟨_, _, rfl⟩
  have hxl : xs.length ≤ 1099511600000 := by rw [hh.steps.1]; exact hS
  have hb1 : Below w.heap.size w (((w.alloc (.cells #[.pointer (some ⟨p, 0, none⟩)] 84)).alloc (.cells #[.pointer (some ⟨x, 0, none⟩)] 90)).alloc (.cells #[.pointer (some ⟨y, 0, none⟩)] 90)) := belowAlloc (belowAlloc (belowAlloc (Below.refl _ _) _) _) _
  have hv1 : StepC (((w.alloc (.cells #[.pointer (some ⟨p, 0, none⟩)] 84)).alloc (.cells #[.pointer (some ⟨x, 0, none⟩)] 90)).alloc (.cells #[.pointer (some ⟨y, 0, none⟩)] 90)) p (.func (.func 77) #[] #[.pointer (some ⟨w.heap.size, 0, none⟩), .pointer (some ⟨w.heap.size + 1, 0, none⟩), .pointer (some ⟨w.heap.size + 1 + 1, 0, none⟩)]) (x, y) := by
    refine ⟨w.heap.size, w.heap.size + 1, w.heap.size + 1 + 1, rfl, ?_, ?_, ?_⟩
    · rw [Below.heap_alloc _ _ _ (by simp; omega), Below.heap_alloc _ _ _ (by simp)]
      exact heap_new w _
    · rw [Below.heap_alloc _ _ _ (by simp)]
      have := heap_new (w.alloc (.cells #[.pointer (some ⟨p, 0, none⟩)] 84)) (.cells #[.pointer (some ⟨x, 0, none⟩)] 90)
      simpa using this
    · have := heap_new ((w.alloc (.cells #[.pointer (some ⟨p, 0, none⟩)] 84)).alloc (.cells #[.pointer (some ⟨x, 0, none⟩)] 90)) (.cells #[.pointer (some ⟨y, 0, none⟩)] 90)
      simpa using this
  have HB1 := Lib.hid hb1
  have HV1 := Lib.hid hv1
  have HT := Lib.hid hT
  have HH := Lib.hid hh
  have hc1 : (((w.alloc (.cells #[.pointer (some ⟨p, 0, none⟩)] 84)).alloc (.cells #[.pointer (some ⟨x, 0, none⟩)] 90)).alloc (.cells #[.pointer (some ⟨y, 0, none⟩)] 90)).cell? ⟨w.heap.size, 0, none⟩ = some (.pointer (some ⟨p, 0, none⟩)) := by
    obtain ⟨x1, y1, z1, he, h1, _⟩ := hv1
    simp only [Value.func.injEq, Array.mk.injEq, List.cons.injEq, Value.pointer.injEq, Option.some.injEq, Addr.mk.injEq, and_true, true_and] at he
    obtain ⟨rfl, _⟩ := he
    exact cell_of_row _ _ 0 _ _ _ h1
  obtain ⟨i0, hi, hz0, hz1, hz2⟩ := info_parts infoFunc
  have HII := Lib.hid (And.intro hi (And.intro hz0 (And.intro hz1 hz2)))
  have hmf : ∀ (fn : Fn) (first cap : Array Value) (w : World), (Instr.makeFunc fn first cap).run Tryz.prog w = .ok (.func fn first cap) w := fun _ _ _ _ => rfl
  clear hT hh hb1 hv1 hS hi hz0 hz1 hz2
  go_enter Tryz.func62, Tryz.ntmps62
  go_upto_region 1 with (fail)
  generalize hw1 : ((w.alloc (.cells #[.pointer (some ⟨p, 0, none⟩)] 84)).alloc (.cells #[.pointer (some ⟨x, 0, none⟩)] 90)).alloc (.cells #[.pointer (some ⟨y, 0, none⟩)] 90) = w1 at HB1 HV1 hc1 ⊢
  clear hw1
  have hhd := HH.out.frame (Fr.of_below HB1.out)
  obtain ⟨e0, e1, e2, ef⟩ := hhd.cells
  have HWL : Hid (w.heap.size < w1.heap.size) := Lib.hid (by
    obtain ⟨x1, y1, z1, he, h1, _⟩ := HV1.out
    simp only [Value.func.injEq, Array.mk.injEq, List.cons.injEq, Value.pointer.injEq, Option.some.injEq, Addr.mk.injEq, and_true, true_and] at he
    obtain ⟨rfl, _⟩ := he
    exact lt_of_cells h1)
  have HROW : Hid ((w1.alloc (.cells #[.func (.func 77) #[] #[.pointer (some ⟨w.heap.size, 0, none⟩), .pointer (some ⟨w.heap.size + 1, 0, none⟩), .pointer (some ⟨w.heap.size + 1 + 1, 0, none⟩)]] 81)).drew.ownsRow w0.heap.size 81 1 (.slice oa xs.length oc) xs.length xs) := Lib.hid (hhd.row.kept (belowAlloc (Below.refl w1.heap.size w1) (.cells #[.func (.func 77) #[] #[.pointer (some ⟨w.heap.size, 0, none⟩), .pointer (some ⟨w.heap.size + 1, 0, none⟩), .pointer (some ⟨w.heap.size + 1 + 1, 0, none⟩)]] 81)).drew)
  have HNB : Hid ((w1.alloc (.cells #[.func (.func 77) #[] #[.pointer (some ⟨w.heap.size, 0, none⟩), .pointer (some ⟨w.heap.size + 1, 0, none⟩), .pointer (some ⟨w.heap.size + 1 + 1, 0, none⟩)]] 81)).drew.heap[w1.heap.size]? = some (.cells #[.func (.func 77) #[] #[.pointer (some ⟨w.heap.size, 0, none⟩), .pointer (some ⟨w.heap.size + 1, 0, none⟩), .pointer (some ⟨w.heap.size + 1 + 1, 0, none⟩)]] 81)) := Lib.hid (heap_alloc_new w1 (.cells #[.func (.func 77) #[] #[.pointer (some ⟨w.heap.size, 0, none⟩), .pointer (some ⟨w.heap.size + 1, 0, none⟩), .pointer (some ⟨w.heap.size + 1 + 1, 0, none⟩)]] 81))
  have HPC : Hid (∀ w2 : World, ((w1.alloc (.cells #[.func (.func 77) #[] #[.pointer (some ⟨w.heap.size, 0, none⟩), .pointer (some ⟨w.heap.size + 1, 0, none⟩), .pointer (some ⟨w.heap.size + 1 + 1, 0, none⟩)]] 81)).drew).grownBy w2 (Value.slice oa xs.length oc).ownBlock → w2.cell? ⟨p, 2, none⟩ = some (.slice oa xs.length oc) ∧ w2.frozen? ⟨p, 2, none⟩ = false ∧ w2.cell? ⟨w.heap.size, 0, none⟩ = some (.pointer (some ⟨p, 0, none⟩))) := Lib.hid fun w2 hg => by
    have hB := (belowAlloc (Below.refl w1.heap.size w1) (.cells #[.func (.func 77) #[] #[.pointer (some ⟨w.heap.size, 0, none⟩), .pointer (some ⟨w.heap.size + 1, 0, none⟩), .pointer (some ⟨w.heap.size + 1 + 1, 0, none⟩)]] 81)).drew
    have hq := hhd.frame (Fr.of_below hB)
    have hcell := (hg.block p (lt_of_cells hq.cell) (fun e => hq.p_ne.2.1 e.symm)).trans hq.cell
    have hwl : w.heap.size < w1.heap.size := HWL.out
    have hbx := hg.block w.heap.size (by simp; omega) (fun e => by have := HH.out.row.lt _ e.symm; omega)
    exact ⟨cell_of_row _ p 2 _ _ _ hcell, frozen_of_row _ p 2 _ _ hcell, (World.cell?_of_block (a := ⟨w.heap.size, 0, none⟩) hbx).trans ((hB.cell (p := ⟨w.heap.size, 0, none⟩) hwl).trans hc1)⟩
  have hwz : w0.heap.size ≤ w1.heap.size := Nat.le_trans HT.out.old.size HB1.out.size
  have hpl : p < w1.heap.size := lt_of_cells hhd.cell
  have hwl : w.heap.size < w1.heap.size := HWL.out
  clear hhd e0 e1
  go_region_law (first
    | (refine step_append_lies _ (by rfl) _ _ _ (by rfl) w0.heap.size 81 i0 _ 1 8 Tryz.underlying86 HII.out.1 HII.out.2.1 HII.out.2.2.1 HII.out.2.2.2 rfl (by omega) (.slice oa xs.length oc) xs.length xs (by rfl) HROW.out ⟨w1.heap.size, 0, none⟩ 1 1 [.func (.func 77) #[] #[.pointer (some ⟨w.heap.size, 0, none⟩), .pointer (some ⟨w.heap.size + 1, 0, none⟩), .pointer (some ⟨w.heap.size + 1 + 1, 0, none⟩)]] (by rfl) (by rfl) (World.news_of_block HNB.out) (by simp [Value.oneCell']) (by omega) (by unfold maxLen; omega) (by omega) (by simp; omega) (w1.heap.size + 1) (by simp) ?_; intro gg cap w2 hown1 hgrow hat hlt1; obtain ⟨q2, qf, q0⟩ := HPC.out _ hgrow; have HAP := Lib.hid (And.intro hown1 hgrow); clear hown1 hgrow hat hlt1)
    | go_simp)
  all_goals
    have HN : Hid (SolW w0 p (pushS s x y) (w2.setCell ⟨p, 2, none⟩ (.slice (some ⟨gg, 0, none⟩) (xs.length + 1) cap)) ∧ Fr isM w (w2.setCell ⟨p, 2, none⟩ (.slice (some ⟨gg, 0, none⟩) (xs.length + 1) cap))) := Lib.hid (by
      have hB := (belowAlloc HB1.out (.cells #[.func (.func 77) #[] #[.pointer (some ⟨w.heap.size, 0, none⟩), .pointer (some ⟨w.heap.size + 1, 0, none⟩), .pointer (some ⟨w.heap.size + 1 + 1, 0, none⟩)]] 81)).drew
      have hvW := HV1.out.frame (Fr.of_below (belowAlloc (Below.refl w1.heap.size w1) (.cells #[.func (.func 77) #[] #[.pointer (some ⟨w.heap.size, 0, none⟩), .pointer (some ⟨w.heap.size + 1, 0, none⟩), .pointer (some ⟨w.heap.size + 1 + 1, 0, none⟩)]] 81)).drew)
      obtain ⟨r1, r2⟩ := HT.out.pushed HH.out hB HAP.out.2 (by unfold Row; rw [List.length_append]; exact HAP.out.1) hvW
      exact ⟨⟨_, r1⟩, r2⟩)
    clear HAP
    go_wp2
    go_end0
    exact ⟨rfl, HN.out.1, HN.out.2⟩
end Go.Proofs.YtealiilcnmdmdaaGreat

