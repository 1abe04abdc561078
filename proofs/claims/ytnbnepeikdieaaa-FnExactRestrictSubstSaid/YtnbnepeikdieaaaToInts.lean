/-
  The contract of the laws' helper toIntS.
-/
import Derived.Test.YtnbnepeikdieaaaBase
import Derived.WalkLawsBesides
import Derived.Deep.QuietTactic
import Derived.BigQuiet
namespace Go.Proofs.Ytnbnepeikdieaaa
open Go.RowKit

set_option maxHeartbeats 400000 in
theorem toInts_any (v : Value) (L : List Int) (w : World) (h : Vals w v (L.map (.int .i64))) (hL : L.length ≤ 1048576) :
    Calls Try.prog 26 #[v] w fun e w' => ∃ u, e = .returned u ∧ Row w' w.heap.size 3 u (L.map (.int .i64)) ∧ Below w.heap.size w w' := by
  obtain ⟨i0, hi, hz0, hz1, hz2⟩ := info_parts infoInt
  obtain ⟨a, cap, rfl, hv⟩ := h
  rw [List.length_map]
  have HV := Lib.hid hv
  clear hv
  go_enter Try.func26, Try.ntmps26
  go_wp2_with (at_make; refine wpList_make_full _ rfl _ _ 45 rfl w.heap.size 3 i0 _ 1 Try.underlying45 hi hz0 hz1 _ _ _ _ L.length rfl rfl rfl rfl (by rw [hz2]; omega) (by unfold maxLen; omega) (Nat.le_refl _) ?_; intro w1 hown hg; have HO1 := Lib.hid hown; have HG1 := Lib.hid hg; clear hown hg)
  have HM : Hid (∃ ys : List Value, ys.length = L.length ∧ Row w1 w.heap.size 3 (.slice (some ⟨w.heap.size, 0, none⟩) L.length L.length) ys) := by
    refine ⟨(madeCells (Value.cells (.int .i64 0)) (L.length * 1)).toList, ?_, ?_⟩
    · have := HO1.out.1; simpa using this
    · have h2 := HO1.out
      have e : (madeCells (Value.cells (.int .i64 0)) (L.length * 1)).toList.length = L.length := by have := h2.1; simpa using this
      unfold Row
      rw [e]
      exact h2
  have HB1 := Lib.hid (below_of_grown (B := w.heap.size) HG1.out (Nat.le_refl _) (fun k hk => by cases hk))
  have hB1 := HB1.out.size
  clear HO1 HG1
  go_loopw [4] (fun i wr => ∃ (j : Nat) (ys : List Value), j ≤ L.length ∧ i = .int .i64 j ∧ ys.length = L.length ∧ (∀ i, i < j → ys[i]? = (L.map (Value.int .i64))[i]?) ∧
      Row wr w.heap.size 3 (.slice (some ⟨w.heap.size, 0, none⟩) L.length L.length) ys ∧ Below w.heap.size w wr) (fun i _ => L.length - (intOf i).toNat)
  case atStart =>
    obtain ⟨ys, h1, h2⟩ := HM.out
    exact ⟨0, ys, Nat.zero_le _, rfl, h1, fun i hi => absurd hi (Nat.not_lt_zero _), h2, HB1.out⟩
  case round =>
    obtain ⟨j, ys, hj, rfl, hl, hys, hrow, hb⟩ := hrel
    have HL := Lib.hid hl
    have HY := Lib.hid hys
    have HO := Lib.hid hrow
    have HB := Lib.hid hb
    clear hl hys hrow hb
    by_cases hlt : j < L.length
    · obtain ⟨g, off, rfl, hg, hc⟩ : ∃ g off, a = some ⟨g, off, none⟩ ∧ g < w.heap.size ∧ ∀ j x, (L.map (Value.int .i64))[j]? = some x → w.cell? ⟨g, off + j, none⟩ = some x := by
        rcases HV.out with h | h
        · simp at h; subst h; exact absurd hlt (Nat.not_lt_zero _)
        · exact h
      have hx : (L.map (Value.int .i64))[j]? = some (.int .i64 L[j]) := by simp [hlt]
      have c1 := (HB.out.cell (p := ⟨g, off + j, none⟩) hg).trans (hc j _ hx)
      have HX := Lib.hid hx
      clear hx hc
      generalize L[j] = x at c1 HX
      obtain ⟨y0, hy0⟩ : ∃ y0, ys[j]? = some y0 := ⟨_, List.getElem?_eq_getElem (by rw [HL.out]; omega)⟩
      have c2 : wr.cell? ⟨w.heap.size, j, none⟩ = some y0 := by
        obtain ⟨g', cap', hv, _, _, _, _, hc, _⟩ := HO.out.at (by intro e; rw [e] at hy0; simp at hy0)
        simp only [Value.slice.injEq, Option.some.injEq, Addr.mk.injEq] at hv
        obtain ⟨⟨rfl, _⟩, _⟩ := hv
        exact hc j y0 hy0
      have hf : wr.frozen? ⟨w.heap.size, j, none⟩ = false := World.ownsRow.frozenAt (by have := HO.out; unfold Row at this; rw [HL.out] at this; exact this) j
      have HS := Lib.hid (HO.out.stored HL.out.symm j (.int .i64 x))
      clear hy0
      go_wp2
      go_roundw
      case rel =>
        refine ⟨j + 1, ys.set j (.int .i64 x), by omega, by go_num, by simpa using HL.out, ?_, HS.out.1, HB.out.trans (below_of_grown HS.out.2 HB.out.size (fun k hk => by cases hk; exact Nat.le_refl _))⟩
        intro i hi
        by_cases e : i = j
        · subst e
          rw [List.getElem?_set_self (by rw [HL.out]; omega), HX.out]
        · rw [List.getElem?_set_ne (by omega)]
          exact HY.out i (by omega)
      case measure => simp [intOf]; omega
    · go_wp2
      go_ret
      obtain rfl : j = L.length := by omega
      have e : ys = L.map (.int .i64) := by
        apply List.ext_getElem?
        intro i
        by_cases hi : i < L.length
        · exact HY.out i hi
        · rw [List.getElem?_eq_none (by rw [HL.out]; omega), List.getElem?_eq_none (by rw [List.length_map]; omega)]
      exact ⟨_, rfl, by rw [← e]; exact HO.out, HB.out⟩
end Go.Proofs.Ytnbnepeikdieaaa

