/-
  The contracts of the laws' helpers on slices of strings: szStringS, toStringS.
-/
import Derived.Test.YtfoegoobcpmddaaJoin
namespace Go.Proofs.Ytfoegoobcpmddaa
open Go.RowKit

def SzPost (L : List ByteArray) (left : Int) (w : World) (e : Ending) (w' : World) : Prop :=
  ∃ r : Int, e = .returned (.int .i64 r) ∧ -1 ≤ r ∧ r ≤ left ∧ (0 ≤ r → r = left - L.length - sumTo L L.length) ∧ w = w'

set_option maxHeartbeats 400000 in
theorem sz_any (v : Value) (L : List ByteArray) (left : Int) (w : World) (h : Vals w v (L.map .string)) (hL : L.length ≤ maxLen) (hs : ∀ s ∈ L, s.size ≤ maxLen) (h0 : 0 ≤ left) (h1 : left ≤ 1048576) :
    Calls Try.prog 14 #[v, .int .i64 left] w (SzPost L left w) := by
  unfold maxLen at hL
  obtain ⟨a, cap, rfl, hv⟩ := h
  rw [List.length_map]
  have HV := Lib.hid hv
  have HS := Lib.hid hs
  clear hv hs
  by_cases hneg : left - L.length < 0
  · go_enter Try.func14, Try.ntmps14
    go_wp2
    go_ret
    exact ⟨-1, rfl, by omega, by omega, fun x => by omega, rfl⟩
  · go_enter Try.func14, Try.ntmps14
    go_wp2
    have hsz := fun k => Lib.hid (show sumTo L (k + 1) = sumTo L k + (L.getD k ⟨#[]⟩).size from rfl)
    have HZ : Hid (sumTo L 0 = 0) := Lib.hid rfl
    have HSZ := Lib.hid hsz
    clear hsz
    generalize hS : sumTo L = S at HZ HSZ
    have HEQ := Lib.hid hS
    clear hS
    go_loop [1, 5] (fun lv i => ∃ k : Nat, k ≤ L.length ∧ i = .int .i64 k ∧ lv = .int .i64 (left - L.length - S k) ∧ 0 ≤ left - L.length - S k) (fun _ i => L.length - (intOf i).toNat)
    case atStart => exact ⟨0, Nat.zero_le _, rfl, by rw [HZ.out]; go_num, by rw [HZ.out]; omega⟩
    case round =>
      obtain ⟨k, hk, rfl, rfl, hsum⟩ := hrel
      by_cases hlt : k < L.length
      · have hx : L.getD k ⟨#[]⟩ = L[k] := by rw [List.getD_eq_getElem?_getD, List.getElem?_eq_getElem hlt]; rfl
        obtain ⟨g, off, rfl, hg, hc⟩ : ∃ g off, a = some ⟨g, off, none⟩ ∧ g < w.heap.size ∧ ∀ j x, (L.map Value.string)[j]? = some x → w.cell? ⟨g, off + j, none⟩ = some x := by
          rcases HV.out with h | h
          · simp at h; subst h; exact absurd hlt (Nat.not_lt_zero _)
          · exact h
        have c1 := hc k (.string L[k]) (by simp [hlt])
        have hs1 : L[k].size ≤ maxLen := HS.out _ (List.getElem_mem hlt)
        have e := (HSZ.out k).out
        rw [hx] at e
        generalize L[k] = x at c1 hs1 e
        unfold maxLen at hs1
        have HE := Lib.hid e
        clear hc e hx
        by_cases hn : left - L.length - S k - x.size < 0
        · go_wp2
          go_ret
          have := HE.out
          refine ⟨-1, rfl, by omega, by omega, fun x => by omega, rfl⟩
        · go_wp2
          go_round
          case rel => exact ⟨k + 1, by omega, by go_num, by rw [HE.out]; go_num, by rw [HE.out]; omega⟩
          case measure => simp [intOf]; omega
      · go_wp2
        go_ret
        obtain rfl : k = L.length := by omega
        exact ⟨_, rfl, by omega, by omega, fun _ => by rw [HEQ.out], rfl⟩

set_option maxHeartbeats 400000 in
theorem toStrings_any (v : Value) (L : List ByteArray) (w : World) (h : Vals w v (L.map .string)) (hL : L.length ≤ 1048576) :
    Calls Try.prog 16 #[v] w fun e w' => ∃ u, e = .returned u ∧ Row w' w.heap.size 9 u (L.map .string) ∧ Below w.heap.size w w' := by
  obtain ⟨i0, hi, hz0, hz1, hz2⟩ := info_parts infoString
  obtain ⟨a, cap, rfl, hv⟩ := h
  rw [List.length_map]
  have HV := Lib.hid hv
  clear hv
  go_enter Try.func16, Try.ntmps16
  go_wp2_with (at_make; refine wpList_make_full _ rfl _ _ 23 rfl w.heap.size 9 i0 _ 1 Try.underlying23 hi hz0 hz1 _ _ _ _ L.length rfl rfl rfl rfl (by rw [hz2]; omega) (by unfold maxLen; omega) (Nat.le_refl _) ?_; intro w1 hown hg; have HO1 := Lib.hid hown; have HG1 := Lib.hid hg; clear hown hg)
  have HM : Hid (∃ ys : List Value, ys.length = L.length ∧ Row w1 w.heap.size 9 (.slice (some ⟨w.heap.size, 0, none⟩) L.length L.length) ys) := by
    refine ⟨(madeCells (Value.cells (.string ⟨#[]⟩)) (L.length * 1)).toList, ?_, ?_⟩
    · have := HO1.out.1; simpa using this
    · have h2 := HO1.out
      have e : (madeCells (Value.cells (.string ⟨#[]⟩)) (L.length * 1)).toList.length = L.length := by have := h2.1; simpa using this
      unfold Row
      rw [e]
      exact h2
  have HB1 := Lib.hid (below_of_grown (B := w.heap.size) HG1.out (Nat.le_refl _) (fun k hk => by cases hk))
  have hB1 := HB1.out.size
  clear HO1 HG1
  go_loopw [4] (fun i wr => ∃ (j : Nat) (ys : List Value), j ≤ L.length ∧ i = .int .i64 j ∧ ys.length = L.length ∧ (∀ i, i < j → ys[i]? = (L.map Value.string)[i]?) ∧
      Row wr w.heap.size 9 (.slice (some ⟨w.heap.size, 0, none⟩) L.length L.length) ys ∧ Below w.heap.size w wr) (fun i _ => L.length - (intOf i).toNat)
  case atStart =>
    obtain ⟨ys, h1, h2⟩ := HM.out
    exact ⟨0, ys, Nat.zero_le _, rfl, h1, fun i hi => absurd hi (Nat.not_lt_zero _), h2, HB1.out⟩
  case round =>
    obtain ⟨j, ys, hj, rfl, hl, hys, hrow, hb⟩ := hrel
    have HL := Lib.hid hl
    have HY := Lib.hid hys
    have HO := Lib.hid hrow
    have HB := Lib.hid hb
    clear hl hys hrow hb
    by_cases hlt : j < L.length
    · obtain ⟨g, off, rfl, hg, hc⟩ : ∃ g off, a = some ⟨g, off, none⟩ ∧ g < w.heap.size ∧ ∀ j x, (L.map Value.string)[j]? = some x → w.cell? ⟨g, off + j, none⟩ = some x := by
        rcases HV.out with h | h
        · simp at h; subst h; exact absurd hlt (Nat.not_lt_zero _)
        · exact h
      have hx : (L.map Value.string)[j]? = some (.string L[j]) := by simp [hlt]
      have c1 := (HB.out.cell (p := ⟨g, off + j, none⟩) hg).trans (hc j _ hx)
      have HX := Lib.hid hx
      clear hx hc
      generalize L[j] = x at c1 HX
      obtain ⟨y0, hy0⟩ : ∃ y0, ys[j]? = some y0 := ⟨_, List.getElem?_eq_getElem (by rw [HL.out]; omega)⟩
      have c2 : wr.cell? ⟨w.heap.size, j, none⟩ = some y0 := by
        obtain ⟨g', cap', hv, _, _, _, _, hc, _⟩ := HO.out.at (by intro e; rw [e] at hy0; simp at hy0)
        simp only [Value.slice.injEq, Option.some.injEq, Addr.mk.injEq] at hv
        obtain ⟨⟨rfl, _⟩, _⟩ := hv
        exact hc j y0 hy0
      have hf : wr.frozen? ⟨w.heap.size, j, none⟩ = false := World.ownsRow.frozenAt (by have := HO.out; unfold Row at this; rw [HL.out] at this; exact this) j
      have HS := Lib.hid (HO.out.stored HL.out.symm j (.string x))
      clear hy0
      go_wp2
      go_roundw
      case rel =>
        refine ⟨j + 1, ys.set j (.string x), by omega, by go_num, by simpa using HL.out, ?_, HS.out.1, HB.out.trans (below_of_grown HS.out.2 HB.out.size (fun k hk => by cases hk; exact Nat.le_refl _))⟩
        intro i hi
        by_cases e : i = j
        · subst e
          rw [List.getElem?_set_self (by rw [HL.out]; omega), HX.out]
        · rw [List.getElem?_set_ne (by omega)]
          exact HY.out i (by omega)
      case measure => simp [intOf]; omega
    · go_wp2
      go_ret
      obtain rfl : j = L.length := by omega
      have e : ys = L.map .string := by
        apply List.ext_getElem?
        intro i
        by_cases hi : i < L.length
        · exact HY.out i hi
        · rw [List.getElem?_eq_none (by rw [HL.out]; omega), List.getElem?_eq_none (by rw [List.length_map]; omega)]
      exact ⟨_, rfl, by rw [← e]; exact HO.out, HB.out⟩
end Go.Proofs.Ytfoegoobcpmddaa
