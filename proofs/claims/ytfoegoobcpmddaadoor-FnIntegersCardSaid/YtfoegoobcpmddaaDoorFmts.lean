/-
  The contracts of spec.FormatInts and impl.FormatInts, and the law of FormatInts walked.
-/
import Derived.Test.YtfoegoobcpmddaaDoorFmtImpl
import Derived.Test.YtfoegoobcpmddaaDoorJoin
import Derived.Test.YtfoegoobcpmddaaDoorInts
namespace Go.Proofs.YtfoegoobcpmddaaDoor
open Go.RowKit

def strOf (n : Int) : Value := .string (fmt n)
def space : ByteArray := ⟨#[32]⟩
/-- What FormatInts writes. -/
def fmts (L : List Int) : ByteArray := joinTo (L.map fmt) space L.length
def allI (L : List Int) : Prop := ∀ n ∈ L, -9223372036854775808 ≤ n ∧ n ≤ 9223372036854775807
theorem fmts_sum (L : List Int) (h : allI L) (k : Nat) (hk : k ≤ L.length) : sumTo (L.map fmt) k ≤ 21 * k := by
  induction k with
  | zero => exact Nat.le_refl _
  | succ k ih =>
    have hx : (L.map fmt).getD k ⟨#[]⟩ = fmt L[k] := by rw [List.getD_eq_getElem?_getD, List.getElem?_map, List.getElem?_eq_getElem (by omega)]; rfl
    have hb := h L[k] (List.getElem_mem _)
    have := fmt_len L[k] hb.1 hb.2
    rw [sumTo, hx]
    have := ih (by omega)
    omega
theorem strs_map (L : List Int) : L.map strOf = (L.map fmt).map Value.string := by simp [strOf]
theorem take_map (L : List Int) (k : Nat) (h : k < L.length) : (L.take (k + 1)).map strOf = (L.take k).map strOf ++ [strOf L[k]] := by
  rw [List.take_add_one, List.getElem?_eq_getElem h, List.map_append]; rfl

set_option maxHeartbeats 400000 in
theorem specFmts_any (v : Value) (L : List Int) (w : World) (h : Vals w v (L.map (.int .i64))) (hL : L.length ≤ 1048576) (hb : allI L) :
    Calls Tryd.prog 18 #[v] w fun e w' => e = .returned (.string (fmts L)) ∧ Below w.heap.size w w' := by
  obtain ⟨i0, hi, hz0, hz1, hz2⟩ := info_parts infoString
  obtain ⟨a, cap, rfl, hv⟩ := h
  rw [List.length_map]
  have HV := Lib.hid hv
  have HA := Lib.hid hb
  have HS := Lib.hid (fmts_sum L hb L.length (Nat.le_refl _))
  clear hv hb
  go_enter Tryd.func18, Tryd.ntmps18
  go_wp2
  go_loopw [3, 9] (fun u i wr => ∃ k : Nat, k ≤ L.length ∧ i = .int .i64 k ∧ Row wr w.heap.size 9 u ((L.take k).map strOf) ∧ Below w.heap.size w wr) (fun _ i _ => L.length - (intOf i).toNat)
  case atStart => exact ⟨0, Nat.zero_le _, rfl, World.ownsRow_made w #[] 0 (Nat.le_refl _) (Nat.zero_le _) rfl, (Below.refl _ _).alloc (Nat.le_refl _) _⟩
  case round =>
    obtain ⟨k, hk, rfl, hrow, hb⟩ := hrel
    have HO := Lib.hid hrow
    have HB := Lib.hid hb
    have hB := hb.size
    clear hrow hb
    by_cases hlt : k < L.length
    · obtain ⟨g, off, rfl, hg, hc⟩ : ∃ g off, a = some ⟨g, off, none⟩ ∧ g < w.heap.size ∧ ∀ j x, (L.map (Value.int .i64))[j]? = some x → w.cell? ⟨g, off + j, none⟩ = some x := by
        rcases HV.out with h | h
        · simp at h; subst h; exact absurd hlt (Nat.not_lt_zero _)
        · exact h
      have c1 := (HB.out.cell (p := ⟨g, off + k, none⟩) hg).trans (hc k (.int .i64 L[k]) (by simp [hlt]))
      have hxb := HA.out L[k] (List.getElem_mem hlt)
      have HT := Lib.hid (take_map L k hlt)
      have HF := Lib.hid (specFmt_any L[k] wr hxb.1 hxb.2)
      have HN : Hid (strOf L[k] = .string (fmt L[k])) := rfl
      clear hc hxb
      generalize fmt L[k] = f at HF HN
      generalize L[k] = x at c1 HT HF HN
      go_wp2_with fail
      refine HF.out.mono ?_
      rintro e w1 ⟨rfl, b1⟩
      have HO1 := Lib.hid (HO.out.kept b1)
      have HB1 := Lib.hid (HB.out.trans (b1.mono hB))
      have hB1 := HB1.out.size
      clear b1
      go_wp2_with (at_builtin; refine append_one rfl _ _ 31 rfl w.heap.size 9 i0 _ 16 Tryd.underlying31 hi hz0 hz1 hz2 rfl (by decide) _ _ rfl HO1.out _ rfl rfl (by simp; omega) hB1 ?_; intro v' w2 hown2 hb2; have HO2 := Lib.hid hown2; have HB2 := Lib.hid hb2; clear hown2 hb2)
      go_roundw
      case rel => exact ⟨k + 1, by omega, by go_num, by rw [HT.out, HN.out]; exact HO2.out, HB1.out.trans HB2.out⟩
      case measure => simp [intOf]; omega
    · obtain rfl : k = L.length := by omega
      have HR : Hid (Vals wr u3 ((L.map fmt).map .string)) := Lib.hid (by
        have := HO.out.vals
        rw [List.take_length, strs_map] at this
        exact this)
      have HJ := Lib.hid (specJoin_any u3 (L.map fmt) space wr HR.out (by rw [List.length_map]; exact hL) (by rw [List.length_map]; have := HS.out; omega) (by decide))
      rw [List.length_map] at HJ
      have HF : Hid (fmts L = joinTo (L.map fmt) space L.length) := rfl
      generalize joinTo (L.map fmt) space L.length = J at HJ HF
      unfold space at HJ
      go_wp2_with fail
      refine HJ.out.mono ?_
      rintro e w' ⟨rfl, rfl⟩
      go_wp2
      go_ret
      exact ⟨by rw [HF.out]; rfl, HB.out⟩

set_option maxHeartbeats 1000000 in
theorem implFmts_any (v : Value) (L : List Int) (w : World) (ht : Tab w) (h : Vals w v (L.map (.int .i64))) (hL : L.length ≤ 1048576) (hb : allI L) :
    Calls Tryd.prog 12 #[v] w fun e w' => e = .returned (.string (fmts L)) ∧ Below w.heap.size w w' := by
  obtain ⟨i0, hi, hz0, hz1, hz2⟩ := info_parts infoString
  obtain ⟨a, cap, rfl, hv⟩ := h
  rw [List.length_map]
  have HV := Lib.hid hv
  have HA := Lib.hid hb
  have HT := Lib.hid ht
  have HS := Lib.hid (fmts_sum L hb L.length (Nat.le_refl _))
  clear hv hb ht
  go_enter Tryd.func12, Tryd.ntmps12
  go_wp2_with (at_make; refine wpList_make_full _ rfl _ _ 31 rfl w.heap.size 9 i0 _ 1 Tryd.underlying31 hi hz0 hz1 _ _ _ _ L.length rfl rfl rfl rfl (by rw [hz2]; omega) (by unfold maxLen; omega) (Nat.le_refl _) ?_; intro w1 hown hg; have HO1 := Lib.hid hown; have HG1 := Lib.hid hg; clear hown hg)
  have HM : Hid (∃ ys : List Value, ys.length = L.length ∧ Row w1 w.heap.size 9 (.slice (some ⟨w.heap.size, 0, none⟩) L.length L.length) ys) := by
    refine ⟨(madeCells (Value.cells (.string ⟨#[]⟩)) (L.length * 1)).toList, ?_, ?_⟩
    · have := HO1.out.1; simpa using this
    · have h2 := HO1.out
      have e : (madeCells (Value.cells (.string ⟨#[]⟩)) (L.length * 1)).toList.length = L.length := by have := h2.1; simpa using this
      unfold Row
      rw [e]
      exact h2
  have HB1 := Lib.hid (below_of_grown (B := w.heap.size) HG1.out (Nat.le_refl _) (fun k hk => by cases hk))
  have hB1 := HB1.out.size
  clear HO1 HG1
  go_loopw [11] (fun i wr => ∃ (j : Nat) (ys : List Value), j ≤ L.length ∧ i = .int .i64 j ∧ ys.length = L.length ∧ (∀ i, i < j → ys[i]? = (L.map strOf)[i]?) ∧
      Row wr w.heap.size 9 (.slice (some ⟨w.heap.size, 0, none⟩) L.length L.length) ys ∧ Below w.heap.size w wr) (fun i _ => L.length - (intOf i).toNat)
  case atStart =>
    obtain ⟨ys, h1, h2⟩ := HM.out
    exact ⟨0, ys, Nat.zero_le _, rfl, h1, fun i hi => absurd hi (Nat.not_lt_zero _), h2, HB1.out⟩
  case round =>
    obtain ⟨j, ys, hj, rfl, hl, hys, hrow, hb⟩ := hrel
    have HL := Lib.hid hl
    have HY := Lib.hid hys
    have HO := Lib.hid hrow
    have HB := Lib.hid hb
    have hB := hb.size
    clear hl hys hrow hb
    by_cases hlt : j < L.length
    · obtain ⟨g, off, rfl, hg, hc⟩ : ∃ g off, a = some ⟨g, off, none⟩ ∧ g < w.heap.size ∧ ∀ j x, (L.map (Value.int .i64))[j]? = some x → w.cell? ⟨g, off + j, none⟩ = some x := by
        rcases HV.out with h | h
        · simp at h; subst h; exact absurd hlt (Nat.not_lt_zero _)
        · exact h
      have c1 := (HB.out.cell (p := ⟨g, off + j, none⟩) hg).trans (hc j (.int .i64 L[j]) (by simp [hlt]))
      have hxb := HA.out L[j] (List.getElem_mem hlt)
      have HX : Hid ((L.map strOf)[j]? = some (.string (fmt L[j]))) := Lib.hid (by rw [List.getElem?_map, List.getElem?_eq_getElem hlt]; rfl)
      have HF := Lib.hid (implFmt_any L[j] wr (HT.out.kept HB.out) hxb.1 hxb.2)
      clear hc hxb
      generalize fmt L[j] = f at HF HX
      generalize L[j] = x at c1 HF
      go_wp2_with fail
      refine HF.out.mono ?_
      rintro e w2 ⟨rfl, b2⟩
      have HO2 := Lib.hid (HO.out.kept b2)
      have HB2 := Lib.hid (HB.out.trans (b2.mono hB))
      clear b2
      obtain ⟨y0, hy0⟩ : ∃ y0, ys[j]? = some y0 := ⟨_, List.getElem?_eq_getElem (by rw [HL.out]; omega)⟩
      have c2 : w2.cell? ⟨w.heap.size, j, none⟩ = some y0 := by
        obtain ⟨g', cap', hv, _, _, _, _, hc, _⟩ := HO2.out.at (by intro e; rw [e] at hy0; simp at hy0)
        simp only [Value.slice.injEq, Option.some.injEq, Addr.mk.injEq] at hv
        obtain ⟨⟨rfl, _⟩, _⟩ := hv
        exact hc j y0 hy0
      have hf : w2.frozen? ⟨w.heap.size, j, none⟩ = false := World.ownsRow.frozenAt (by have := HO2.out; unfold Row at this; rw [HL.out] at this; exact this) j
      have HS := Lib.hid (HO2.out.stored HL.out.symm j (.string f))
      clear hy0
      go_wp2
      go_roundw
      case rel =>
        refine ⟨j + 1, ys.set j (.string f), by omega, by go_num, by simpa using HL.out, ?_, HS.out.1, HB2.out.trans (below_of_grown HS.out.2 HB2.out.size (fun k hk => by cases hk; exact Nat.le_refl _))⟩
        intro i hi
        by_cases e : i = j
        · subst e
          rw [List.getElem?_set_self (by rw [HL.out]; omega), HX.out]
        · rw [List.getElem?_set_ne (by omega)]
          exact HY.out i (by omega)
      case measure => simp [intOf]; omega
    · obtain rfl : j = L.length := by omega
      have e : ys = L.map strOf := by
        apply List.ext_getElem?
        intro i
        by_cases hi : i < L.length
        · exact HY.out i hi
        · rw [List.getElem?_eq_none (by rw [HL.out]; omega), List.getElem?_eq_none (by rw [List.length_map]; omega)]
      have HR : Hid (Vals wr (.slice (some ⟨w.heap.size, 0, none⟩) L.length L.length) ((L.map fmt).map .string)) := Lib.hid (by
        have := HO.out.vals
        rw [e, strs_map] at this
        exact this)
      have HJ := Lib.hid (joined_any _ (L.map fmt) space wr HR.out (by rw [List.length_map]; exact hL) (by rw [List.length_map]; have := HS.out; omega) (by decide))
      rw [List.length_map] at HJ
      have HF : Hid (fmts L = joinTo (L.map fmt) space L.length) := rfl
      clear e
      generalize joinTo (L.map fmt) space L.length = J at HJ HF
      unfold space at HJ
      go_wp2_with fail
      refine HJ.out.mono ?_
      rintro e w2 ⟨rfl, b2⟩
      go_wp2
      go_ret
      exact ⟨by rw [HF.out]; rfl, HB.out.trans (b2.mono hB)⟩

set_option maxHeartbeats 400000 in
theorem walkFormatInts (w : World) (ht : Tab w) (a : Option Addr) (len cap : Nat) (zs : List Int) (hrow : IntRow w a len cap zs) :
    Calls Tryd.prog 6 #[.slice a len cap] w fun e w' => e = .returned (.bool true) ∧ Below w.heap.size w w' := by
  obtain ⟨hv, hws, hlen, hmx⟩ := hrow.vals
  generalize zs.take len = L at hv hws hlen
  have hb : allI L := fun n hn => wf_i64 (hws n hn)
  clear hrow hws
  unfold maxLen at hmx
  have HT := Lib.hid ht
  have HV := Lib.hid hv
  have HA := Lib.hid hb
  clear ht hv hb
  by_cases h : 1048576 < (len : Int)
  · go_enter Tryd.func6, Tryd.ntmps6
    go_wp2
    go_ret
    exact ⟨rfl, Below.refl _ _⟩
  · have hn : L.length ≤ 1048576 := by omega
    clear hlen
    go_enter Tryd.func6, Tryd.ntmps6
    go_wp2_with fail
    refine (toInts_any _ L _ HV.out hn).mono ?_
    rintro e w1 ⟨u1, rfl, r1, b1⟩
    have V1 := Lib.hid r1.vals
    have B1 := Lib.hid b1
    clear r1 b1
    go_wp2_with fail
    refine (specFmts_any _ L _ V1.out hn HA.out).mono ?_
    rintro e w2 ⟨rfl, b2⟩
    have B2 := Lib.hid (B1.out.trans (b2.mono B1.out.size))
    clear b2
    go_wp2_with fail
    refine (toInts_any _ L _ (HV.out.kept B2.out) hn).mono ?_
    rintro e w3 ⟨u3, rfl, r3, b3⟩
    have R3 := Lib.hid r3
    have B3 := Lib.hid (B2.out.trans (b3.mono B2.out.size))
    clear r3 b3
    go_wp2_with fail
    refine (implFmts_any _ L _ (HT.out.kept B3.out) R3.out.vals hn HA.out).mono ?_
    rintro e w4 ⟨rfl, b4⟩
    have R4 := Lib.hid (R3.out.kept b4)
    have B4 := Lib.hid (B3.out.trans (b4.mono B3.out.size))
    clear b4
    generalize fmts L = J
    go_wp2_with fail
    refine (toInts_any _ L _ (HV.out.kept B4.out) hn).mono ?_
    rintro e w5 ⟨u5, rfl, r5, b5⟩
    have R5 := Lib.hid (R4.out.kept b5)
    have T5 := Lib.hid r5
    have B5 := Lib.hid (B4.out.trans (b5.mono B4.out.size))
    clear r5 b5
    go_wp2_with fail
    refine (eqInts_eq _ _ _ _ L _ R5.out T5.out (by unfold maxLen; omega)).mono ?_
    rintro e w6 ⟨rfl, b6⟩
    have B6 := Lib.hid (B5.out.trans (b6.mono B5.out.size))
    clear b6
    go_wp2
    go_ret
    exact ⟨rfl, B6.out⟩
end Go.Proofs.YtfoegoobcpmddaaDoor
