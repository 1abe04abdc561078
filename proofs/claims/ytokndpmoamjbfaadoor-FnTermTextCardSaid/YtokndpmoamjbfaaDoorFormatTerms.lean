/-
  FormatTerms of the model and of the program.
-/
import Derived.Test.YtokndpmoamjbfaaDoorFormatTerm
import Derived.Test.YtokndpmoamjbfaaDoorListOk
namespace Go.Proofs.YtokndpmoamjbfaaDoor
open Go.RowKit
set_option linter.unusedVariables false
set_option linter.unusedSimpArgs false

noncomputable def strT (t : Tm) : Value := .string (txt t)
def sep1 : ByteArray := ⟨#[32]⟩
theorem take_mapT (L : List Tm) (k : Nat) (x : Tm) (h : L[k]? = some x) : (L.take (k + 1)).map strT = (L.take k).map strT ++ [.string (txt x)] := by
  rw [List.take_add_one, h, List.map_append]; rfl
theorem strT_map (L : List Tm) : L.map strT = (L.map txt).map Value.string := by simp [strT]
theorem txts_sum (L : List Tm) (k : Nat) : sumTo (L.map txt) k ≤ 200000 * k := by
  induction k with
  | zero => exact Nat.le_refl _
  | succ k ih =>
    rw [sumTo]
    have : ((L.map txt).getD k ⟨#[]⟩).size ≤ 200000 := by
      rw [List.getD_eq_getElem?_getD, List.getElem?_map]
      cases L[k]? with
      | none => exact Nat.zero_le _
      | some x => exact txt_size x
    omega
/-- What FormatTerms writes. -/
noncomputable def txts (l : List Tm) : ByteArray := if (l.all okB = true ∧ l.length ≤ 40) then joinTo (l.map txt) sep1 l.length else ⟨#[]⟩
theorem txts_yes {l : List Tm} (h : l.all okB = true) (h2 : l.length ≤ 40) : txts l = joinTo (l.map txt) sep1 l.length := by rw [txts, if_pos ⟨h, h2⟩]
theorem txts_no {l : List Tm} (h : ¬ (l.all okB = true ∧ l.length ≤ 40)) : txts l = ⟨#[]⟩ := by rw [txts, if_neg h]

set_option maxHeartbeats 2000000 in
set_option maxRecDepth 100000 in
theorem specFormatTerms_any (l : List Tm) (V : Value) (w : World) (hA : ArgsAt w V l) (hZ : szL l ≤ 1048576) :
    Calls Tryd.prog 23 #[V] w fun e w' => e = .returned (.string (txts l)) ∧ Below w.heap.size w w' := by
  obtain ⟨i0, hi, hz0, hz1, hz2⟩ := info_parts infoString
  obtain ⟨aa, ca, rfl⟩ := hA.slice
  have HA := Lib.hid hA
  have hll := length_szL l
  clear hA
  go_enter Tryd.func23, Tryd.ntmps23
  go_wp2
  go_loopw [3, 9] (fun u i wr => ∃ k : Nat, k ≤ l.length ∧ i = .int .i64 k ∧ Hid (Row wr w.heap.size 9 u ((l.take k).map strT)) ∧ Hid (Below w.heap.size w wr)) (fun _ i _ => l.length - (intOf i).toNat)
  case atStart => exact ⟨0, Nat.zero_le _, rfl, Lib.hid (World.ownsRow_made w #[] 0 (Nat.le_refl _) (Nat.zero_le _) rfl), Lib.hid ((Below.refl _ _).alloc (Nat.le_refl _) _)⟩
  case round =>
    obtain ⟨k, hk, rfl, HO, HB⟩ := hrel
    have hB := HB.out.size
    by_cases hlt : k < l.length
    · obtain ⟨x, hx⟩ : ∃ x, l[k]? = some x := ⟨_, List.getElem?_eq_getElem hlt⟩
      obtain ⟨g, off, u1, u2, rfl, hg, hn, hc, hax⟩ := HA.out.elem hx
      obtain ⟨c0, c1, c2, c3⟩ := hc wr HB.out
      have HT := Lib.hid (take_mapT l k x hx)
      have hal : Below wr.heap.size wr (wr.alloc (.cells #[.int .i64 x.kind, .int .i64 x.num, .string x.name, .slice u1 x.args.length u2] 26)) := belowAlloc (Below.refl _ _) _
      have hxz : x.sz ≤ 1048576 := by have := sz_at hx; omega
      have HF := Lib.hid (specFormatTerm_any x _ (wr.alloc (.cells #[.int .i64 x.kind, .int .i64 x.num, .string x.name, .slice u1 x.args.length u2] 26)) (hax.kept (belowOn HB.out (Nat.le_refl _) hal)) hxz)
      have HALL := Lib.hid hal
      clear hc hx hax hg hn hal hxz
      generalize txt x = f at HF HT
      go_wp2_with fail
      refine HF.out.mono ?_
      rintro e w1 ⟨rfl, b1⟩
      have HO1 := Lib.hid ((HO.out.kept HALL.out).kept b1)
      have HB1 := Lib.hid (belowOn (belowOn HB.out (Nat.le_refl _) HALL.out) (Nat.le_refl _) b1)
      have hB1 := HB1.out.size
      clear b1 HF HALL c0 c1 c2 c3
      go_wp2_with (at_builtin; refine append_one rfl _ _ 57 rfl w.heap.size 9 i0 _ 16 Tryd.underlying57 hi hz0 hz1 hz2 rfl (by decide) _ _ rfl HO1.out _ rfl rfl (by simp <;> omega) hB1 ?_; intro v' w2 hown2 hb2; have HO2 := Lib.hid hown2; have HB2 := Lib.hid hb2; clear hown2 hb2)
      go_roundw
      case rel => exact ⟨k + 1, by omega, by go_num, Lib.hid (by rw [HT.out]; exact HO2.out), Lib.hid (HB1.out.trans HB2.out)⟩
      case measure => simp [intOf]; omega
    · obtain rfl : k = l.length := by omega
      have HR : Hid (Vals wr u3 ((l.map txt).map .string)) := Lib.hid (by
        have := HO.out.vals
        rw [List.take_length, strT_map] at this
        exact this)
      have HK := Lib.hid (specAllOk_any l _ wr (HA.out.kept HB.out) hZ)
      clear HO
      go_wp2_with fail
      refine HK.out.mono ?_
      rintro e w1 ⟨rfl, b1⟩
      have HB1 := Lib.hid (belowOn HB.out (Nat.le_refl _) b1)
      replace HR := Lib.hid (HR.out.kept b1)
      clear b1 HK
      cases hok : l.all okB with
      | false =>
        have HE := Lib.hid (txts_no (l := l) (fun h => by rw [hok] at h; cases h.1))
        clear hok
        go_wp2
        go_ret
        exact ⟨by rw [HE.out]; rfl, HB1.out⟩
      | true =>
        by_cases h40 : l.length ≤ 40
        · have HE := Lib.hid (txts_yes hok h40)
          have d1 : decide (40 < (l.length : Int)) = false := decide_eq_false (by omega)
          have HJ := Lib.hid (specJoin_any u3 (l.map txt) sep1 w1 HR.out (by rw [List.length_map]; omega) (by rw [List.length_map]; have := txts_sum l l.length; omega) (by decide))
          rw [List.length_map] at HJ
          clear hok h40
          generalize joinTo (l.map txt) sep1 l.length = J at HJ HE
          unfold sep1 at HJ
          go_wp2_with fail
          refine HJ.out.mono ?_
          rintro e w' ⟨rfl, rfl⟩
          go_wp2
          go_ret
          exact ⟨by rw [HE.out]; rfl, HB1.out⟩
        · have HE := Lib.hid (txts_no (l := l) (fun h => h40 h.2))
          have d1 : decide (40 < (l.length : Int)) = true := decide_eq_true (by omega)
          clear hok h40
          go_wp2
          go_ret
          exact ⟨by rw [HE.out]; rfl, HB1.out⟩

set_option maxHeartbeats 2000000 in
set_option maxRecDepth 100000 in
theorem implFormatTerms_any (l : List Tm) (V : Value) (w : World) (ht : Tab w) (hA : ArgsAt w V l) (hZ : szL l ≤ 1048576) :
    Calls Tryd.prog 12 #[V] w fun e w' => e = .returned (.string (txts l)) ∧ Below w.heap.size w w' := by
  obtain ⟨i0, hi, hz0, hz1, hz2⟩ := info_parts infoString
  obtain ⟨aa, ca, rfl⟩ := hA.slice
  have HA := Lib.hid hA
  have HT := Lib.hid ht
  clear hA ht
  by_cases h40 : l.length ≤ 40
  · have d1 : decide (40 < (l.length : Int)) = false := decide_eq_false (by omega)
    go_enter Tryd.func12, Tryd.ntmps12
    go_wp2_with (at_make; refine wpList_make_full _ rfl _ _ 57 rfl w.heap.size 9 i0 _ 1 Tryd.underlying57 hi hz0 hz1 _ _ _ _ l.length rfl rfl rfl rfl (by rw [hz2]; omega) (by unfold maxLen; omega) (Nat.le_refl _) ?_; intro w1 hown hg; have HO1 := Lib.hid hown; have HG1 := Lib.hid hg; clear hown hg)
    have HM : Hid (∃ ys : List Value, ys.length = l.length ∧ Row w1 w.heap.size 9 (.slice (some ⟨w.heap.size, 0, none⟩) l.length l.length) ys) := by
      refine ⟨(madeCells (Value.cells (.string ⟨#[]⟩)) (l.length * 1)).toList, ?_, ?_⟩
      · have := HO1.out.1; simpa using this
      · have h2 := HO1.out
        have e : (madeCells (Value.cells (.string ⟨#[]⟩)) (l.length * 1)).toList.length = l.length := by have := h2.1; simpa using this
        unfold Row
        rw [e]
        exact h2
    have HB1 := Lib.hid (below_of_grown (B := w.heap.size) HG1.out (Nat.le_refl _) (fun k hk => by cases hk))
    have hB1 := HB1.out.size
    clear HO1 HG1 d1
    go_loopw [14] (fun i wr => ∃ (j : Nat) (ys : List Value), j ≤ l.length ∧ i = .int .i64 j ∧ Hid (ys.length = l.length) ∧ Hid (∀ i, i < j → ys[i]? = (l.map strT)[i]?) ∧ Hid (∀ i x, i < j → l[i]? = some x → okB x = true) ∧
        Hid (Row wr w.heap.size 9 (.slice (some ⟨w.heap.size, 0, none⟩) l.length l.length) ys) ∧ Hid (Below w.heap.size w wr)) (fun i _ => l.length - (intOf i).toNat)
    case atStart =>
      obtain ⟨ys, h1, h2⟩ := HM.out
      exact ⟨0, ys, Nat.zero_le _, rfl, Lib.hid h1, Lib.hid (fun i hi => absurd hi (Nat.not_lt_zero _)), Lib.hid (fun i x hi => absurd hi (Nat.not_lt_zero _)), Lib.hid h2, HB1⟩
    case round =>
      obtain ⟨j, ys, hj, rfl, HL, HY, HOKS, HO, HB⟩ := hrel
      have hB := HB.out.size
      clear HM HB1 hB1
      by_cases hlt : j < l.length
      · obtain ⟨x, hx⟩ : ∃ x, l[j]? = some x := ⟨_, List.getElem?_eq_getElem hlt⟩
        obtain ⟨g, off, u1, u2, rfl, hg, hn, hc, hax⟩ := HA.out.elem hx
        obtain ⟨c0, c1, c2, c3⟩ := hc wr HB.out
        have HXJ := Lib.hid hx
        have hal : Below wr.heap.size wr (wr.alloc (.cells #[.int .i64 x.kind, .int .i64 x.num, .string x.name, .slice u1 x.args.length u2] 26)) := belowAlloc (Below.refl _ _) _
        have hxz : x.sz ≤ 1048576 := by have := sz_at hx; omega
        have HBX := Lib.hid (at_box wr #[.int .i64 x.kind, .int .i64 x.num, .string x.name, .slice u1 x.args.length u2] 26)
        have HB1 := Lib.hid (belowOn HB.out (Nat.le_refl _) hal)
        have HK := Lib.hid (implTermOk_any x _ (wr.alloc (.cells #[.int .i64 x.kind, .int .i64 x.num, .string x.name, .slice u1 x.args.length u2] 26)) (hax.kept HB1.out) hxz)
        have HAX := Lib.hid hax
        have HO1 := Lib.hid (HO.out.kept hal)
        clear hc hx hax hg hn hal HO HB
        go_wp2_with fail
        refine HK.out.mono ?_
        rintro e w1 ⟨rfl, b1⟩
        replace HBX := Lib.hid (HBX.out.read b1)
        replace HB1 := Lib.hid (belowOn HB1.out (Nat.le_refl _) b1)
        replace HO1 := Lib.hid (HO1.out.kept b1)
        clear b1 HK c0 c1 c2 c3
        cases hok : okB x with
        | false =>
          have HE := Lib.hid (txts_no (l := l) (fun h => by
            have := List.all_eq_true.1 h.1 x (List.mem_of_getElem? HXJ.out)
            rw [hok] at this
            cases this))
          clear hok
          go_wp2
          go_ret
          exact ⟨by rw [HE.out]; rfl, HB1.out⟩
        | true =>
          have HOX := Lib.hid hok
          have HF := Lib.hid (implFormatTerm_any x _ w1 (HT.out.kept HB1.out) (HAX.out.kept HB1.out) hxz)
          have HX : Hid ((l.map strT)[j]? = some (.string (txt x))) := Lib.hid (by rw [List.getElem?_map, HXJ.out]; rfl)
          obtain ⟨c0, c1, c2, c3⟩ := HBX.out.cells
          have z0 := HBX.out.le
          clear hok
          generalize txt x = f at HF HX
          go_wp2_with fail
          refine HF.out.mono ?_
          rintro e w2 ⟨rfl, b2⟩
          have HO2 := Lib.hid (HO1.out.kept b2)
          have HB2 := Lib.hid (belowOn HB1.out (Nat.le_refl _) b2)
          clear b2 c0 c1 c2 c3 z0 HF
          obtain ⟨y0, hy0⟩ : ∃ y0, ys[j]? = some y0 := ⟨_, List.getElem?_eq_getElem (by rw [HL.out]; omega)⟩
          have c2 : w2.cell? ⟨w.heap.size, j, none⟩ = some y0 := by
            obtain ⟨g', cap', hv, _, _, _, _, hc, _⟩ := HO2.out.at (by intro e; rw [e] at hy0; simp at hy0)
            simp only [Value.slice.injEq, Option.some.injEq, Addr.mk.injEq] at hv
            obtain ⟨⟨rfl, _⟩, _⟩ := hv
            exact hc j y0 hy0
          have hf : w2.frozen? ⟨w.heap.size, j, none⟩ = false := World.ownsRow.frozenAt (by have := HO2.out; unfold Row at this; rw [HL.out] at this; exact this) j
          have HS := Lib.hid (HO2.out.stored HL.out.symm j (.string f))
          clear hy0
          go_wp2
          go_roundw
          case rel =>
            refine ⟨j + 1, ys.set j (.string f), by omega, by go_num, Lib.hid (by simpa using HL.out), Lib.hid ?_, Lib.hid ?_, Lib.hid HS.out.1, Lib.hid (HB2.out.trans (below_of_grown HS.out.2 HB2.out.size (fun k hk => by cases hk; exact Nat.le_refl _)))⟩
            · intro i hi
              by_cases e : i = j
              · subst e
                rw [List.getElem?_set_self (by rw [HL.out]; omega), HX.out]
              · rw [List.getElem?_set_ne (by omega)]
                exact HY.out i (by omega)
            · intro i y hi hy
              by_cases e : i = j
              · subst e
                rw [HXJ.out] at hy
                cases hy
                exact HOX.out
              · exact HOKS.out i y (by omega) hy
          case measure => simp [intOf]; omega
      · obtain rfl : j = l.length := by omega
        have HALL : Hid (l.all okB = true) := Lib.hid (List.all_eq_true.2 fun x hx => by
          obtain ⟨i, hi⟩ := List.mem_iff_getElem?.1 hx
          exact HOKS.out i x (List.getElem?_eq_some_iff.1 hi).1 hi)
        have e : ys = l.map strT := by
          apply List.ext_getElem?
          intro i
          by_cases hi : i < l.length
          · exact HY.out i hi
          · rw [List.getElem?_eq_none (by rw [HL.out]; omega), List.getElem?_eq_none (by rw [List.length_map]; omega)]
        have HR : Hid (Vals wr (.slice (some ⟨w.heap.size, 0, none⟩) l.length l.length) ((l.map txt).map .string)) := Lib.hid (by
          have := HO.out.vals
          rw [e, strT_map] at this
          exact this)
        have HJ := Lib.hid (joined_any _ (l.map txt) sep1 wr HR.out (by rw [List.length_map]; omega) (by rw [List.length_map]; have := txts_sum l l.length; omega) (by decide))
        rw [List.length_map] at HJ
        have HE := Lib.hid (txts_yes HALL.out h40)
        clear e
        generalize joinTo (l.map txt) sep1 l.length = J at HJ HE
        unfold sep1 at HJ
        go_wp2_with fail
        refine HJ.out.mono ?_
        rintro e w2 ⟨rfl, b2⟩
        go_wp2
        go_ret
        exact ⟨by rw [HE.out]; rfl, HB.out.trans (b2.mono hB)⟩
  · have d1 : decide (40 < (l.length : Int)) = true := decide_eq_true (by omega)
    have HE := Lib.hid (txts_no (l := l) (fun h => h40 h.2))
    have hll := length_szL l
    clear h40
    go_enter Tryd.func12, Tryd.ntmps12
    go_wp2
    go_ret
    exact ⟨by rw [HE.out]; rfl, Below.refl _ _⟩
end Go.Proofs.YtokndpmoamjbfaaDoor

