/-
  The model's FormatSubst.
  FormatSubst of the program.
-/
import Derived.Test.YtnbnepeikdieaaaGreatDoorSubstT
import Derived.Test.YtnbnepeikdieaaaGreatDoorTexts
import Derived.Test.YtnbnepeikdieaaaGreatDoorNums
import Derived.Deep.RegionLaw
import Derived.Test.YtnbnepeikdieaaaGreatDoorMapSubst
import Derived.Test.YtnbnepeikdieaaaGreatDoorSubsQ
import Derived.Test.YtnbnepeikdieaaaGreatDoorSpecComp
namespace Go.Proofs.YtnbnepeikdieaaaGreatDoor
open Go.RowKit
set_option linter.unusedVariables false
set_option linter.unusedSimpArgs false

/-- The words of a list of bindings. -/
noncomputable def bdWords (s : List Bd) : List ByteArray := s.flatMap fun b => [⟨#[63]⟩ ++ fmt b.v, b.t.text]
theorem bdWords_length (s : List Bd) : (bdWords s).length = 2 * s.length := by
  induction s with
  | nil => rfl
  | cons b s ih => simp only [bdWords, List.flatMap_cons, List.length_append, List.length_cons, List.length_nil] at ih ⊢; omega
theorem bdWords_take {s : List Bd} {k : Nat} {x : Bd} (h : s[k]? = some x) : (bdWords (s.take (k + 1))).map Value.string = (bdWords (s.take k)).map Value.string ++ [.string (⟨#[63]⟩ ++ fmt x.v), .string x.t.text] := by
  rw [takeE h]
  simp [bdWords]
theorem bdWords_size {s : List Bd} (h : SubstP s) : ∀ a ∈ bdWords s, a.size ≤ 200000 := by
  intro a ha
  obtain ⟨b, hb, hab⟩ := List.mem_flatMap.1 ha
  obtain ⟨i, hi⟩ := List.getElem?_of_mem hb
  obtain ⟨⟨h0, h1⟩, hok⟩ := h.1.1 i b hi
  simp only [List.mem_cons, List.not_mem_nil, or_false] at hab
  rcases hab with rfl | rfl
  · have := fmt_len b.v (by omega) (by omega)
    rw [ByteArray.size_append]
    show 1 + _ ≤ _
    omega
  · have := (text_size b.t.nodes b.t (Nat.le_refl _) hok.2).1
    have := hok.1
    omega
theorem sumTo_all {L : List ByteArray} {M : Nat} (h : ∀ a ∈ L, a.size ≤ M) (k : Nat) : sumTo L k ≤ M * k := by
  induction k with
  | zero => exact Nat.le_refl _
  | succ k ih =>
    rw [sumTo, Nat.mul_succ]
    have : (L.getD k ⟨#[]⟩).size ≤ M := by
      rw [List.getD_eq_getElem?_getD]
      cases hk : L[k]? with
      | none => exact Nat.zero_le _
      | some x => exact h x (List.mem_of_getElem? hk)
    omega
def spB : ByteArray := ⟨#[32]⟩
open Classical in
/-- What FormatSubst writes. -/
noncomputable def fsB (s : List Bd) : ByteArray := if SubstP s then joinTo (bdWords s) spB (bdWords s).length else ⟨#[]⟩
open Classical in
theorem fs_yes {s : List Bd} (h : SubstP s) : fsB s = joinTo (bdWords s) spB (bdWords s).length := by rw [fsB, if_pos h]
open Classical in
theorem fs_no {s : List Bd} (h : ¬ SubstP s) : fsB s = ⟨#[]⟩ := by rw [fsB, if_neg h]

end Go.Proofs.YtnbnepeikdieaaaGreatDoor

namespace Go.Proofs.YtnbnepeikdieaaaGreatDoor
open Go.RowKit
set_option linter.unusedVariables false
set_option linter.unusedSimpArgs false

theorem var_text (v : Int) (h : 0 ≤ v ∧ v ≤ 100000) : txt (varTm v) = ⟨#[63]⟩ ++ fmt v := by
  rw [txt_yes (varTm_ok h), text_leaf rfl, leafT1 rfl]; rfl

set_option maxRecDepth 100000 in
set_option maxHeartbeats 1000000 in
theorem implFormatSubst_any (s : List Bd) (V : Value) (w : World) (ht : Tab w) (hA : ListS bdE w Any V s) (hZ : szB s ≤ 1048576) (hF : fineB s) :
    Calls Tryz.prog 12 #[V] w fun e w' => e = .returned (.string (fsB s)) ∧ Below w.heap.size w w' := by
  obtain ⟨i0, hi, hz0, hz1, hz2⟩ := info_parts infoString
  have HII := Lib.hid (And.intro hi (And.intro hz0 (And.intro hz1 hz2)))
  obtain ⟨a, cap, rfl⟩ := hA.slice
  have hE := eachB_of hZ
  have HS := Lib.hid (implSubstOk_e s _ w hA hE (fun b hb => (hF b hb).2))
  have HT := Lib.hid ht
  have HA := Lib.hid hA
  have HE := Lib.hid hE
  clear hA hE hZ hF ht hi hz0 hz1 hz2
  go_enter Tryz.func12, Tryz.ntmps12
  go_wp2_with fail
  refine HS.out.mono ?_
  rintro e w0 ⟨rfl, hb⟩
  have HW0 := Lib.hid hb
  replace HA := Lib.hid (HA.out.kept hb)
  clear hb HS
  cases hs : substB s with
  | false =>
    have HR := Lib.hid (fs_no (substB_false.1 hs))
    clear hs
    go_wp2
    go_ret
    exact ⟨by rw [HR.out]; rfl, HW0.out⟩
  | true =>
  have hP := substB_true.1 hs
  have hl4 : s.length ≤ 400 := hP.1.2.2
  have HP := Lib.hid hP
  have HR := Lib.hid (fs_yes hP)
  have HSUM := Lib.hid (sumTo_all (bdWords_size hP) (bdWords s).length)
  clear hs hP
  have HRW : Hid (Row w0 w0.heap.size 9 (.slice none 0 0) ((bdWords (s.take 0)).map Value.string)) := Lib.hid (World.ownsRow_nil w0 w0.heap.size 9 1)
  have HW1 : Hid (Below w0.heap.size w0 w0) := Lib.hid (Below.refl _ _)
  go_wp2
  go_loopw [3, 11] (fun lv iv wr => ∃ k : Nat, k ≤ s.length ∧ iv = .int .i64 k ∧ Hid (Row wr w0.heap.size 9 lv ((bdWords (s.take k)).map Value.string)) ∧ Hid (Below w0.heap.size w0 wr)) (fun _ iv _ => s.length - (intOf iv).toNat)
  case atStart => exact ⟨0, Nat.zero_le _, rfl, HRW, HW1⟩
  case round =>
    obtain ⟨k, hk, rfl, HO, HB⟩ := hrel
    obtain ⟨oa, oc, rfl⟩ := HO.out.slice
    clear HRW HW1
    by_cases hlt : k < s.length
    · have hltI : (k : Int) < (s.length : Int) := by omega
      obtain ⟨x, hx⟩ : ∃ x, s[k]? = some x := ⟨_, List.getElem?_eq_getElem hlt⟩
      obtain ⟨g, off, u1, u2, rfl, hg, hq, hc, hu⟩ := HA.out.bd hx
      obtain ⟨d0, d1, d2, d3, d4⟩ := hc wr HB.out
      have HTK := Lib.hid (bdWords_take hx)
      have HU := Lib.hid (at_args (hu.at.kept HB.out))
      have hxz : x.t.sz ≤ 1048576 := by have := HE.out.2 x (List.mem_of_getElem? hx); omega
      obtain ⟨⟨hv0, hv1⟩, hxok⟩ := HP.out.1.1 k x hx
      have hxn : x.t.nodes ≤ 5000 := hxok.1
      have HGD := Lib.hid hxok.2
      have hts : x.t.text.size ≤ 200000 := by have := (text_size x.t.nodes x.t (Nat.le_refl _) hxok.2).1; omega
      have hfs := fmt_len x.v (by omega) (by omega)
      have hkl : ((bdWords (s.take k)).map Value.string).length = 2 * k := by rw [List.length_map, bdWords_length, List.length_take]; omega
      obtain ⟨m, hm⟩ : ∃ m, m = 2 * k := ⟨_, rfl⟩
      have hkl2 : (bdWords (s.take k)).length = m := by rw [List.length_map] at hkl; omega
      rw [← hm] at hkl
      rw [hkl2] at HO ⊢
      have HM := Lib.hid hm
      have hmb : m ≤ 800 := by omega
      generalize (bdWords (s.take k)).map Value.string = xs at HO HTK hkl
      have HXL := Lib.hid hkl
      clear hq hc hu hx hkl hkl2 hxok hm
      go_upto_region 7 with (fail)
      have hal : Below wr.heap.size wr (wr.alloc (.cells #[.int .i64 x.v, .int .i64 x.t.kind, .int .i64 x.t.num, .string x.t.name, .slice u1 x.t.args.length u2] 47)) := belowAlloc (Below.refl _ _) _
      have HBX := Lib.hid (at_box_of wr #[.int .i64 x.v, .int .i64 x.t.kind, .int .i64 x.t.num, .string x.t.name, .slice u1 x.t.args.length u2] 47 wr.heap.size rfl)
      have HO1 := Lib.hid (HO.out.kept hal)
      have HB1 := Lib.hid (belowOn HB.out (Nat.le_refl _) hal)
      have HU1 := Lib.hid (HU.out.read hal)
      clear hal d0 d1 d2 d3 d4 HO HB HU
      generalize hw1 : wr.alloc (.cells #[.int .i64 x.v, .int .i64 x.t.kind, .int .i64 x.t.num, .string x.t.name, .slice u1 x.t.args.length u2] 47) = w1 at HBX HO1 HB1 HU1 ⊢
      clear hw1
      generalize wr.heap.size = nb at HBX ⊢
      have hself : Below w1.heap.size w1 w1 := Below.refl _ _
      have hdrew : Below w1.heap.size w1 w1.drew := hself.drew
      have HCE : Hid (∀ W, Below w1.heap.size w1 W → W.cell? ⟨nb, 0, none⟩ = some (.int .i64 x.v) ∧ W.cell? ⟨nb, 1, none⟩ = some (.int .i64 x.t.kind) ∧ W.cell? ⟨nb, 2, none⟩ = some (.int .i64 x.t.num) ∧ W.cell? ⟨nb, 3, none⟩ = some (.string x.t.name) ∧ W.cell? ⟨nb, 4, none⟩ = some (.slice u1 x.t.args.length u2)) := Lib.hid fun W hW => by
        obtain ⟨y0, y1, y2, y3, y4, _⟩ := box_cells5 (HBX.out.read hW).now
        exact ⟨y0, y1, y2, y3, y4⟩
      obtain ⟨e0, e1, e2, e3, e4⟩ := HCE.out w1 hself
      have HTW := Lib.hid (HT.out.kept (belowOn HW0.out (Nat.le_refl _) HB1.out))
      have HVT := Lib.hid (var_text x.v ⟨hv0, hv1⟩)
      have HTX := Lib.hid (txt_yes (t := x.t) ⟨hxn, HGD.out⟩)
      have HCV : Hid (∀ W, Below w1.heap.size w1 W → Calls Tryz.prog 28 #[.agg #[.int .i64 x.v, .int .i64 x.t.kind, .int .i64 x.t.num, .string x.t.name, .slice u1 x.t.args.length u2]] W fun e w' => e = .returned (.agg #[.int .i64 1, .int .i64 x.v, .string ⟨#[]⟩, .slice none 0 0]) ∧ Below w1.heap.size w1 w') := Lib.hid fun W hW =>
        (variable_any x _ W (HU1.out.read hW).argsAt).mono fun e w' ⟨he, hb⟩ => ⟨he, belowOn hW (Nat.le_refl _) hb⟩
      have HCF : Hid (∀ W, Below w1.heap.size w1 W → Calls Tryz.prog 32 #[.agg #[.int .i64 1, .int .i64 x.v, .string ⟨#[]⟩, .slice none 0 0]] W fun e w' => e = .returned (.string (⟨#[63]⟩ ++ fmt x.v)) ∧ Below w1.heap.size w1 w') := Lib.hid fun W hW => by
        have h := implFormatTerm_any (varTm x.v) (.slice none 0 0) W (HTW.out.kept hW) (.nil _ _) (by show ByteArray.size ⟨#[]⟩ + szL [] ≤ 1048576; decide)
        rw [HVT.out] at h
        exact h.mono fun e w' ⟨he, hb⟩ => ⟨he, belowOn hW (Nat.le_refl _) hb⟩
      have HCT : Hid (∀ W, Below w1.heap.size w1 W → Calls Tryz.prog 32 #[.agg #[.int .i64 x.t.kind, .int .i64 x.t.num, .string x.t.name, .slice u1 x.t.args.length u2]] W fun e w' => e = .returned (.string x.t.text) ∧ Below w1.heap.size w1 w') := Lib.hid fun W hW => by
        have h := implFormatTerm_any x.t _ W (HTW.out.kept hW) (HU1.out.read hW).argsAt hxz
        rw [HTX.out] at h
        exact h.mono fun e w' ⟨he, hb⟩ => ⟨he, belowOn hW (Nat.le_refl _) hb⟩
      have hrow : w1.ownsRow w0.heap.size 9 1 (.slice oa m oc) m xs := by have := HO1.out; unfold Row at this; rwa [HXL.out] at this
      have HROW := Lib.hid hrow
      have HNE := Lib.hid (Row.ge HO1.out)
      have hwz : w0.heap.size ≤ w1.heap.size := HB1.out.size
      clear HVT HTX HTW HT
      generalize x.t.text = tx at HCT HTK hts
      generalize (⟨#[63]⟩ : ByteArray) ++ fmt x.v = fx at HCF HTK
      clear hrow HA HU1 HBX HE HGD hfs
      go_region_law (first
        | (refine step_append_lies _ (by rfl) _ _ _ (by rfl) w0.heap.size 9 i0 _ 1 16 Tryz.underlying54 HII.out.1 HII.out.2.1 HII.out.2.2.1 HII.out.2.2.2 rfl (by omega) (.slice oa m oc) m xs (by rfl) ((row_kept HROW.out HWB.out).alloc _) ⟨wB.heap.size, 0, none⟩ 2 2 [.string fx, .string tx] (by rfl) (by rfl) (World.news_of_block (heap_alloc_new wB _)) (by simp [Value.oneCell']) (by omega) (by unfold maxLen; omega) (by omega) (by have := HWB.out.size; simp; omega) (wB.heap.size + 1) (by simp) ?_; intro gg cap w2 hown1 hgrow hat hlt1; have HAP := Lib.hid (And.intro hown1 (And.intro hgrow (And.intro hat hlt1))); clear hown1 hgrow hat hlt1)
        | (go_simp; go_at_call 28; (with_reducible refine Calls.mono (HCV.out _ ?_) ?_); (assumption); rintro e wB ⟨rfl, hbB⟩; obtain ⟨e0, e1, e2, e3, e4⟩ := HCE.out _ hbB; have HWB := Lib.hid hbB)
        | (go_simp; go_at_call 32; (with_reducible refine Calls.mono (HCF.out _ ?_) ?_); (assumption); rintro e wB ⟨rfl, hbB⟩; obtain ⟨e0, e1, e2, e3, e4⟩ := HCE.out _ hbB; have HWB := Lib.hid hbB)
        | (go_simp; go_at_call 32; (with_reducible refine Calls.mono (HCT.out _ ?_) ?_); (assumption); rintro e wB ⟨rfl, hbB⟩; obtain ⟨e0, e1, e2, e3, e4⟩ := HCE.out _ hbB; have HWB := Lib.hid hbB))
      all_goals
        have HBF := Lib.hid ((belowAlloc (belowOn HB1.out (Nat.le_refl _) HWB.out) (.cells #[.string fx, .string tx] 9)).trans (below_of_grown HAP.out.2.1 (by have := HWB.out.size; simp; omega) HNE.out))
        have HN : Hid (Row w2 w0.heap.size 9 (.slice (some ⟨gg, 0, none⟩) (m + 2) cap) ((bdWords (s.take (k + 1))).map Value.string)) := Lib.hid (by
          have h := HAP.out.1
          rw [HTK.out]
          unfold Row
          rw [List.length_append, HXL.out]
          exact h)
        clear HAP HROW HCV HCF HCT HCE HNE HXL HTK e0 e1 e2 e3 e4 hself hdrew hts hxz hxn hv0 hv1 hg
        go_wp2
        go_roundw
        case rel => exact ⟨k + 1, by omega, by go_num, HN, HBF⟩
        case measure =>
          clear HN HBF
          show s.length - ((k : Int) + 1).toNat < s.length - ((k : Int)).toNat
          omega
    · obtain rfl : k = s.length := by omega
      have HV : Hid (Vals wr (.slice oa (bdWords (s.take s.length)).length oc) ((bdWords s).map .string)) := Lib.hid (by
        have := HO.out.vals
        rw [List.take_length] at this ⊢
        exact this)
      have HF := Lib.hid (belowOn HW0.out (Nat.le_refl _) HB.out)
      rw [List.take_length] at HV ⊢
      have HJ := Lib.hid (joined_any _ (bdWords s) spB wr HV.out (by rw [bdWords_length]; omega) (by have := HSUM.out; rw [bdWords_length] at this ⊢; omega) (by decide))
      generalize joinTo (bdWords s) spB (bdWords s).length = J at HJ HR
      unfold spB at HJ
      clear HO HV HSUM
      go_wp2_with fail
      refine HJ.out.mono ?_
      rintro e w' ⟨rfl, hb⟩
      replace HF := Lib.hid (belowOn HF.out (Nat.le_refl _) hb)
      clear hb
      go_wp2
      go_ret
      exact ⟨by rw [HR.out]; rfl, HF.out⟩

end Go.Proofs.YtnbnepeikdieaaaGreatDoor

