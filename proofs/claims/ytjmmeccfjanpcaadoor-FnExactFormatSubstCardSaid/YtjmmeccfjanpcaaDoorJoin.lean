/-
  The contracts of spec.Join and impl.Join.
-/
import Derived.Test.YtjmmeccfjanpcaaDoorBuilder
import Derived.Deep.QuietTactic
import Derived.BigQuiet
namespace Go.Proofs.YtjmmeccfjanpcaaDoor
open Go.RowKit

/-- The bytes of the first k strings of a list, each with one more. -/
def sumTo (L : List ByteArray) : Nat → Nat
  | 0 => 0
  | k + 1 => sumTo L k + (L.getD k ⟨#[]⟩).size
theorem sumTo_mono (L : List ByteArray) {a b : Nat} (h : a ≤ b) : sumTo L a ≤ sumTo L b := by
  induction b with
  | zero => obtain rfl : a = 0 := by omega
            exact Nat.le_refl _
  | succ b ih =>
    by_cases e : a = b + 1
    · subst e; exact Nat.le_refl _
    · exact Nat.le_trans (ih (by omega)) (by rw [sumTo]; omega)
/-- The strings up to k, joined. -/
def joinTo (L : List ByteArray) (sep : ByteArray) : Nat → ByteArray
  | 0 => ⟨#[]⟩
  | k + 1 => (if k = 0 then joinTo L sep k else joinTo L sep k ++ sep) ++ L.getD k ⟨#[]⟩
theorem joinTo_size (L : List ByteArray) (sep : ByteArray) (k : Nat) : (joinTo L sep k).size ≤ sumTo L k + k * sep.size := by
  induction k with
  | zero => exact Nat.zero_le _
  | succ k ih =>
    rw [joinTo, sumTo, ByteArray.size_append, Nat.succ_mul]
    split
    · omega
    · rw [ByteArray.size_append]; omega

theorem strCells_append (a b : ByteArray) : Lib.strCells (a ++ b) = Lib.strCells a ++ Lib.strCells b := by
  unfold Lib.strCells
  rw [ByteArray.data_append, Array.toList_append, List.map_append]
/-- The steps of joining, and how long it gets. -/
theorem join_facts (L : List ByteArray) (sep : ByteArray) (hs : sumTo L L.length ≤ 1073741824) (hp : sep.size ≤ 1048576) :
    ∃ J : Nat → ByteArray, J = joinTo L sep ∧ J 0 = ⟨#[]⟩ ∧ (∀ k x, L[k]? = some x → J (k + 1) = (if k = 0 then J k else J k ++ sep) ++ x) ∧ ∀ k, k ≤ L.length → (J k).size ≤ 1073741824 + k * 1048576 := by
  refine ⟨_, rfl, rfl, fun k x hx => ?_, fun k hk => ?_⟩
  · rw [joinTo, List.getD_eq_getElem?_getD, hx]; rfl
  · have h1 := joinTo_size L sep k
    have h2 := sumTo_mono L hk
    have h3 : k * sep.size ≤ k * 1048576 := Nat.mul_le_mul_left _ hp
    omega

set_option maxHeartbeats 400000 in
theorem specJoin_any (v : Value) (L : List ByteArray) (sep : ByteArray) (w : World) (h : Vals w v (L.map .string)) (hn : L.length ≤ 1048576) (hs : sumTo L L.length ≤ 1073741824) (hp : sep.size ≤ 1048576) :
    Calls Tryd.prog 18 #[v, .string sep] w fun e w' => e = .returned (.string (joinTo L sep L.length)) ∧ w = w' := by
  obtain ⟨J, hJ, h0, hstep, hsize⟩ := join_facts L sep hs hp
  obtain ⟨a, cap, rfl, hv⟩ := h
  rw [List.length_map, ← hJ]
  have HV := Lib.hid hv
  have H0 := Lib.hid h0
  have HT := Lib.hid hstep
  have HZ := Lib.hid hsize
  clear hv h0 hstep hsize hJ
  go_enter Tryd.func18, Tryd.ntmps18
  go_wp2
  go_loop [5, 10] (fun sv i => ∃ k : Nat, k ≤ L.length ∧ i = .int .i64 k ∧ sv = .string (J k)) (fun _ i => L.length - (intOf i).toNat)
  case atStart => exact ⟨0, Nat.zero_le _, rfl, by rw [H0.out]⟩
  case round =>
    obtain ⟨k, hk, rfl, rfl⟩ := hrel
    by_cases hlt : k < L.length
    · obtain ⟨g, off, rfl, hg, hc⟩ : ∃ g off, a = some ⟨g, off, none⟩ ∧ g < w.heap.size ∧ ∀ j x, (L.map Value.string)[j]? = some x → w.cell? ⟨g, off + j, none⟩ = some x := by
        rcases HV.out with h | h
        · simp at h; subst h; exact absurd hlt (Nat.not_lt_zero _)
        · exact h
      have c1 := hc k (.string L[k]) (by simp [hlt])
      have e1 := HT.out k L[k] (by simp)
      have z1 := HZ.out (k + 1) (by omega)
      rw [e1] at z1
      have HE := Lib.hid e1
      clear hc e1
      generalize L[k] = x at c1 HE z1
      generalize J k = y at HE z1
      by_cases hk0 : k = 0
      · rw [if_pos hk0, ByteArray.size_append] at z1
        have HE' : Hid (J (k + 1) = y ++ x) := Lib.hid (by rw [HE.out, if_pos hk0])
        have hk1 : ¬ (0 < (k : Int)) := by omega
        have HK := Lib.hid hk0
        clear hk0 HE
        go_wp2
        go_round
        case rel => exact ⟨k + 1, by omega, by go_num, by rw [HE'.out]⟩
        case measure => simp [intOf]; omega
      · rw [if_neg hk0, ByteArray.size_append, ByteArray.size_append] at z1
        have HE' : Hid (J (k + 1) = y ++ sep ++ x) := Lib.hid (by rw [HE.out, if_neg hk0])
        have hk1 : 0 < (k : Int) := by omega
        clear hk0 HE
        go_wp2
        go_round
        case rel => exact ⟨k + 1, by omega, by go_num, by rw [HE'.out]⟩
        case measure => simp [intOf]; omega
    · go_wp2
      go_ret
      obtain rfl : k = L.length := by omega
      exact ⟨rfl, rfl⟩

set_option maxHeartbeats 400000 in
theorem joined_any (v : Value) (L : List ByteArray) (sep : ByteArray) (w : World) (h : Vals w v (L.map .string)) (hn : L.length ≤ 1048576) (hs : sumTo L L.length ≤ 1073741824) (hp : sep.size ≤ 1048576) :
    Calls Tryd.prog 23 #[.string sep, v] w fun e w' => e = .returned (.string (joinTo L sep L.length)) ∧ Below w.heap.size w w' := by
  obtain ⟨J, hJ, h0, hstep, hsize⟩ := join_facts L sep hs hp
  obtain ⟨a, cap, rfl, hv⟩ := h
  rw [List.length_map, ← hJ]
  have HV := Lib.hid hv
  have H0 := Lib.hid h0
  have HT := Lib.hid hstep
  have HZ := Lib.hid hsize
  clear hv h0 hstep hsize hJ
  go_enter Tryd.func23, Tryd.ntmps23
  go_wp2
  go_loopw [10] (fun i wr => ∃ k : Nat, k ≤ L.length ∧ i = .int .i64 k ∧ Lib.IsBuilder 76 5 w.heap.size w.heap.size (Lib.strCells (J k)) wr ∧ Below w.heap.size w wr) (fun i _ => L.length - (intOf i).toNat)
  case atStart => exact ⟨0, Nat.zero_le _, rfl, by rw [H0.out]; exact Lib.fresh_isBuilder _ _ w, (Below.refl _ _).alloc (Nat.le_refl _) _⟩
  case round =>
    obtain ⟨k, hk, rfl, hbld, hb⟩ := hrel
    have HO := Lib.hid hbld
    have HB := Lib.hid hb
    have hB := hb.size
    clear hbld hb
    by_cases hlt : k < L.length
    · obtain ⟨g, off, rfl, hg, hc⟩ : ∃ g off, a = some ⟨g, off, none⟩ ∧ g < w.heap.size ∧ ∀ j x, (L.map Value.string)[j]? = some x → w.cell? ⟨g, off + j, none⟩ = some x := by
        rcases HV.out with h | h
        · simp at h; subst h; exact absurd hlt (Nat.not_lt_zero _)
        · exact h
      have c1 := (HB.out.cell (p := ⟨g, off + k, none⟩) hg).trans (hc k (.string L[k]) (by simp [hlt]))
      have e1 := HT.out k L[k] (by simp)
      have z1 := HZ.out (k + 1) (by omega)
      rw [e1] at z1
      have HE := Lib.hid e1
      clear hc e1
      generalize L[k] = x at c1 HE z1
      generalize J k = y at HE z1 HO
      by_cases hk0 : k = 0
      · rw [if_pos hk0, ByteArray.size_append] at z1
        have HE' : Hid (J (k + 1) = y ++ x) := Lib.hid (by rw [HE.out, if_pos hk0])
        have hk1 : ¬ (0 < (k : Int)) := by omega
        clear hk0 HE
        go_wp2_with fail
        refine (writeString_any _ _ _ x _ HO.out (by rw [Lib.strCells_length]; omega) (by omega)).mono ?_
        rintro e w2 ⟨rfl, h2, b2⟩
        have H2 := Lib.hid h2
        have B2 := Lib.hid (HB.out.trans b2)
        clear h2 b2
        go_wp2
        go_roundw
        case rel => exact ⟨k + 1, by omega, by go_num, by rw [HE'.out, strCells_append]; exact H2.out, B2.out⟩
        case measure => simp [intOf]; omega
      · rw [if_neg hk0, ByteArray.size_append, ByteArray.size_append] at z1
        have HE' : Hid (J (k + 1) = y ++ sep ++ x) := Lib.hid (by rw [HE.out, if_neg hk0])
        have hk1 : 0 < (k : Int) := by omega
        clear hk0 HE
        go_wp2_with fail
        refine (writeString_any _ _ _ sep _ HO.out (by rw [Lib.strCells_length]; omega) (by omega)).mono ?_
        rintro e w2 ⟨rfl, h2, b2⟩
        have H2 := Lib.hid h2
        have B2 := Lib.hid (HB.out.trans b2)
        have hB2 := B2.out.size
        clear h2 b2
        go_wp2_with fail
        refine (writeString_any _ _ _ x _ H2.out (by rw [List.length_append, Lib.strCells_length, Lib.strCells_length]; omega) (by omega)).mono ?_
        rintro e w3 ⟨rfl, h3, b3⟩
        have H3 := Lib.hid h3
        have B3 := Lib.hid (B2.out.trans b3)
        clear h3 b3
        go_wp2
        go_roundw
        case rel => exact ⟨k + 1, by omega, by go_num, by rw [HE'.out, strCells_append, strCells_append]; exact H3.out, B3.out⟩
        case measure => simp [intOf]; omega
    · obtain rfl : k = L.length := by omega
      have HS := Lib.hid (Tryd.Builder_String_any w.heap.size w.heap.size (J L.length).data.toList wr HO.out hB)
      rw [Lib.mk_data] at HS
      go_wp2_with fail
      refine HS.out.mono ?_
      rintro e w2 ⟨rfl, b2⟩
      have B2 := Lib.hid (HB.out.trans b2)
      clear b2
      go_wp2
      go_ret
      exact ⟨rfl, B2.out⟩

end Go.Proofs.YtjmmeccfjanpcaaDoor

