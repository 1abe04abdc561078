/-
  The contract of spec.ParseInt: it answers 'parseOf' of the text.
-/
import Derived.Test.YtfoegoobcpmddaaDoorFmt
import Derived.Test.YtfoegoobcpmddaaDoorNum
namespace Go.Proofs.YtfoegoobcpmddaaDoor
open Go.RowKit

def NumPost (p : Int × Bool) (w : World) (e : Ending) (w' : World) : Prop := e = .returned (.tuple #[.int .i64 p.1, .bool p.2]) ∧ Below w.heap.size w w'

/-- 's[1:]', under a name of its own. -/
theorem tail_at {P : Program} (t : TypeId) (s : ByteArray) (h : P.underlying t = some .string) (h1 : 1 ≤ s.size) :
    ∃ u : ByteArray, Hid (u.data.toList = s.data.toList.tail) ∧ u.size ≤ s.size ∧ ∀ w : World, (Instr.slice t (.string s) (some (.int .i64 1)) none none).run P w = .ok (.string u) w := by
  refine ⟨s.extract 1 s.size, Lib.hid ?_, ?_, fun w => ?_⟩
  · rw [Lib.extract_data, List.drop_one]
    rw [List.take_of_length_le]
    simp
  · simp
  · simp [go_sem, h]
    intro hh
    omega
/-- The first byte. -/
theorem byte_zero {P : Program} (t : TypeId) (s : ByteArray) (hk : 0 < s.size) (h : P.underlying t = some .string) :
    ∃ c : Int, 0 ≤ c ∧ c < 256 ∧ Hid (c = (s[0].toNat : Int)) ∧ ∀ w : World, (Instr.index t (.string s) (.int .i64 0)).run P w = .ok (.int .u8 c) w := byte_at t s 0 hk h

theorem get_byte (s : ByteArray) (k : Nat) (h : k < s.size) : s.data.toList[k]? = some s[k] := by
  have : k < s.data.toList.length := by simpa using h
  rw [List.getElem?_eq_getElem this]
  rfl
theorem over_iff (a : Nat) (d : Int) (h48 : 48 ≤ d) (h57 : d ≤ 57) : (-(a : Int) < (-9223372036854775808 + (d - 48)).tdiv 10) ↔ 9223372036854775808 < a * 10 + (d - 48) := by
  rw [show -9223372036854775808 + (d - 48) = -(9223372036854775808 - (d - 48)) from by omega, Int.neg_tdiv, Int.tdiv_eq_ediv_of_nonneg (by omega)]
  omega
theorem first_eq (s : ByteArray) (h : 0 < s.size) (hc : s[0].toNat = 45) : 45 :: s.data.toList.tail = s.data.toList := by
  have h0 := get_byte s 0 h
  cases hl : s.data.toList with
  | nil => rw [hl] at h0; simp at h0
  | cons c r =>
    rw [hl] at h0
    simp only [List.getElem?_cons_zero, Option.some.injEq] at h0
    rw [List.tail_cons, h0, UInt8.toNat_inj.1 (show s[0].toNat = (45 : UInt8).toNat from hc)]
theorem first_ne (s : ByteArray) (h : 0 < s.size) (hc : s[0].toNat ≠ 45) : ∀ r, s.data.toList ≠ 45 :: r := by
  intro r e
  have h0 := get_byte s 0 h
  rw [e] at h0
  simp only [List.getElem?_cons_zero, Option.some.injEq] at h0
  rw [← h0] at hc
  exact hc rfl
set_option maxHeartbeats 4000000 in
set_option maxRecDepth 100000 in
theorem specParse_any (s : ByteArray) (w : World) (hs : s.size ≤ 1048576) :
    Calls Tryd.prog 17 #[.string s] w (NumPost (parseOf s.data.toList) w) := by
  by_cases h0 : s.size = 0
  · have hp : parseOf s.data.toList = (0, false) := by
      have hl : s.data.toList = [] := by have := Lib.size_eq s; exact List.length_eq_zero_iff.1 (by omega)
      rw [hl]
      exact (Reads.pos (fun r e => by cases e)).no_len (.inl (Nat.zero_lt_one))
    have HP := Lib.hid hp
    clear hp
    have hz : ¬ (0 < (s.size : Int)) := by omega
    have HZ := Lib.hid h0
    clear h0
    go_enter Tryd.func17, Tryd.ntmps17
    go_wp2
    go_ret2
    exact ⟨by rw [HP.out]; rfl, Below.refl _ _⟩
  · have hz : 0 < (s.size : Int) := by omega
    obtain ⟨c, c0, c1, HC, hix⟩ := byte_zero (P := Tryd.prog) 9 s (by omega) Tryd.underlying9
    cases h45 : (c == 45) with
    | true =>
      obtain ⟨t, HT, htz, hsl⟩ := tail_at (P := Tryd.prog) 9 s Tryd.underlying9 (by omega)
      have HR : Hid (Reads true s.data.toList t.data.toList) := Lib.hid (first_eq s (by omega) (by have := HC.out; simp at h45; omega) ▸ HT.out ▸ Reads.neg)
      by_cases hlen : t.size < 1
      · have HP := Lib.hid (HR.out.no_len (.inl (by have := Lib.size_eq t; omega)))
        go_enter Tryd.func17, Tryd.ntmps17
        go_wp2
        go_ret2
        exact ⟨by rw [HP.out]; rfl, Below.refl _ _⟩
      by_cases hlen2 : 19 < t.size
      · have HP := Lib.hid (HR.out.no_len (.inr (by have := Lib.size_eq t; omega)))
        go_enter Tryd.func17, Tryd.ntmps17
        go_wp2
        go_ret2
        exact ⟨by rw [HP.out]; rfl, Below.refl _ _⟩
      go_enter Tryd.func17, Tryd.ntmps17
      go_wp2
      go_loop [6, 7] (fun nv iv => ∃ k a : Nat, k ≤ t.size ∧ iv = .int .i64 k ∧ nv = .int .i64 (-(a : Int)) ∧ valFrom 0 (t.data.toList.take k) = a ∧ (a : Int) ≤ 9223372036854775808) (fun _ iv => t.size - (intOf iv).toNat)
      case atStart => exact ⟨0, 0, Nat.zero_le _, rfl, rfl, rfl, by omega⟩
      case round =>
        obtain ⟨k, a, hk, rfl, rfl, hval, ha⟩ := hrel
        have HV := Lib.hid hval
        clear hval
        by_cases hlt : k < t.size
        · obtain ⟨d, d0, d1, HD, hjx⟩ := byte_at (P := Tryd.prog) 9 t k hlt Tryd.underlying9
          have HG : Hid (t.data.toList[k]? = some t[k]) := Lib.hid (get_byte t k hlt)
          by_cases hd0 : d < 48
          · have HP := Lib.hid (HR.out.no_digit HG.out (by have := HD.out; omega))
            go_wp2
            go_ret2
            exact ⟨by rw [HP.out]; rfl, Below.refl _ _⟩
          by_cases hd1 : 57 < d
          · have HP := Lib.hid (HR.out.no_digit HG.out (by have := HD.out; omega))
            go_wp2
            go_ret2
            exact ⟨by rw [HP.out]; rfl, Below.refl _ _⟩
          have h48 : 48 ≤ d := by omega
          have h57 : d ≤ 57 := by omega
          by_cases hov : 9223372036854775808 < a * 10 + (d - 48)
          · have hcmp := (over_iff a d h48 h57).2 hov
            have HP := Lib.hid (HR.out.no_room HG.out (by rw [HV.out]; have := HD.out; omega))
            go_wp2
            go_ret2
            exact ⟨by rw [HP.out]; rfl, Below.refl _ _⟩
          · have hcmp := fun x => hov ((over_iff a d h48 h57).1 x)
            go_wp2
            go_round
            case rel =>
              refine ⟨k + 1, a * 10 + (t[k].toNat - 48), by omega, by go_num, ?_, by rw [take_snoc HG.out, valFrom_snoc, HV.out], by have := HD.out; omega⟩
              have := HD.out
              congr 1
              omega
            case measure => simp [intOf]; omega
        · have hva : valFrom 0 t.data.toList = a := by rw [← HV.out, List.take_of_length_le (by have := Lib.size_eq t; omega)]
          have HVA := Lib.hid hva
          clear hva
          by_cases hf : Lib.itoa (-(a : Int)) = s.data.toList
          · have HP := Lib.hid (parse_yes (v := -(a : Int)) (by unfold inI; omega) hf)
            have hbe : ((fmt (-(a : Int))).toList == s.toList) = true := by rw [Lib.toList_data, Lib.toList_data]; unfold fmt; simpa using hf
            go_wp2_with (go_at_call 16; refine (specFmt_any _ _ (by omega) (by omega)).mono ?_; rintro e w' ⟨rfl, hb⟩)
            go_ret2
            exact ⟨by rw [HP.out]; rfl, hb⟩
          · have HP := Lib.hid (HR.out.no_fmt (n := -(a : Int)) (by rw [HVA.out]; rfl) hf)
            have hbe : ((fmt (-(a : Int))).toList == s.toList) = false := by rw [Lib.toList_data, Lib.toList_data]; unfold fmt; simpa using hf
            go_wp2_with (go_at_call 16; refine (specFmt_any _ _ (by omega) (by omega)).mono ?_; rintro e w' ⟨rfl, hb⟩)
            go_ret2
            exact ⟨by rw [HP.out]; rfl, hb⟩
    | false =>
      have HR : Hid (Reads false s.data.toList s.data.toList) := Lib.hid (Reads.pos (first_ne s (by omega) (by have := HC.out; simp at h45; omega)))
      have hlen : ¬ s.size < 1 := by omega
      by_cases hlen2 : 19 < s.size
      · have HP := Lib.hid (HR.out.no_len (.inr (by have := Lib.size_eq s; omega)))
        go_enter Tryd.func17, Tryd.ntmps17
        go_wp2
        go_ret2
        exact ⟨by rw [HP.out]; rfl, Below.refl _ _⟩
      go_enter Tryd.func17, Tryd.ntmps17
      go_wp2
      go_loop [6, 7] (fun nv iv => ∃ k a : Nat, k ≤ s.size ∧ iv = .int .i64 k ∧ nv = .int .i64 (-(a : Int)) ∧ valFrom 0 (s.data.toList.take k) = a ∧ (a : Int) ≤ 9223372036854775808) (fun _ iv => s.size - (intOf iv).toNat)
      case atStart => exact ⟨0, 0, Nat.zero_le _, rfl, rfl, rfl, by omega⟩
      case round =>
        obtain ⟨k, a, hk, rfl, rfl, hval, ha⟩ := hrel
        have HV := Lib.hid hval
        clear hval
        by_cases hlt : k < s.size
        · obtain ⟨d, d0, d1, HD, hjx⟩ := byte_at (P := Tryd.prog) 9 s k hlt Tryd.underlying9
          have HG : Hid (s.data.toList[k]? = some s[k]) := Lib.hid (get_byte s k hlt)
          by_cases hd0 : d < 48
          · have HP := Lib.hid (HR.out.no_digit HG.out (by have := HD.out; omega))
            go_wp2
            go_ret2
            exact ⟨by rw [HP.out]; rfl, Below.refl _ _⟩
          by_cases hd1 : 57 < d
          · have HP := Lib.hid (HR.out.no_digit HG.out (by have := HD.out; omega))
            go_wp2
            go_ret2
            exact ⟨by rw [HP.out]; rfl, Below.refl _ _⟩
          have h48 : 48 ≤ d := by omega
          have h57 : d ≤ 57 := by omega
          by_cases hov : 9223372036854775808 < a * 10 + (d - 48)
          · have hcmp := (over_iff a d h48 h57).2 hov
            have HP := Lib.hid (HR.out.no_room HG.out (by rw [HV.out]; have := HD.out; omega))
            go_wp2
            go_ret2
            exact ⟨by rw [HP.out]; rfl, Below.refl _ _⟩
          · have hcmp := fun x => hov ((over_iff a d h48 h57).1 x)
            go_wp2
            go_round
            case rel =>
              refine ⟨k + 1, a * 10 + (s[k].toNat - 48), by omega, by go_num, ?_, by rw [take_snoc HG.out, valFrom_snoc, HV.out], by have := HD.out; omega⟩
              have := HD.out
              congr 1
              omega
            case measure => simp [intOf]; omega
        · have hva : valFrom 0 s.data.toList = a := by rw [← HV.out, List.take_of_length_le (by have := Lib.size_eq s; omega)]
          have HVA := Lib.hid hva
          clear hva
          by_cases hmin : a = 9223372036854775808
          · have HP := Lib.hid (HR.out.no_sign (by rw [HVA.out]; exact hmin))
            have hm : (-(a : Int) == -9223372036854775808) = true := by simp; omega
            have HM := Lib.hid hmin
            clear hmin
            go_wp2
            go_ret2
            exact ⟨by rw [HP.out]; rfl, Below.refl _ _⟩
          have hm : (-(a : Int) == -9223372036854775808) = false := by simp; omega
          have ha' : (a : Int) ≤ 9223372036854775807 := by omega
          by_cases hf : Lib.itoa (a : Int) = s.data.toList
          · have HP := Lib.hid (parse_yes (v := (a : Int)) (by unfold inI; omega) hf)
            have hbe : ((fmt (a : Int)).toList == s.toList) = true := by rw [Lib.toList_data, Lib.toList_data]; unfold fmt; simpa using hf
            go_wp2_with (go_at_call 16; refine (specFmt_any _ _ (by omega) (by omega)).mono ?_; rintro e w' ⟨rfl, hb⟩)
            go_ret2
            exact ⟨by rw [HP.out]; rfl, hb⟩
          · have HP := Lib.hid (HR.out.no_fmt (n := (a : Int)) (by rw [HVA.out]; rfl) hf)
            have hbe : ((fmt (a : Int)).toList == s.toList) = false := by rw [Lib.toList_data, Lib.toList_data]; unfold fmt; simpa using hf
            go_wp2_with (go_at_call 16; refine (specFmt_any _ _ (by omega) (by omega)).mono ?_; rintro e w' ⟨rfl, hb⟩)
            go_ret2
            exact ⟨by rw [HP.out]; rfl, hb⟩
end Go.Proofs.YtfoegoobcpmddaaDoor
