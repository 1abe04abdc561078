/-
  The contracts of spec.FormatInt and impl.FormatInt: both write 'itoa' of the number.
-/
import Derived.Test.YtokndpmoamjbfaaDoorOwn
import Derived.Test.YtokndpmoamjbfaaDoorRows
import Derived.Lib.ItoaMem
import Derived.Lib.ItoaLen
import Derived.ProofKit
import Derived.WalkLawsBesides
import Derived.Deep.RegionWith
import Derived.IntWalk
namespace Go.Proofs.YtokndpmoamjbfaaDoor
open Go.RowKit

theorem dec_small {m : Nat} (h : m < 10) : Lib.decDigits m = [UInt8.ofNat (48 + m)] := by rw [Lib.decDigits, dif_pos h]
theorem dec_big {m : Nat} (h : ¬ m < 10) : Lib.decDigits m = Lib.decDigits (m / 10) ++ [UInt8.ofNat (48 + m % 10)] := by rw [Lib.decDigits, dif_neg h]
theorem dec_len {m : Nat} (h : (m : Int) ≤ 9223372036854775807) : (Lib.decDigits m).length ≤ 21 := by
  have := Lib.itoa_length_le (m : Int) (by omega) h
  rwa [Lib.itoa_nonneg] at this
theorem byte_of {c : UInt8} {n : Nat} (h : (c.toNat : Int) = n) : c = UInt8.ofNat n := UInt8.toNat_inj.1 (by have := c.toNat_lt; rw [UInt8.toNat_ofNat']; omega)
theorem append_lists (a b : List UInt8) : (⟨a.toArray⟩ : ByteArray) ++ ⟨b.toArray⟩ = ⟨(a ++ b).toArray⟩ := ByteArray.mk_append_mk a b

set_option maxHeartbeats 1000000 in
set_option maxRecDepth 100000 in
theorem fmtNeg_any (k : Nat) : ∀ (m : Nat) (w : World), m ≤ k → 1 ≤ m → (m : Int) ≤ 9223372036854775808 →
    Calls Tryd.prog 63 #[.int .i64 (-(m : Int))] w fun e w' => e = .returned (.string ⟨(45 :: Lib.decDigits m).toArray⟩) ∧ Below w.heap.size w w' := by
  induction k with
  | zero => intro m w h1 h2; omega
  | succ k ih =>
    intro m w hk h1 h2
    by_cases h10 : m < 10
    · have hq : (-((m : Int) / 10) == 0) = true := by simp; omega
      have hp : 0 < (m : Int) := by omega
      obtain ⟨c, HC, hcv⟩ := one_byte (P := Tryd.prog) w 22 9 5 Tryd.underlying22 Tryd.underlying5 Tryd.underlying9 (48 + (m : Int)) (by omega) (by omega)
      go_enter Tryd.func63, Tryd.ntmps63
      go_wp2
      go_ret
      refine ⟨?_, (Below.refl _ _).alloc (Nat.le_refl _) _⟩
      rw [dec_small h10, byte_of (c := c) (n := 48 + m) (by have := HC.out; omega)]
      rfl
    · have hq : (-((m : Int) / 10) == 0) = false := by simp; omega
      have hp : 0 < (m : Int) := by omega
      have HI : Hid (∀ W, Calls Tryd.prog 63 #[.int .i64 (-((m : Int) / 10))] W fun e w' => e = .returned (.string ⟨(45 :: Lib.decDigits (m / 10)).toArray⟩) ∧ Below W.heap.size W w') := by
        intro W
        rw [show -((m : Int) / 10) = -((m / 10 : Nat) : Int) from by omega]
        exact ih (m / 10) W (by omega) (by omega) (by omega)
      obtain ⟨c, HC, hcv⟩ := one_byte_at (P := Tryd.prog) 22 9 5 Tryd.underlying22 Tryd.underlying5 Tryd.underlying9 (48 + (m : Int) % 10) (by omega) (by omega)
      have HD : Hid (Lib.decDigits m = Lib.decDigits (m / 10) ++ [c]) := Lib.hid (by rw [dec_big h10, byte_of (c := c) (n := 48 + m % 10) (by have := HC.out; omega)])
      have hDl : (Lib.decDigits (m / 10)).length ≤ 21 := dec_len (by omega)
      generalize Lib.decDigits (m / 10) = D at HI HD hDl
      clear ih
      go_enter Tryd.func63, Tryd.ntmps63
      go_wp2_with fail
      have ht : (m : Int).tmod 10 = (m : Int) % 10 := Int.tmod_eq_emod_of_nonneg (by omega)
      have w1 : IntKind.i64.wrap (-((m : Int) / 10)) = -((m : Int) / 10) := IntWalk.i64_in _ (by omega)
      have w2 : IntKind.i64.wrap (48 + (m : Int) % 10) = 48 + (m : Int) % 10 := IntWalk.i64_in _ (by omega)
      have w3 : IntKind.u8.wrap (48 + (m : Int) % 10) = 48 + (m : Int) % 10 := IntWalk.u8_in _ (by omega)
      go_region_with (go_at_call 63; refine (HI.out _).mono ?_; rintro e w' ⟨rfl, hb⟩; have hcc := @Below.cell _ _ _ hb ⟨w.heap.size, 0, none⟩)
      all_goals clear ht w1 w2 w3
      all_goals go_wp2
      all_goals go_ret
      all_goals refine ⟨?_, ?_⟩
      all_goals first
        | (rw [HD.out, ← List.cons_append, ← append_lists]; rfl)
        | exact ((Below.refl _ w).drew.trans hb).alloc hb.size _
        | exact ((Below.refl w.heap.size w).alloc (Nat.le_refl _) _).drew.trans (hb.mono (by simp))

set_option maxHeartbeats 1000000 in
set_option maxRecDepth 100000 in
theorem fmtPos_any (m : Nat) (w : World) (h2 : (m : Int) ≤ 9223372036854775807) :
    Calls Tryd.prog 63 #[.int .i64 m] w fun e w' => e = .returned (.string ⟨(Lib.decDigits m).toArray⟩) ∧ Below w.heap.size w w' := by
  have hlen := dec_len h2
  go_enter Tryd.func63, Tryd.ntmps63
  go_wp2
  go_loopw [0, 3] (fun nv sv wr => ∃ (j : Nat) (D : List UInt8), nv = .int .i64 j ∧ sv = .string ⟨D.toArray⟩ ∧ j ≤ m ∧ Lib.decDigits j ++ D = Lib.decDigits m ∧ Below w.heap.size w wr)
      (fun nv _ _ => (intOf nv).toNat)
  case atStart => exact ⟨m, [], rfl, rfl, Nat.le_refl _, List.append_nil _, Below.refl _ _⟩
  case round =>
    obtain ⟨j, D, rfl, rfl, hj, hD, hb⟩ := hrel
    have hDl : D.length ≤ 21 := by
      have := congrArg List.length hD
      rw [List.length_append] at this
      omega
    have HD := Lib.hid hD
    have HB := Lib.hid hb
    have hB := hb.size
    clear hD hb
    by_cases h9 : 9 < j
    · obtain ⟨c, HC, hcv⟩ := one_byte (P := Tryd.prog) wr 22 9 5 Tryd.underlying22 Tryd.underlying5 Tryd.underlying9 (48 + (j : Int) % 10) (by omega) (by omega)
      go_wp2
      go_roundw
      case rel =>
        refine ⟨j / 10, c :: D, by go_num, ?_, by omega, ?_, HB.out.alloc hB _⟩
        · exact congrArg Value.string (append_lists [c] D)
        · rw [← HD.out, dec_big (m := j) (by omega), byte_of (c := c) (n := 48 + j % 10) (by have := HC.out; omega)]
          simp
      case measure => simp [intOf]; omega
    · obtain ⟨c, HC, hcv⟩ := one_byte (P := Tryd.prog) wr 22 9 5 Tryd.underlying22 Tryd.underlying5 Tryd.underlying9 (48 + (j : Int)) (by omega) (by omega)
      go_wp2
      go_ret
      refine ⟨?_, HB.out.alloc hB _⟩
      rw [← HD.out, dec_small (m := j) (by omega), byte_of (c := c) (n := 48 + j) (by have := HC.out; omega), ← append_lists]
      rfl

/-- What FormatInt writes. -/
def fmt (n : Int) : ByteArray := ⟨(Lib.itoa n).toArray⟩
theorem fmt_len (n : Int) (h0 : -9223372036854775808 ≤ n) (h1 : n ≤ 9223372036854775807) : (fmt n).size ≤ 21 := by
  have := Lib.itoa_length_le n h0 h1
  exact this

theorem specFmt_any (n : Int) (w : World) (h0 : -9223372036854775808 ≤ n) (h1 : n ≤ 9223372036854775807) :
    Calls Tryd.prog 63 #[.int .i64 n] w fun e w' => e = .returned (.string (fmt n)) ∧ Below w.heap.size w w' := by
  by_cases hn : n < 0
  · obtain ⟨m, rfl⟩ : ∃ m : Nat, n = -(m : Int) := ⟨n.natAbs, by omega⟩
    unfold fmt
    rw [Lib.itoa_neg m (by omega)]
    exact fmtNeg_any m m w (Nat.le_refl _) (by omega) (by omega)
  · obtain ⟨m, rfl⟩ : ∃ m : Nat, n = (m : Int) := ⟨n.toNat, by omega⟩
    unfold fmt
    rw [Lib.itoa_nonneg m]
    exact fmtPos_any m w h1
end Go.Proofs.YtokndpmoamjbfaaDoor

