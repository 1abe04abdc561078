/-
  The model's l08Ways: a power, or a number above 512.
-/
import Derived.Test.YtjpkkhhcpcokaaaTrees
import Derived.IntWalk
import Derived.WalkKit
namespace Go.Proofs.Ytjpkkhhcpcokaaa
open Go.RowKit
set_option linter.unusedVariables false
set_option linter.unusedSimpArgs false

def wysK (s : Nat) : Nat → Nat
  | 0 => 1
  | i + 1 => if wysK s i ≤ 512 then wysK s i * s else wysK s i
theorem wysK_pow (s : Nat) (hs : 1 ≤ s) : ∀ i, s ^ i ≤ 512 → wysK s i = s ^ i
  | 0, _ => rfl
  | i + 1, h => by
    have h1 : s ^ i ≤ 512 := Nat.le_trans (Nat.pow_le_pow_right hs (Nat.le_succ i)) h
    rw [wysK, wysK_pow s hs i h1, if_pos h1, Nat.pow_succ]
theorem wysK_big (s : Nat) (hs : 1 ≤ s) : ∀ i, 512 < s ^ i → 512 < wysK s i
  | 0, h => by simp at h
  | i + 1, h => by
    rw [wysK]
    by_cases h1 : s ^ i ≤ 512
    · rw [wysK_pow s hs i h1, if_pos h1, ← Nat.pow_succ]
      exact h
    · have h2 := wysK_big s hs i (by omega)
      rw [if_neg (by omega)]
      exact h2
theorem wysK_stay (s : Nat) {i : Nat} (h : 512 < wysK s i) : ∀ j, wysK s (i + j) = wysK s i
  | 0 => rfl
  | j + 1 => by
    have h2 := wysK_stay s h j
    show (if wysK s (i + j) ≤ 512 then wysK s (i + j) * s else wysK s (i + j)) = _
    rw [h2, if_neg (by omega)]
theorem wysK_max (s : Nat) (hs : s ≤ 8) : ∀ i, wysK s i ≤ 4096
  | 0 => by simp [wysK]
  | i + 1 => by
    have h2 := wysK_max s hs i
    rw [wysK]
    split
    · rename_i h
      exact Nat.le_trans (Nat.mul_le_mul h hs) (by omega)
    · exact h2

set_option maxRecDepth 100000 in
set_option maxHeartbeats 2000000 in
theorem specWays_any (s n : Nat) (hs : s ≤ 8) (hn : n ≤ 1048576) (w : World) :
    Calls Try.prog 76 #[.int .i64 (s : Int), .int .i64 (n : Int), .int .i64 512] w fun e w' => e = .returned (.int .i64 (wysK s n : Nat)) ∧ Below w.heap.size w w' := by
  have HS := Lib.hid hs
  go_enter Try.func76, Try.ntmps76
  go_wp2
  go_loopw [7, 8] (fun kv iv wr => ∃ (i k : Nat), i ≤ n ∧ iv = .int .i64 i ∧ kv = .int .i64 k ∧ Hid (wysK s i = k) ∧ Hid (Below w.heap.size w wr)) (fun _ iv _ => n - (intOf iv).toNat)
  case atStart => exact ⟨0, 1, Nat.zero_le _, rfl, rfl, Lib.hid rfl, Lib.hid (Below.refl _ _)⟩
  case round =>
    obtain ⟨i, k, hi, rfl, rfl, HK, HB⟩ := hrel
    have HMX : Hid (k ≤ 4096) := Lib.hid (by rw [← HK.out]; exact wysK_max s HS.out i)
    by_cases hlt : i < n
    · have hltI : (i : Int) < (n : Int) := by omega
      by_cases hk : k ≤ 512
      · have hkI : (k : Int) ≤ 512 := by omega
        have hm : IntKind.i64.wrap ((k : Int) * (s : Int)) = ((k * s : Nat) : Int) := by
          have h1 : k * s ≤ 512 * 8 := Nat.mul_le_mul hk HS.out
          rw [← Int.natCast_mul]
          exact IntWalk.i64_in _ (by omega)
        have HN : Hid (wysK s (i + 1) = k * s) := Lib.hid (by rw [wysK, HK.out, if_pos hk])
        go_wp2
        go_roundw
        case rel => exact ⟨i + 1, k * s, by omega, by go_num, rfl, HN, HB⟩
        case measure => simp [intOf]; omega
      · have hkI : ¬ (k : Int) ≤ 512 := by omega
        have HR : Hid (wysK s n = k) := Lib.hid (by
          have h := wysK_stay s (i := i) (by rw [HK.out]; omega) (n - i)
          rw [show i + (n - i) = n by omega, HK.out] at h
          exact h)
        go_wp2
        go_ret
        exact ⟨by rw [HR.out]; rfl, HB.out⟩
    · obtain rfl : i = n := by omega
      have hlt2 : ¬ (i : Int) < (i : Int) := by omega
      go_wp2
      go_ret
      exact ⟨by rw [HK.out]; rfl, HB.out⟩
end Go.Proofs.Ytjpkkhhcpcokaaa

