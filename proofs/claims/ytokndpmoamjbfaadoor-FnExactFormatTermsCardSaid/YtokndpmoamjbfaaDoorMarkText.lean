/-
  The marks of the laws: 'markText'.
-/
import Derived.Test.YtokndpmoamjbfaaDoorInfo
import Derived.ProofKit
import Derived.WalkLawsBesides
import Derived.Deep.QuietTactic
import Derived.BigQuiet
import Derived.Deep.RegionWith
import Derived.Deep.RegionHeld3
namespace Go.Proofs.YtokndpmoamjbfaaDoor
open Go.RowKit

def markGo : Nat → Nat → ByteArray → ByteArray
  | 0, _, out => out
  | b + 1, k, out => if k = 0 then out else markGo b (k / 10) (⟨#[UInt8.ofNat (48 + k % 10)]⟩ ++ out)

set_option maxHeartbeats 400000 in
theorem markText_any (k : Nat) (w : World) (h0 : 0 < (k : Int)) (hk : (k : Int) ≤ 1099511627776) :
    Calls Tryd.prog 44 #[.int .i64 k] w fun e w' => e = .returned (.string (⟨#[109]⟩ ++ markGo k k ⟨#[]⟩)) ∧ Below w.heap.size w w' := by
  go_enter Tryd.func44, Tryd.ntmps44
  go_wp2
  go_loopw [0, 3] (fun kv ov wr => ∃ (j b : Nat) (out : ByteArray), kv = .int .i64 j ∧ ov = .string out ∧ j ≤ k ∧ j ≤ b ∧ out.size + b ≤ k ∧ markGo b j out = markGo k k ⟨#[]⟩ ∧ Below w.heap.size w wr)
      (fun kv _ _ => (intOf kv).toNat)
  case atStart => exact ⟨k, k, _, rfl, rfl, Nat.le_refl _, Nat.le_refl _, Nat.le_of_eq (Nat.zero_add _), rfl, Below.refl _ _⟩
  case round =>
    obtain ⟨j, b, out, rfl, rfl, h1, h2, h3, h4, hb⟩ := hrel
    have H4 := Lib.hid h4
    clear h4
    have HB := Lib.hid hb
    have hB := hb.size
    clear hb
    by_cases hj : 0 < j
    · obtain ⟨c, HC, hcv⟩ := one_byte (P := Tryd.prog) wr 22 9 5 Tryd.underlying22 Tryd.underlying5 Tryd.underlying9 (48 + (j : Int) % 10) (by omega) (by omega)
      go_wp2
      go_roundw
      case rel =>
        obtain ⟨b, rfl⟩ : ∃ b', b = b' + 1 := ⟨b - 1, by omega⟩
        refine ⟨j / 10, b, ⟨#[c]⟩ ++ out, by go_num, rfl, by omega, by omega, ?_, ?_, (HB.out.alloc hB _)⟩
        · rw [ByteArray.size_append]
          show 1 + out.size + b ≤ k
          omega
        · rw [← H4.out, markGo, if_neg (by omega)]
          rw [show c = UInt8.ofNat (48 + j % 10) from UInt8.toNat_inj.1 (by have := HC.out; rw [UInt8.toNat_ofNat']; omega)]
      case measure => simp [intOf]; omega
    · go_wp2
      go_ret
      refine ⟨?_, HB.out⟩
      obtain rfl : j = 0 := by omega
      rw [← H4.out]
      cases b <;> rfl
end Go.Proofs.YtokndpmoamjbfaaDoor

