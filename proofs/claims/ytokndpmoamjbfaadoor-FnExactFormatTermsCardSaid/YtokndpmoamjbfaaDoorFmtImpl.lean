/-
  The contract of impl.FormatInt, and the law of FormatInt walked.
-/
import Derived.Test.YtokndpmoamjbfaaDoorTabs
import Derived.Test.YtokndpmoamjbfaaDoorFmt
namespace Go.Proofs.YtokndpmoamjbfaaDoor
open Go.RowKit

set_option maxHeartbeats 400000 in
theorem implFmt_any (n : Int) (w : World) (ht : Tab w) (h0 : -9223372036854775808 ≤ n) (h1 : n ≤ 9223372036854775807) :
    Calls Tryd.prog 71 #[.int .i64 n] w fun e w' => e = .returned (.string (fmt n)) ∧ Below w.heap.size w w' := by
  have H := Lib.hid (Tryd.strconv_Itoa n h0 h1 w ht)
  have HF : Hid (fmt n = ⟨(Lib.itoa n).toArray⟩) := rfl
  generalize (⟨(Lib.itoa n).toArray⟩ : ByteArray) = s at H HF
  clear h0 h1 ht
  go_enter Tryd.func71, Tryd.ntmps71
  go_wp2_with fail
  refine H.out.mono ?_
  rintro e w' ⟨rfl, k, os, hw⟩
  have HB : Hid (Below w.heap.size w w') := Lib.hid (by rw [hw]; exact Lib.below_grow w.heap.size w (Nat.le_refl _) k os)
  clear hw
  go_wp2
  go_ret
  exact ⟨by rw [HF.out]; rfl, HB.out⟩

theorem wf_i64 {n : Int} (h : (Lit.int .i64 n).wf = true) : -9223372036854775808 ≤ n ∧ n ≤ 9223372036854775807 := by
  simpa [Lit.wf, IntKind.min, IntKind.max, IntKind.signed, IntKind.bits] using h

end Go.Proofs.YtokndpmoamjbfaaDoor

