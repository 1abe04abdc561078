/-
  The contract of impl.FormatInt, and the law of FormatInt walked.
-/
import Derived.Test.YtfoegoobcpmddaaDoorTabs
import Derived.Test.YtfoegoobcpmddaaDoorFmt
namespace Go.Proofs.YtfoegoobcpmddaaDoor
open Go.RowKit

set_option maxHeartbeats 400000 in
theorem implFmt_any (n : Int) (w : World) (ht : Tab w) (h0 : -9223372036854775808 ≤ n) (h1 : n ≤ 9223372036854775807) :
    Calls Tryd.prog 10 #[.int .i64 n] w fun e w' => e = .returned (.string (fmt n)) ∧ Below w.heap.size w w' := by
  have H := Lib.hid (Tryd.strconv_Itoa n h0 h1 w ht)
  have HF : Hid (fmt n = ⟨(Lib.itoa n).toArray⟩) := rfl
  generalize (⟨(Lib.itoa n).toArray⟩ : ByteArray) = s at H HF
  clear h0 h1 ht
  go_enter Tryd.func10, Tryd.ntmps10
  go_wp2_with fail
  refine H.out.mono ?_
  rintro e w' ⟨rfl, k, os, hw⟩
  have HB : Hid (Below w.heap.size w w') := Lib.hid (by rw [hw]; exact Lib.below_grow w.heap.size w (Nat.le_refl _) k os)
  clear hw
  go_wp2
  go_ret
  exact ⟨by rw [HF.out]; rfl, HB.out⟩

theorem wf_i64 {n : Int} (h : (Lit.int .i64 n).wf = true) : -9223372036854775808 ≤ n ∧ n ≤ 9223372036854775807 := by
  simpa [Lit.wf, IntKind.min, IntKind.max, IntKind.signed, IntKind.bits] using h

set_option maxHeartbeats 400000 in
theorem walkFormatInt (w : World) (ht : Tab w) (n : Int) (hn : (Lit.int .i64 n).wf = true) :
    Calls Tryd.prog 4 #[.int .i64 n] w fun e w' => e = .returned (.bool true) ∧ Below w.heap.size w w' := by
  obtain ⟨h0, h1⟩ := wf_i64 hn
  have HS := Lib.hid (specFmt_any n w h0 h1)
  have HI : Hid (∀ W, Tab W → Calls Tryd.prog 10 #[.int .i64 n] W fun e w' => e = .returned (.string (fmt n)) ∧ Below W.heap.size W w') := Lib.hid (fun W hW => implFmt_any n W hW h0 h1)
  generalize fmt n = s at HS HI
  have HT := Lib.hid ht
  clear hn h0 h1 ht
  go_enter Tryd.func4, Tryd.ntmps4
  go_wp2_with fail
  refine HS.out.mono ?_
  rintro e w1 ⟨rfl, b1⟩
  have B1 := Lib.hid b1
  clear b1
  go_wp2_with fail
  refine (HI.out _ (HT.out.kept B1.out)).mono ?_
  rintro e w2 ⟨rfl, b2⟩
  have B2 := Lib.hid (B1.out.trans (b2.mono B1.out.size))
  clear b2
  go_wp2
  go_ret
  exact ⟨rfl, B2.out⟩
end Go.Proofs.YtfoegoobcpmddaaDoor
