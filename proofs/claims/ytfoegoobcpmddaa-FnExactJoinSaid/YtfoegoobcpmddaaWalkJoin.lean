/-
  The law of Join, walked: it returns true, and nothing that was there is changed.
-/
import Derived.Test.YtfoegoobcpmddaaStrHelp
import Derived.Test.YtfoegoobcpmddaaMark
namespace Go.Proofs.Ytfoegoobcpmddaa
open Go.RowKit

set_option maxHeartbeats 400000 in
theorem walkJoin (w : World) (a : Option Addr) (len cap : Nat) (zs : List ByteArray) (hrow : StrRow w a len cap zs) (sep : ByteArray) (_hs : sep.size ≤ maxLen) :
    Calls Try.prog 5 #[.slice a len cap, .string sep] w fun e w' => e = .returned (.bool true) ∧ Below w.heap.size w w' := by
  obtain ⟨hv, hss, hlen, hmx⟩ := hrow.vals
  generalize zs.take len = L at hv hss hlen
  clear hrow
  have HV := Lib.hid hv
  have HSZ := Lib.hid (sz_any _ L 1048576 w hv (by rw [hlen]; exact hmx) hss (by omega) (by omega))
  clear hv hss hmx
  by_cases h : 1048576 < (sep.size : Int)
  · go_enter Try.func5, Try.ntmps5
    go_wp2
    go_ret
    exact ⟨rfl, Below.refl _ _⟩
  · go_enter Try.func5, Try.ntmps5
    go_wp2_with fail
    refine HSZ.out.mono ?_
    rintro e w' ⟨r, rfl, hr1, hr2, hr, rfl⟩
    by_cases hneg : r < 0
    · clear hr
      go_wp2
      go_ret
      exact ⟨rfl, Below.refl _ _⟩
    · have hr' := hr (by omega)
      have hn : L.length ≤ 1048576 := by omega
      have hsum : sumTo L L.length ≤ 1048576 := by omega
      have hsep : sep.size ≤ 1048576 := by omega
      clear hr hr' hlen
      go_wp2_with fail
      refine (toStrings_any _ L _ HV.out hn).mono ?_
      rintro e w1 ⟨u1, rfl, r1, b1⟩
      have V1 := Lib.hid r1.vals
      have B1 := Lib.hid b1
      clear r1 b1
      go_wp2_with fail
      refine (specJoin_any _ L sep _ V1.out hn (by omega) hsep).mono ?_
      rintro e w' ⟨rfl, rfl⟩
      go_wp2_with fail
      refine (toStrings_any _ L _ (HV.out.kept B1.out) hn).mono ?_
      rintro e w2 ⟨u2, rfl, r2, b2⟩
      have R2 := Lib.hid r2
      have B2 := Lib.hid (B1.out.trans (b2.mono B1.out.size))
      clear r2 b2
      go_wp2_with fail
      refine (implJoin_any _ L sep _ R2.out.vals hn (by omega) hsep).mono ?_
      rintro e w3 ⟨rfl, b3⟩
      have R3 := Lib.hid (R2.out.kept b3)
      have B3 := Lib.hid (B2.out.trans (b3.mono B2.out.size))
      clear b3
      generalize joinTo L sep L.length = J
      go_wp2_with fail
      refine (toStrings_any _ L _ (HV.out.kept B3.out) hn).mono ?_
      rintro e w4 ⟨u4, rfl, r4, b4⟩
      have R4 := Lib.hid (R3.out.kept b4)
      have T4 := Lib.hid r4
      have B4 := Lib.hid (B3.out.trans (b4.mono B3.out.size))
      clear r4 b4
      go_wp2_with fail
      refine (eqStrings_eq _ _ _ _ L _ R4.out T4.out (by unfold maxLen; omega)).mono ?_
      rintro e w5 ⟨rfl, b5⟩
      have B5 := Lib.hid (B4.out.trans (b5.mono B4.out.size))
      clear b5
      go_wp2
      go_ret
      exact ⟨rfl, B5.out⟩
end Go.Proofs.Ytfoegoobcpmddaa
