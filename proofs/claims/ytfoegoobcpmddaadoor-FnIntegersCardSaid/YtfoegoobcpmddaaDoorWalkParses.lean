/-
  The law of ParseInts, walked: it returns true, and nothing that was there is changed; what its card asks of the listed variables.
-/
import Derived.Test.YtfoegoobcpmddaaDoorParsesImpl
import Derived.Test.YtfoegoobcpmddaaDoorInts
namespace Go.Proofs.YtfoegoobcpmddaaDoor
open Go.RowKit

theorem pl_len (l : List UInt8) : (pl l).length ≤ l.length + 1 := by
  induction l with
  | nil => exact Nat.le_refl _
  | cons c r ih =>
    rw [pl]
    split
    · simp; omega
    · split
      · simp
      · rename_i h t heq
        rw [heq] at ih
        simp at ih ⊢
        omega
theorem parses_len (s : ByteArray) : (parsesOf s.data.toList).1.length ≤ s.size + 1 := by
  have h1 := pl_len s.data.toList
  have h2 := Lib.size_eq s
  unfold parsesOf
  split
  · exact Nat.zero_le _
  · unfold numsOf
    split
    · simp only [List.length_map]; omega
    · exact Nat.zero_le _

set_option maxHeartbeats 400000 in
theorem walkParseInts (w : World) (hvar : Vars w) (s : ByteArray) (_hs : s.size ≤ maxLen) :
    Calls Tryd.prog 7 #[.string s] w fun e w' => e = .returned (.bool true) ∧ Below w.heap.size w w' := by
  have HV := Lib.hid hvar
  clear hvar
  by_cases h : 1048576 < (s.size : Int)
  · go_enter Tryd.func7, Tryd.ntmps7
    go_wp2
    go_ret
    exact ⟨rfl, Below.refl _ _⟩
  · have hs' : s.size ≤ 1048576 := by omega
    have hlen := parses_len s
    have hS := fun W => specParses_any s W hs'
    have hI := fun W hW => implParses_any s W hW hs'
    generalize parsesOf s.data.toList = T at hlen hS hI
    obtain ⟨L, ok⟩ := T
    simp only at hlen
    have HS := Lib.hid hS
    have HI := Lib.hid hI
    clear hS hI
    go_enter Tryd.func7, Tryd.ntmps7
    go_wp2_with fail
    refine (HS.out _).mono ?_
    rintro e w1 ⟨v1, rfl, r1, b1⟩
    have R1 := Lib.hid r1
    have B1 := Lib.hid b1
    clear r1 b1
    go_wp2_with fail
    refine (HI.out _ (HV.out.kept B1.out)).mono ?_
    rintro e w2 ⟨v2, rfl, r2, b2⟩
    have R2 := Lib.hid r2
    have B2 := Lib.hid (B1.out.trans (b2.mono B1.out.size))
    have R1' := Lib.hid (R1.out.kept b2)
    clear r2 b2
    go_wp2_with fail
    refine (eqInts_eq v2 v1 _ _ L _ R2.out R1'.out (by unfold maxLen; omega)).mono ?_
    rintro e w3 ⟨rfl, b3⟩
    have R3 := Lib.hid (R2.out.kept b3)
    have S3 := Lib.hid (R1'.out.kept b3)
    have B3 := Lib.hid (B2.out.trans (b3.mono B2.out.size))
    clear b3
    go_wp2_with fail
    refine (markInts_one v2 _ L.length _ _ R3.out (by simp [cellsOf]) (by omega)).mono ?_
    rintro e w4 ⟨rfl, r4, g4⟩
    have R4 := Lib.hid r4
    have S4 := Lib.hid (S3.out.grown g4 (R1.out.apart R2.out (Nat.le_refl _)))
    have B4 := Lib.hid (B3.out.trans (below_of_grown g4 B3.out.size (fun k hk => by have := R2.out.ge k hk; have := B1.out.size; omega)))
    clear r4 g4
    go_wp2_with fail
    refine (heldInts_one v2 _ L.length _ R4.out (by omega)).mono ?_
    rintro e w5 ⟨rfl, b5⟩
    have R5 := Lib.hid (R4.out.kept b5)
    have S5 := Lib.hid (S4.out.kept b5)
    have B5 := Lib.hid (B4.out.trans (b5.mono B4.out.size))
    clear b5
    go_wp2_with fail
    refine (HI.out _ (HV.out.kept B5.out)).mono ?_
    rintro e w6 ⟨v6, rfl, r6, b6⟩
    have R6 := Lib.hid (R5.out.kept b6)
    have S6 := Lib.hid (S5.out.kept b6)
    have T6 := Lib.hid r6
    have B6 := Lib.hid (B5.out.trans (b6.mono B5.out.size))
    clear b6 r6
    go_wp2_with fail
    refine (eqInts_eq v6 v1 _ _ L _ T6.out S6.out (by unfold maxLen; omega)).mono ?_
    rintro e w7 ⟨rfl, b7⟩
    have R7 := Lib.hid (R6.out.kept b7)
    have B7 := Lib.hid (B6.out.trans (b7.mono B6.out.size))
    clear b7
    go_wp2_with fail
    refine (heldInts_one v2 _ L.length _ R7.out (by omega)).mono ?_
    rintro e w8 ⟨rfl, b8⟩
    have B8 := Lib.hid (B7.out.trans (b8.mono B7.out.size))
    clear b8
    go_wp2
    go_ret
    exact ⟨rfl, B8.out⟩

theorem Vars_of (l : List (String × DataW Unit)) (hl : l.filter (fun x => x.1 == "internal/strconv.uint64pow10") = [("internal/strconv.uint64pow10", Lib.tabData .u64 Lib.pow10Tab)] ∧
      l.filter (fun x => x.1 == "strconv.ErrSyntax") = [("strconv.ErrSyntax", Rows.laid_strconv_ErrSyntax)] ∧ l.filter (fun x => x.1 == "strconv.ErrRange") = [("strconv.ErrRange", Rows.laid_strconv_ErrRange)])
    {W : World} (h : laidMetH Tryd.prog l W) (hs : W.ShapedOpen Tryd.prog) : Vars W := ⟨TabErrs_of l hl h, Tryd.laysM146.s1_3 W hs⟩
end Go.Proofs.YtfoegoobcpmddaaDoor
