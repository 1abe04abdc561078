/-
  The law of AddAbsence, walked: it returns true, and nothing that was there is changed. (Written by wip/tools/mkexact.py over the law's operations.)
-/
import Derived.Test.YtnmdnajbafpfiaaGreatSpecMark2
import Derived.Test.YtnmdnajbafpfiaaGreatDemAM
import Derived.Test.YtnmdnajbafpfiaaGreatSubsQ
import Derived.Test.YtnmdnajbafpfiaaGreatLaws
namespace Go.Proofs.YtnmdnajbafpfiaaGreat
open Go.RowKit
set_option linter.unusedVariables false
set_option linter.unusedSimpArgs false

set_option maxRecDepth 100000 in
set_option maxHeartbeats 16000000 in
theorem walkAddAbsence (w : World) (V0 : Value) (l0 : List Bd) (A0 : ListS bdE w Any V0 l0) (f0 : fineB l0) (n0 : l0.length ≤ maxLen) (V1 : Value) (l1 : List Mk) (A1 : ListS mkE w Any V1 l1) (f1 : fineM l1) (n1 : l1.length ≤ maxLen) (t2 : Tm) (V2 : Value) (A2 : ArgsAt w V2 t2.args) (f2 : t2.fine) (s3 : ByteArray) (ws3 : s3.size ≤ maxLen) :
    Calls Tryz.prog 5 #[V0, V1, .agg #[.int .i64 t2.kind, .int .i64 t2.num, .string t2.name, V2], .string s3] w fun e w' => e = .returned (.bool true) ∧ Below w.heap.size w w' := by
  obtain ⟨ad0, cap0, rfl⟩ := A0.slice
  have HA0 := Lib.hid (at_list A0)
  clear A0
  obtain ⟨ad1, cap1, rfl⟩ := A1.slice
  have HA1 := Lib.hid (at_list A1)
  clear A1
  obtain ⟨ad2, cap2, rfl⟩ := A2.slice
  have HA2 := Lib.hid (at_args A2)
  clear A2
  have HW : Hid (Below w.heap.size w w) := Lib.hid (Below.refl _ _)
  have hal : Below w.heap.size w (w.alloc (.cells #[.int .i64 t2.kind, .int .i64 t2.num, .string t2.name, .slice ad2 t2.args.length cap2] 26)) := (Below.refl _ _).alloc (Nat.le_refl _) _
  replace HA0 := Lib.hid (HA0.out.read hal)
  replace HA1 := Lib.hid (HA1.out.read hal)
  replace HA2 := Lib.hid (HA2.out.read hal)
  replace HW := Lib.hid (belowOn HW.out (Nat.le_refl _) hal)
  have HB6 := Lib.hid (at_box_of w #[.int .i64 t2.kind, .int .i64 t2.num, .string t2.name, .slice ad2 t2.args.length cap2] 26 (w.heap.size) (by simp))
  have HS0 := Lib.hid (show (w.alloc (.cells #[.int .i64 t2.kind, .int .i64 t2.num, .string t2.name, .slice ad2 t2.args.length cap2] 26)).heap.size = w.heap.size + 1 by simp)
  clear hal
  go_enter Tryz.func5, Tryz.ntmps5
  by_cases hbig : 1048576 < (s3.size : Int)
  · go_wp2
    go_ret
    exact ⟨rfl, HW.out⟩
  have hZs3 : s3.size ≤ 1048576 := by omega
  have HSZ := Lib.hid (szBindingL_any l0 _ 1048576 (w.alloc (.cells #[.int .i64 t2.kind, .int .i64 t2.num, .string t2.name, .slice ad2 t2.args.length cap2] 26)) HA0.out.listS f0 n0 (by omega) (by omega))
  go_wp2_with fail
  refine HSZ.out.mono ?_
  rintro e w1 ⟨r0, rfl, hr1, hr2, hr, hb⟩
  clear HSZ
  replace HA0 := Lib.hid (HA0.out.read hb)
  replace HA1 := Lib.hid (HA1.out.read hb)
  replace HA2 := Lib.hid (HA2.out.read hb)
  replace HB6 := Lib.hid (HB6.out.read hb)
  replace HW := Lib.hid (belowOn HW.out (Nat.le_refl _) hb)
  have HS1 := Lib.hid (hb.size)
  clear hb
  by_cases hneg : r0 < 0
  · clear hr
    go_wp2
    go_ret
    exact ⟨rfl, HW.out⟩
  have hZl0 : szB l0 ≤ 1048576 := by have := hr (by omega); omega
  replace hr1 : 0 ≤ r0 := by omega
  replace hr2 : r0 ≤ 1048576 := by omega
  clear hr hneg
  have h0r0 := hr1
  have h1r0 := hr2
  clear hr1 hr2
  have HSZ := Lib.hid (szMarks_any l1 _ r0 w1 HA1.out.listS f1 n1 (by omega) (by omega))
  go_wp2_with fail
  refine HSZ.out.mono ?_
  rintro e w2 ⟨r1, rfl, hr1, hr2, hr, hb⟩
  clear HSZ
  replace HA0 := Lib.hid (HA0.out.read hb)
  replace HA1 := Lib.hid (HA1.out.read hb)
  replace HA2 := Lib.hid (HA2.out.read hb)
  replace HB6 := Lib.hid (HB6.out.read hb)
  replace HW := Lib.hid (belowOn HW.out (Nat.le_refl _) hb)
  have HS2 := Lib.hid (hb.size)
  clear hb
  by_cases hneg : r1 < 0
  · clear hr
    go_wp2
    go_ret
    exact ⟨rfl, HW.out⟩
  have hZl1 : szM l1 ≤ 1048576 := by have := hr (by omega); omega
  replace hr1 : 0 ≤ r1 := by omega
  replace hr2 : r1 ≤ 1048576 := by omega
  clear hr hneg
  have h0r1 := hr1
  have h1r1 := hr2
  clear hr1 hr2
  obtain ⟨c0a, c0b, c0c, c0d⟩ := HB6.out.cells
  have z0 := HB6.out.le
  have HSZ := Lib.hid (szTerm_any t2 _ r1 w2 HA2.out.argsAt f2 (by omega) (by omega))
  go_wp2_with fail
  refine HSZ.out.mono ?_
  rintro e w3 ⟨r2, rfl, hr1, hr2, hr, hb⟩
  clear c0a c0b c0c c0d z0
  clear HSZ
  replace HA0 := Lib.hid (HA0.out.read hb)
  replace HA1 := Lib.hid (HA1.out.read hb)
  replace HA2 := Lib.hid (HA2.out.read hb)
  replace HB6 := Lib.hid (HB6.out.read hb)
  replace HW := Lib.hid (belowOn HW.out (Nat.le_refl _) hb)
  have HS3 := Lib.hid (hb.size)
  clear hb
  by_cases hneg : r2 < 0
  · clear hr
    go_wp2
    go_ret
    exact ⟨rfl, HW.out⟩
  have hZt2 : t2.sz ≤ 1048576 := by have := hr (by omega); omega
  replace hr1 : 0 ≤ r2 := by omega
  replace hr2 : r2 ≤ 1048576 := by omega
  clear hr hneg
  have h0r2 := hr1
  have h1r2 := hr2
  clear hr1 hr2
  go_upto_region 13 with (fail)
  go_cut [10, 11] from 40 (fun p b wx => b = .bool (amB l0 l1 t2 s3) ∧ ListS mkE wx Any p (amL l0 l1 t2 s3) ∧ Below w3.heap.size w3 wx)
  case first =>
    obtain ⟨c0a, c0b, c0c, c0d⟩ := HB6.out.cells
    have z0 := HB6.out.le
    have hself : Below w3.heap.size w3 w3 := Below.refl _ _
    have hdrew : Below w3.heap.size w3 w3.drew := hself.drew
    have HCE : Hid (∀ W, Below w3.heap.size w3 W → W.cell? ⟨w.heap.size, 0, none⟩ = some (.int .i64 t2.kind) ∧ W.cell? ⟨w.heap.size, 1, none⟩ = some (.int .i64 t2.num) ∧ W.cell? ⟨w.heap.size, 2, none⟩ = some (.string t2.name) ∧ W.cell? ⟨w.heap.size, 3, none⟩ = some (.slice ad2 t2.args.length cap2)) := Lib.hid fun W hW => by
      obtain ⟨y0a, y0b, y0c, y0d⟩ := (HB6.out.read hW).cells
      exact ⟨y0a, y0b, y0c, y0d⟩
    have HTR : Hid (∀ a b, Below w3.heap.size w3 a → Below a.heap.size a b → Below w3.heap.size w3 b) := Lib.hid fun a b h1 h2 => belowOn h1 (Nat.le_refl _) h2
    have HTO0 : Hid (∀ W, Below w3.heap.size w3 W → Calls Tryz.prog 11 #[(.slice ad0 l0.length cap0)] W fun e w' => ∃ u, e = .returned (u) ∧ (∀ W2, Below w'.heap.size w' W2 → ListS bdE W2 Any u l0) ∧ Below W.heap.size W w') := Lib.hid fun W hW =>
      (toBindingL_any l0 _ W (HA0.out.read hW).listS hZl0).mono fun e w' ⟨u, he, hn⟩ => ⟨u, he, fun W2 h2 => hn.1.inS.any.kept h2, hn.2⟩
    have HTO1 : Hid (∀ W, Below w3.heap.size w3 W → Calls Tryz.prog 26 #[(.slice ad1 l1.length cap1)] W fun e w' => ∃ u, e = .returned (u) ∧ (∀ W2, Below w'.heap.size w' W2 → ListS mkE W2 Any u l1 ∧ CapOk u l1.length) ∧ Below W.heap.size W w') := Lib.hid fun W hW =>
      (toMarks_any l1 _ W (HA1.out.read hW).listS (Nat.le_trans (szM_len _) hZl1)).mono fun e w' ⟨u, he, hn, hu⟩ => ⟨u, he, fun W2 h2 => ⟨hn.1.inS.any.kept h2, ⟨_, _, _, hu, Nat.le_refl _, Nat.le_trans (Nat.le_trans (szM_len _) hZl1) (by decide)⟩⟩, hn.2⟩
    have HTO2 : Hid (∀ W, Below w3.heap.size w3 W → Calls Tryz.prog 13 #[.agg #[.int .i64 t2.kind, .int .i64 t2.num, .string t2.name, .slice ad2 t2.args.length cap2]] W fun e w' => ∃ u, e = .returned (.agg #[.int .i64 t2.kind, .int .i64 t2.num, .string t2.name, u]) ∧ (∀ W2, Below w'.heap.size w' W2 → ArgsAt W2 u t2.args) ∧ Below W.heap.size W w') := Lib.hid fun W hW =>
      (toTerm_any t2 _ W (HA2.out.read hW).argsAt hZt2).mono fun e w' ⟨u, he, hn⟩ => ⟨u, he, fun W2 h2 => hn.1.argsAt.kept h2, hn.2⟩
    have HF : Hid (∀ W u0 u1 u2, Below w3.heap.size w3 W → ListS bdE W Any u0 l0 → ListS mkE W Any u1 l1 ∧ CapOk u1 l1.length → ArgsAt W u2 t2.args → Calls Tryz.prog 25 #[u0, u1, .agg #[.int .i64 t2.kind, .int .i64 t2.num, .string t2.name, u2], .string s3] W (OldM2 (amL l0 l1 t2 s3) (amB l0 l1 t2 s3) W)) := Lib.hid fun W u0 u1 u2 hW hu0 hu1 hu2 => (specAddAbsence_any l0 u0 l1 u1 t2 u2 s3 W hu0 hZl0 hu1.1 hu1.2 f1 (Nat.le_succ_of_le (Nat.le_trans (szM_len _) hZl1)) hu2 hZt2 hZs3)
    clear HW HA0 HA1 HA2 HB6
    go_region_held3 (fun w' => Below w3.heap.size w3 w' ∧ w'.cell? ⟨w.heap.size, 0, none⟩ = some (.int .i64 t2.kind) ∧ w'.cell? ⟨w.heap.size, 1, none⟩ = some (.int .i64 t2.num) ∧ w'.cell? ⟨w.heap.size, 2, none⟩ = some (.string t2.name) ∧ w'.cell? ⟨w.heap.size, 3, none⟩ = some (.slice ad2 t2.args.length cap2)) (go_keep)
      (first
        | (go_at_call 11; (with_reducible refine Calls.mono (HTO0.out _ ?_) ?_); (first | assumption | exact belowAlloc (by assumption) _ | exact (belowAlloc (by assumption) _).drew); rintro e wA0 ⟨u0, rfl, hu0, hb0⟩; have HUU0 := Lib.hid hu0; clear hu0; have hB0 := HTR.out _ _ (by first | assumption | exact belowAlloc (by assumption) _ | exact (belowAlloc (by assumption) _).drew) hb0; obtain ⟨k0, k1, k2, k3⟩ := HCE.out _ hB0)
        | (go_at_call 26; (with_reducible refine Calls.mono (HTO1.out _ ?_) ?_); (first | assumption | exact belowAlloc (by assumption) _ | exact (belowAlloc (by assumption) _).drew); rintro e wA1 ⟨u1, rfl, hu1, hb1⟩; have HUU1 := Lib.hid hu1; clear hu1; have hB1 := HTR.out _ _ (by first | assumption | exact belowAlloc (by assumption) _ | exact (belowAlloc (by assumption) _).drew) hb1; obtain ⟨k0, k1, k2, k3⟩ := HCE.out _ hB1)
        | (go_at_call 13; (with_reducible refine Calls.mono (HTO2.out _ ?_) ?_); (first | assumption | exact belowAlloc (by assumption) _ | exact (belowAlloc (by assumption) _).drew); rintro e wA2 ⟨u2, rfl, hu2, hb2⟩; have HUU2 := Lib.hid hu2; clear hu2; have hB2 := HTR.out _ _ (by first | assumption | exact belowAlloc (by assumption) _ | exact (belowAlloc (by assumption) _).drew) hb2; obtain ⟨k0, k1, k2, k3⟩ := HCE.out _ hB2)
        | (go_at_call 25; (with_reducible refine Calls.mono (HF.out _ _ _ _ ?_ ?_ ?_ ?_) ?_); (assumption); (first | exact HUU0.out _ (Below.refl _ _) | exact HUU0.out _ (by assumption) | exact HUU0.out _ (below3 (by assumption) (by assumption))); (first | exact HUU1.out _ (Below.refl _ _) | exact HUU1.out _ (by assumption) | exact HUU1.out _ (below3 (by assumption) (by assumption))); (first | exact HUU2.out _ (Below.refl _ _) | exact HUU2.out _ (by assumption) | exact HUU2.out _ (below3 (by assumption) (by assumption))); rintro e w' ⟨v9, rfl, hv9, hbz⟩; have hB' := HTR.out _ _ (by assumption) hbz; have HVV := Lib.hid hv9; clear hv9; obtain ⟨k0, k1, k2, k3⟩ := HCE.out _ hB'))
    all_goals (go_wp2_with fail; go_meet; exact ⟨rfl, HVV.out, by assumption⟩)
  case rest =>
    obtain ⟨rfl, hv, hb⟩ := hcut
    obtain ⟨w4, rfl⟩ : ∃ x : World, x = wc := ⟨_, rfl⟩
    replace HA0 := Lib.hid (HA0.out.read hb)
    replace HA1 := Lib.hid (HA1.out.read hb)
    replace HA2 := Lib.hid (HA2.out.read hb)
    replace HB6 := Lib.hid (HB6.out.read hb)
    replace HW := Lib.hid (belowOn HW.out (Nat.le_refl _) hb)
    have HS4 := Lib.hid (hb.size)
    have HU4 := Lib.hid (at_list hv)
    obtain ⟨ad104, cap104, rfl⟩ := hv.slice
    clear hv hb
    have HTO := Lib.hid (toBindingL_any l0 _ w4 HA0.out.listS hZl0)
    go_wp2_with fail
    refine HTO.out.mono ?_
    rintro e w5 ⟨u5, rfl, hn⟩
    have hb := hn.2
    replace HA0 := Lib.hid (HA0.out.read hb)
    replace HA1 := Lib.hid (HA1.out.read hb)
    replace HA2 := Lib.hid (HA2.out.read hb)
    replace HB6 := Lib.hid (HB6.out.read hb)
    replace HU4 := Lib.hid (HU4.out.read hb)
    replace HW := Lib.hid (belowOn HW.out (Nat.le_refl _) hb)
    have HS5 := Lib.hid (hb.size)
    have HU5 := Lib.hid hn.at
    obtain ⟨ad105, cap105, rfl⟩ := hn.1.slice
    clear HTO hn hb
    have HTO := Lib.hid (toMarks_any l1 _ w5 HA1.out.listS (Nat.le_trans (szM_len _) hZl1))
    go_wp2_with fail
    refine HTO.out.mono ?_
    rintro e w6 ⟨u6, rfl, hn, hu⟩
    have hb := hn.2
    replace HA0 := Lib.hid (HA0.out.read hb)
    replace HA1 := Lib.hid (HA1.out.read hb)
    replace HA2 := Lib.hid (HA2.out.read hb)
    replace HB6 := Lib.hid (HB6.out.read hb)
    replace HU4 := Lib.hid (HU4.out.read hb)
    replace HU5 := Lib.hid (HU5.out.read hb)
    replace HW := Lib.hid (belowOn HW.out (Nat.le_refl _) hb)
    have HS6 := Lib.hid (hb.size)
    have HCP6 : Hid (CapOk u6 l1.length) := Lib.hid ⟨_, _, _, hu, Nat.le_refl _, by have := (Nat.le_trans (szM_len _) hZl1); omega⟩
    have HU6 := Lib.hid hn.at
    clear hu
    obtain ⟨ad106, cap106, rfl⟩ := hn.1.slice
    clear HTO hn hb
    obtain ⟨c0a, c0b, c0c, c0d⟩ := HB6.out.cells
    have z0 := HB6.out.le
    have HTO := Lib.hid (toTerm_any t2 _ w6 HA2.out.argsAt hZt2)
    go_wp2_with fail
    refine HTO.out.mono ?_
    rintro e w7 ⟨u7, rfl, hn⟩
    clear c0a c0b c0c c0d z0
    have hb := hn.2
    replace HA0 := Lib.hid (HA0.out.read hb)
    replace HA1 := Lib.hid (HA1.out.read hb)
    replace HA2 := Lib.hid (HA2.out.read hb)
    replace HB6 := Lib.hid (HB6.out.read hb)
    replace HU4 := Lib.hid (HU4.out.read hb)
    replace HU5 := Lib.hid (HU5.out.read hb)
    replace HU6 := Lib.hid (HU6.out.read hb)
    replace HW := Lib.hid (belowOn HW.out (Nat.le_refl _) hb)
    have HS7 := Lib.hid (hb.size)
    have HU7 := Lib.hid hn.at
    obtain ⟨ad107, cap107, rfl⟩ := hn.1.argsAt.slice
    clear HTO hn hb
    have hal : Below w7.heap.size w7 (w7.alloc (.cells #[.int .i64 t2.kind, .int .i64 t2.num, .string t2.name, .slice ad107 t2.args.length cap107] 38)) := (Below.refl _ _).alloc (Nat.le_refl _) _
    replace HA0 := Lib.hid (HA0.out.read hal)
    replace HA1 := Lib.hid (HA1.out.read hal)
    replace HA2 := Lib.hid (HA2.out.read hal)
    replace HB6 := Lib.hid (HB6.out.read hal)
    replace HU4 := Lib.hid (HU4.out.read hal)
    replace HU5 := Lib.hid (HU5.out.read hal)
    replace HU6 := Lib.hid (HU6.out.read hal)
    replace HU7 := Lib.hid (HU7.out.read hal)
    replace HW := Lib.hid (belowOn HW.out (Nat.le_refl _) hal)
    have HB14 := Lib.hid (at_box_of w7 #[.int .i64 t2.kind, .int .i64 t2.num, .string t2.name, .slice ad107 t2.args.length cap107] 38 (w7.heap.size) (by simp))
    have HS8 := Lib.hid (show (w7.alloc (.cells #[.int .i64 t2.kind, .int .i64 t2.num, .string t2.name, .slice ad107 t2.args.length cap107] 38)).heap.size = w7.heap.size + 1 by simp)
    clear hal
    obtain ⟨c0a, c0b, c0c, c0d⟩ := HB14.out.cells
    have z0 := HB14.out.le
    have HF := Lib.hid (implAddAbsence_any l0 _ l1 _ t2 _ s3 (w7.alloc (.cells #[.int .i64 t2.kind, .int .i64 t2.num, .string t2.name, .slice ad107 t2.args.length cap107] 38)) HU5.out.listS hZl0 f0 HU6.out.listS HCP6.out f1 (Nat.le_succ_of_le (Nat.le_trans (szM_len _) hZl1)) HU7.out.argsAt hZt2 hZs3)
    go_wp2_with fail
    refine HF.out.mono ?_
    rintro e w8 ⟨u8, rfl, hv, hb⟩
    clear c0a c0b c0c c0d z0
    replace HA0 := Lib.hid (HA0.out.read hb)
    replace HA1 := Lib.hid (HA1.out.read hb)
    replace HA2 := Lib.hid (HA2.out.read hb)
    replace HB6 := Lib.hid (HB6.out.read hb)
    replace HU4 := Lib.hid (HU4.out.read hb)
    replace HU5 := Lib.hid (HU5.out.read hb)
    replace HU6 := Lib.hid (HU6.out.read hb)
    replace HU7 := Lib.hid (HU7.out.read hb)
    replace HB14 := Lib.hid (HB14.out.read hb)
    replace HW := Lib.hid (belowOn HW.out (Nat.le_refl _) hb)
    have HS9 := Lib.hid (hb.size)
    have HU8 := Lib.hid (at_listO hv (Nat.le_refl _))
    obtain ⟨ad108, cap108, rfl⟩ := hv.slice
    clear HF hv hb
    have HF := Lib.hid (eqMarks_any (amL l0 l1 t2 s3) _ _ w8 HU8.out.listS HU4.out.listS (Nat.le_trans (am_len l0 l1 t2 s3) (Nat.le_trans (Nat.add_le_add_right (Nat.le_trans (szM_len _) hZl1) 5000) (by decide))))
    go_wp2_with fail
    refine HF.out.mono ?_
    rintro e w9 ⟨rfl, hb⟩
    replace HA0 := Lib.hid (HA0.out.read hb)
    replace HA1 := Lib.hid (HA1.out.read hb)
    replace HA2 := Lib.hid (HA2.out.read hb)
    replace HB6 := Lib.hid (HB6.out.read hb)
    replace HU4 := Lib.hid (HU4.out.read hb)
    replace HU5 := Lib.hid (HU5.out.read hb)
    replace HU6 := Lib.hid (HU6.out.read hb)
    replace HU7 := Lib.hid (HU7.out.read hb)
    replace HB14 := Lib.hid (HB14.out.read hb)
    replace HU8 := Lib.hid (HU8.out.read hb)
    replace HW := Lib.hid (belowOn HW.out (Nat.le_refl _) hb)
    have HS10 := Lib.hid (hb.size)
    clear HF hb
    have HTO := Lib.hid (toBindingL_any l0 _ w9 HA0.out.listS hZl0)
    go_wp2_with fail
    refine HTO.out.mono ?_
    rintro e w10 ⟨u10, rfl, hn⟩
    have hb := hn.2
    replace HA0 := Lib.hid (HA0.out.read hb)
    replace HA1 := Lib.hid (HA1.out.read hb)
    replace HA2 := Lib.hid (HA2.out.read hb)
    replace HB6 := Lib.hid (HB6.out.read hb)
    replace HU4 := Lib.hid (HU4.out.read hb)
    replace HU5 := Lib.hid (HU5.out.read hb)
    replace HU6 := Lib.hid (HU6.out.read hb)
    replace HU7 := Lib.hid (HU7.out.read hb)
    replace HB14 := Lib.hid (HB14.out.read hb)
    replace HU8 := Lib.hid (HU8.out.read hb)
    replace HW := Lib.hid (belowOn HW.out (Nat.le_refl _) hb)
    have HS11 := Lib.hid (hb.size)
    have HU10 := Lib.hid hn.at
    obtain ⟨ad110, cap110, rfl⟩ := hn.1.slice
    clear HTO hn hb
    have HF := Lib.hid (eqBindingL_any l0 _ _ w10 HU5.out.listS HU10.out.listS (eachB_of hZl0))
    go_wp2_with fail
    refine HF.out.mono ?_
    rintro e w11 ⟨rfl, hb⟩
    replace HA0 := Lib.hid (HA0.out.read hb)
    replace HA1 := Lib.hid (HA1.out.read hb)
    replace HA2 := Lib.hid (HA2.out.read hb)
    replace HB6 := Lib.hid (HB6.out.read hb)
    replace HU4 := Lib.hid (HU4.out.read hb)
    replace HU5 := Lib.hid (HU5.out.read hb)
    replace HU6 := Lib.hid (HU6.out.read hb)
    replace HU7 := Lib.hid (HU7.out.read hb)
    replace HB14 := Lib.hid (HB14.out.read hb)
    replace HU8 := Lib.hid (HU8.out.read hb)
    replace HU10 := Lib.hid (HU10.out.read hb)
    replace HW := Lib.hid (belowOn HW.out (Nat.le_refl _) hb)
    have HS12 := Lib.hid (hb.size)
    clear HF hb
    have HTO := Lib.hid (toMarks_any l1 _ w11 HA1.out.listS (Nat.le_trans (szM_len _) hZl1))
    go_wp2_with fail
    refine HTO.out.mono ?_
    rintro e w12 ⟨u12, rfl, hn, hu⟩
    have hb := hn.2
    replace HA0 := Lib.hid (HA0.out.read hb)
    replace HA1 := Lib.hid (HA1.out.read hb)
    replace HA2 := Lib.hid (HA2.out.read hb)
    replace HB6 := Lib.hid (HB6.out.read hb)
    replace HU4 := Lib.hid (HU4.out.read hb)
    replace HU5 := Lib.hid (HU5.out.read hb)
    replace HU6 := Lib.hid (HU6.out.read hb)
    replace HU7 := Lib.hid (HU7.out.read hb)
    replace HB14 := Lib.hid (HB14.out.read hb)
    replace HU8 := Lib.hid (HU8.out.read hb)
    replace HU10 := Lib.hid (HU10.out.read hb)
    replace HW := Lib.hid (belowOn HW.out (Nat.le_refl _) hb)
    have HS13 := Lib.hid (hb.size)
    have HCP12 : Hid (CapOk u12 l1.length) := Lib.hid ⟨_, _, _, hu, Nat.le_refl _, by have := (Nat.le_trans (szM_len _) hZl1); omega⟩
    have HU12 := Lib.hid hn.at
    clear hu
    obtain ⟨ad112, cap112, rfl⟩ := hn.1.slice
    clear HTO hn hb
    have HF := Lib.hid (eqMarks_any l1 _ _ w12 HU6.out.listS HU12.out.listS (Nat.le_trans ((Nat.le_trans (szM_len _) hZl1)) (by decide)))
    go_wp2_with fail
    refine HF.out.mono ?_
    rintro e w13 ⟨rfl, hb⟩
    replace HA0 := Lib.hid (HA0.out.read hb)
    replace HA1 := Lib.hid (HA1.out.read hb)
    replace HA2 := Lib.hid (HA2.out.read hb)
    replace HB6 := Lib.hid (HB6.out.read hb)
    replace HU4 := Lib.hid (HU4.out.read hb)
    replace HU5 := Lib.hid (HU5.out.read hb)
    replace HU6 := Lib.hid (HU6.out.read hb)
    replace HU7 := Lib.hid (HU7.out.read hb)
    replace HB14 := Lib.hid (HB14.out.read hb)
    replace HU8 := Lib.hid (HU8.out.read hb)
    replace HU10 := Lib.hid (HU10.out.read hb)
    replace HU12 := Lib.hid (HU12.out.read hb)
    replace HW := Lib.hid (belowOn HW.out (Nat.le_refl _) hb)
    have HS14 := Lib.hid (hb.size)
    clear HF hb
    go_upto_region 24 with (fail)
    go_cut [88] from 84 (fun b wx => b = .bool false ∧ Below w13.heap.size w13 wx)
    case first =>
      obtain ⟨c0a, c0b, c0c, c0d⟩ := HB14.out.cells
      have z0 := HB14.out.le
      obtain ⟨c1a, c1b, c1c, c1d⟩ := HB6.out.cells
      have z1 := HB6.out.le
      have hself : Below w13.heap.size w13 w13 := Below.refl _ _
      have hdrew : Below w13.heap.size w13 w13.drew := hself.drew
      have HCE : Hid (∀ W, Below w13.heap.size w13 W → W.cell? ⟨w7.heap.size, 0, none⟩ = some (.int .i64 t2.kind) ∧ W.cell? ⟨w7.heap.size, 1, none⟩ = some (.int .i64 t2.num) ∧ W.cell? ⟨w7.heap.size, 2, none⟩ = some (.string t2.name) ∧ W.cell? ⟨w7.heap.size, 3, none⟩ = some (.slice ad107 t2.args.length cap107) ∧ W.cell? ⟨w.heap.size, 0, none⟩ = some (.int .i64 t2.kind) ∧ W.cell? ⟨w.heap.size, 1, none⟩ = some (.int .i64 t2.num) ∧ W.cell? ⟨w.heap.size, 2, none⟩ = some (.string t2.name) ∧ W.cell? ⟨w.heap.size, 3, none⟩ = some (.slice ad2 t2.args.length cap2)) := Lib.hid fun W hW => by
        obtain ⟨y0a, y0b, y0c, y0d⟩ := (HB14.out.read hW).cells
        obtain ⟨y1a, y1b, y1c, y1d⟩ := (HB6.out.read hW).cells
        exact ⟨y0a, y0b, y0c, y0d, y1a, y1b, y1c, y1d⟩
      have HTR : Hid (∀ a b, Below w13.heap.size w13 a → Below a.heap.size a b → Below w13.heap.size w13 b) := Lib.hid fun a b h1 h2 => belowOn h1 (Nat.le_refl _) h2
      have HTO0 : Hid (∀ W, Below w13.heap.size w13 W → Calls Tryz.prog 13 #[.agg #[.int .i64 t2.kind, .int .i64 t2.num, .string t2.name, .slice ad2 t2.args.length cap2]] W fun e w' => ∃ u, e = .returned (.agg #[.int .i64 t2.kind, .int .i64 t2.num, .string t2.name, u]) ∧ (∀ W2, Below w'.heap.size w' W2 → ArgsAt W2 u t2.args) ∧ Below W.heap.size W w') := Lib.hid fun W hW =>
        (toTerm_any t2 _ W (HA2.out.read hW).argsAt hZt2).mono fun e w' ⟨u, he, hn⟩ => ⟨u, he, fun W2 h2 => hn.1.argsAt.kept h2, hn.2⟩
      have HEQ : Hid (∀ W u, Below w13.heap.size w13 W → ArgsAt W u t2.args → Calls Tryz.prog 17 #[.agg #[.int .i64 t2.kind, .int .i64 t2.num, .string t2.name, .slice ad107 t2.args.length cap107], .agg #[.int .i64 t2.kind, .int .i64 t2.num, .string t2.name, u]] W (Yes W)) := Lib.hid fun W u hW hu => eqTerm_any t2 _ _ W (HU7.out.read hW).argsAt hu hZt2
      clear HW HA0 HA1 HA2 HB6 HU4 HU5 HU6 HU7 HB14 HU8 HU10 HU12
      go_region_held3 (fun w' => Below w13.heap.size w13 w' ∧ w'.cell? ⟨w7.heap.size, 0, none⟩ = some (.int .i64 t2.kind) ∧ w'.cell? ⟨w7.heap.size, 1, none⟩ = some (.int .i64 t2.num) ∧ w'.cell? ⟨w7.heap.size, 2, none⟩ = some (.string t2.name) ∧ w'.cell? ⟨w7.heap.size, 3, none⟩ = some (.slice ad107 t2.args.length cap107) ∧ w'.cell? ⟨w.heap.size, 0, none⟩ = some (.int .i64 t2.kind) ∧ w'.cell? ⟨w.heap.size, 1, none⟩ = some (.int .i64 t2.num) ∧ w'.cell? ⟨w.heap.size, 2, none⟩ = some (.string t2.name) ∧ w'.cell? ⟨w.heap.size, 3, none⟩ = some (.slice ad2 t2.args.length cap2)) (go_keep)
        (first
          | (go_at_call 13; (with_reducible refine Calls.mono (HTO0.out _ ?_) ?_); (first | assumption | exact belowAlloc (by assumption) _ | exact (belowAlloc (by assumption) _).drew); rintro e wA0 ⟨u0, rfl, hu0, hb0⟩; have HUU0 := Lib.hid hu0; clear hu0; have hB0 := HTR.out _ _ (by first | assumption | exact belowAlloc (by assumption) _ | exact (belowAlloc (by assumption) _).drew) hb0; obtain ⟨k0, k1, k2, k3, k4, k5, k6, k7⟩ := HCE.out _ hB0)
          | (go_at_call 17; (with_reducible refine Calls.mono (HEQ.out _ _ ?_ ?_) ?_); (assumption); (first | exact HUU0.out _ (Below.refl _ _) | exact HUU0.out _ (by assumption)); rintro e w' ⟨rfl, hbz⟩; have hB' := HTR.out _ _ (by assumption) hbz; obtain ⟨k0, k1, k2, k3, k4, k5, k6, k7⟩ := HCE.out _ hB'))
      all_goals (go_wp2_with fail; go_meet; exact ⟨rfl, by assumption⟩)
    case rest =>
      obtain ⟨rfl, hb⟩ := hcut
      obtain ⟨w14, rfl⟩ : ∃ x : World, x = wc := ⟨_, rfl⟩
      replace HA0 := Lib.hid (HA0.out.read hb)
      replace HA1 := Lib.hid (HA1.out.read hb)
      replace HA2 := Lib.hid (HA2.out.read hb)
      replace HB6 := Lib.hid (HB6.out.read hb)
      replace HU4 := Lib.hid (HU4.out.read hb)
      replace HU5 := Lib.hid (HU5.out.read hb)
      replace HU6 := Lib.hid (HU6.out.read hb)
      replace HU7 := Lib.hid (HU7.out.read hb)
      replace HB14 := Lib.hid (HB14.out.read hb)
      replace HU8 := Lib.hid (HU8.out.read hb)
      replace HU10 := Lib.hid (HU10.out.read hb)
      replace HU12 := Lib.hid (HU12.out.read hb)
      replace HW := Lib.hid (belowOn HW.out (Nat.le_refl _) hb)
      have HS15 := Lib.hid (hb.size)
      clear hb
      have hnl := (nk_bd hZl0)
      have HF := Lib.hid (markBindingL_any l0 _ (1) _ _ w14 HU5.out (by omega) (by omega))
      go_wp2_with fail
      refine HF.out.mono ?_
      rintro e w15 ⟨rfl, hat, ho⟩
      have s0 := HS0.out
      have s1 := HS1.out
      have s2 := HS2.out
      have s3 := HS3.out
      have s4 := HS4.out
      have s5 := HS5.out
      have s6 := HS6.out
      have s7 := HS7.out
      have s8 := HS8.out
      have s9 := HS9.out
      have s10 := HS10.out
      have s11 := HS11.out
      have s12 := HS12.out
      have s13 := HS13.out
      have s14 := HS14.out
      have s15 := HS15.out
      replace HA0 := Lib.hid (HA0.out.only ho (by omega))
      replace HA1 := Lib.hid (HA1.out.only ho (by omega))
      replace HA2 := Lib.hid (HA2.out.only ho (by omega))
      replace HB6 := Lib.hid (HB6.out.only ho (by omega))
      replace HU4 := Lib.hid (HU4.out.only ho (by omega))
      replace HU6 := Lib.hid (HU6.out.only ho (by omega))
      replace HU7 := Lib.hid (HU7.out.only ho (by omega))
      replace HB14 := Lib.hid (HB14.out.only ho (by omega))
      replace HU8 := Lib.hid (HU8.out.only ho (by omega))
      replace HU10 := Lib.hid (HU10.out.only ho (by omega))
      replace HU12 := Lib.hid (HU12.out.only ho (by omega))
      replace HW := Lib.hid (HW.out.trans (ho.below (fun k hk => by have := hk.1; omega) (by omega)))
      clear s0 s1 s2 s3 s4 s5 s6 s7 s8 s9 s10 s11 s12 s13 s14 s15
      replace HU5 := Lib.hid hat
      have HS16 := Lib.hid (ho.size)
      clear HF hat ho
      have hnl := nkM_bd (Nat.le_trans ((Nat.le_trans (szM_len _) hZl1)) (by decide))
      have HF := Lib.hid (markMarkL_any l1 _ (1 + (nkB l0 : Int)) _ _ w15 HU6.out (by omega) (by omega))
      go_wp2_with fail
      refine HF.out.mono ?_
      rintro e w16 ⟨rfl, hat, ho⟩
      have s0 := HS0.out
      have s1 := HS1.out
      have s2 := HS2.out
      have s3 := HS3.out
      have s4 := HS4.out
      have s5 := HS5.out
      have s6 := HS6.out
      have s7 := HS7.out
      have s8 := HS8.out
      have s9 := HS9.out
      have s10 := HS10.out
      have s11 := HS11.out
      have s12 := HS12.out
      have s13 := HS13.out
      have s14 := HS14.out
      have s15 := HS15.out
      have s16 := HS16.out
      replace HA0 := Lib.hid (HA0.out.only ho (by omega))
      replace HA1 := Lib.hid (HA1.out.only ho (by omega))
      replace HA2 := Lib.hid (HA2.out.only ho (by omega))
      replace HB6 := Lib.hid (HB6.out.only ho (by omega))
      replace HU4 := Lib.hid (HU4.out.only ho (by omega))
      replace HU5 := Lib.hid (HU5.out.only ho (by omega))
      replace HU7 := Lib.hid (HU7.out.only ho (by omega))
      replace HB14 := Lib.hid (HB14.out.only ho (by omega))
      replace HU8 := Lib.hid (HU8.out.only ho (by omega))
      replace HU10 := Lib.hid (HU10.out.only ho (by omega))
      replace HU12 := Lib.hid (HU12.out.only ho (by omega))
      replace HW := Lib.hid (HW.out.trans (ho.below (fun k hk => by have := hk.1; omega) (by omega)))
      clear s0 s1 s2 s3 s4 s5 s6 s7 s8 s9 s10 s11 s12 s13 s14 s15 s16
      replace HU6 := Lib.hid hat
      have HS17 := Lib.hid (ho.size)
      clear HF hat ho
      obtain ⟨c0a, c0b, c0c, c0d⟩ := HB14.out.cells
      have z0 := HB14.out.le
      have hnl := nl_bd hZt2
      have HF := Lib.hid (markTerm_any t2.kind t2.num t2.name t2.args _ (1 + (nkB l0 : Int) + (nkM l1 : Int)) _ _ w16 HU7.out (by omega) (by omega))
      go_wp2_with fail
      refine HF.out.mono ?_
      rintro e w17 ⟨rfl, hat, ho⟩
      clear c0a c0b c0c c0d z0
      have s0 := HS0.out
      have s1 := HS1.out
      have s2 := HS2.out
      have s3 := HS3.out
      have s4 := HS4.out
      have s5 := HS5.out
      have s6 := HS6.out
      have s7 := HS7.out
      have s8 := HS8.out
      have s9 := HS9.out
      have s10 := HS10.out
      have s11 := HS11.out
      have s12 := HS12.out
      have s13 := HS13.out
      have s14 := HS14.out
      have s15 := HS15.out
      have s16 := HS16.out
      have s17 := HS17.out
      replace HA0 := Lib.hid (HA0.out.only ho (by omega))
      replace HA1 := Lib.hid (HA1.out.only ho (by omega))
      replace HA2 := Lib.hid (HA2.out.only ho (by omega))
      replace HB6 := Lib.hid (HB6.out.only ho (by omega))
      replace HU4 := Lib.hid (HU4.out.only ho (by omega))
      replace HU5 := Lib.hid (HU5.out.only ho (by omega))
      replace HU6 := Lib.hid (HU6.out.only ho (by omega))
      replace HB14 := Lib.hid (HB14.out.only ho (by omega))
      replace HU8 := Lib.hid (HU8.out.only ho (by omega))
      replace HU10 := Lib.hid (HU10.out.only ho (by omega))
      replace HU12 := Lib.hid (HU12.out.only ho (by omega))
      replace HW := Lib.hid (HW.out.trans (ho.below (fun k hk => by have := hk.1; omega) (by omega)))
      clear s0 s1 s2 s3 s4 s5 s6 s7 s8 s9 s10 s11 s12 s13 s14 s15 s16 s17
      replace HU7 := Lib.hid hat
      have HS18 := Lib.hid (ho.size)
      clear HF hat ho
      have HF := Lib.hid (eqMarks_any (amL l0 l1 t2 s3) _ _ w17 HU8.out.listS HU4.out.listS (Nat.le_trans (am_len l0 l1 t2 s3) (Nat.le_trans (Nat.add_le_add_right (Nat.le_trans (szM_len _) hZl1) 5000) (by decide))))
      go_wp2_with fail
      refine HF.out.mono ?_
      rintro e w18 ⟨rfl, hb⟩
      replace HA0 := Lib.hid (HA0.out.read hb)
      replace HA1 := Lib.hid (HA1.out.read hb)
      replace HA2 := Lib.hid (HA2.out.read hb)
      replace HB6 := Lib.hid (HB6.out.read hb)
      replace HU4 := Lib.hid (HU4.out.read hb)
      replace HU5 := Lib.hid (HU5.out.read hb)
      replace HU6 := Lib.hid (HU6.out.read hb)
      replace HU7 := Lib.hid (HU7.out.read hb)
      replace HB14 := Lib.hid (HB14.out.read hb)
      replace HU8 := Lib.hid (HU8.out.read hb)
      replace HU10 := Lib.hid (HU10.out.read hb)
      replace HU12 := Lib.hid (HU12.out.read hb)
      replace HW := Lib.hid (belowOn HW.out (Nat.le_refl _) hb)
      have HS19 := Lib.hid (hb.size)
      clear HF hb
      have hnl := nkM_bd (Nat.le_trans (am_len l0 l1 t2 s3) (Nat.le_trans (Nat.add_le_add_right (Nat.le_trans (szM_len _) hZl1) 5000) (by decide)))
      have HF := Lib.hid (markMarkL_any (amL l0 l1 t2 s3) _ (1) _ _ w18 HU8.out (by omega) (by omega))
      go_wp2_with fail
      refine HF.out.mono ?_
      rintro e w19 ⟨rfl, hat, ho⟩
      have s0 := HS0.out
      have s1 := HS1.out
      have s2 := HS2.out
      have s3 := HS3.out
      have s4 := HS4.out
      have s5 := HS5.out
      have s6 := HS6.out
      have s7 := HS7.out
      have s8 := HS8.out
      have s9 := HS9.out
      have s10 := HS10.out
      have s11 := HS11.out
      have s12 := HS12.out
      have s13 := HS13.out
      have s14 := HS14.out
      have s15 := HS15.out
      have s16 := HS16.out
      have s17 := HS17.out
      have s18 := HS18.out
      have s19 := HS19.out
      replace HA0 := Lib.hid (HA0.out.only ho (by omega))
      replace HA1 := Lib.hid (HA1.out.only ho (by omega))
      replace HA2 := Lib.hid (HA2.out.only ho (by omega))
      replace HB6 := Lib.hid (HB6.out.only ho (by omega))
      replace HU4 := Lib.hid (HU4.out.only ho (by omega))
      replace HU5 := Lib.hid (HU5.out.only ho (by omega))
      replace HU6 := Lib.hid (HU6.out.only ho (by omega))
      replace HU7 := Lib.hid (HU7.out.only ho (by omega))
      replace HB14 := Lib.hid (HB14.out.only ho (by omega))
      replace HU10 := Lib.hid (HU10.out.only ho (by omega))
      replace HU12 := Lib.hid (HU12.out.only ho (by omega))
      replace HW := Lib.hid (HW.out.trans (ho.below (fun k hk => by have := hk.1; omega) (by omega)))
      clear s0 s1 s2 s3 s4 s5 s6 s7 s8 s9 s10 s11 s12 s13 s14 s15 s16 s17 s18 s19
      replace HU8 := Lib.hid hat
      have HS20 := Lib.hid (ho.size)
      clear HF hat ho
      have hnl := nkM_bd (Nat.le_trans (am_len l0 l1 t2 s3) (Nat.le_trans (Nat.add_le_add_right (Nat.le_trans (szM_len _) hZl1) 5000) (by decide)))
      have HF := Lib.hid (heldMarks_any (amL l0 l1 t2 s3) _ (1) w19 HU8.out.listS (by omega) (by omega))
      go_wp2_with fail
      refine HF.out.mono ?_
      rintro e w20 ⟨rfl, hb⟩
      replace HA0 := Lib.hid (HA0.out.read hb)
      replace HA1 := Lib.hid (HA1.out.read hb)
      replace HA2 := Lib.hid (HA2.out.read hb)
      replace HB6 := Lib.hid (HB6.out.read hb)
      replace HU4 := Lib.hid (HU4.out.read hb)
      replace HU5 := Lib.hid (HU5.out.read hb)
      replace HU6 := Lib.hid (HU6.out.read hb)
      replace HU7 := Lib.hid (HU7.out.read hb)
      replace HB14 := Lib.hid (HB14.out.read hb)
      replace HU8 := Lib.hid (HU8.out.read hb)
      replace HU10 := Lib.hid (HU10.out.read hb)
      replace HU12 := Lib.hid (HU12.out.read hb)
      replace HW := Lib.hid (belowOn HW.out (Nat.le_refl _) hb)
      have HS21 := Lib.hid (hb.size)
      clear HF hb
      go_upto_region 40 with (fail)
      go_cut [20, 21] from 122 (fun p b wx => b = .bool (amB l0 l1 t2 s3) ∧ ListS mkE wx Any p (amL l0 l1 t2 s3) ∧ Below w20.heap.size w20 wx)
      case first =>
        obtain ⟨c0a, c0b, c0c, c0d⟩ := HB6.out.cells
        have z0 := HB6.out.le
        have hself : Below w20.heap.size w20 w20 := Below.refl _ _
        have hdrew : Below w20.heap.size w20 w20.drew := hself.drew
        have HCE : Hid (∀ W, Below w20.heap.size w20 W → W.cell? ⟨w.heap.size, 0, none⟩ = some (.int .i64 t2.kind) ∧ W.cell? ⟨w.heap.size, 1, none⟩ = some (.int .i64 t2.num) ∧ W.cell? ⟨w.heap.size, 2, none⟩ = some (.string t2.name) ∧ W.cell? ⟨w.heap.size, 3, none⟩ = some (.slice ad2 t2.args.length cap2)) := Lib.hid fun W hW => by
          obtain ⟨y0a, y0b, y0c, y0d⟩ := (HB6.out.read hW).cells
          exact ⟨y0a, y0b, y0c, y0d⟩
        have HTR : Hid (∀ a b, Below w20.heap.size w20 a → Below a.heap.size a b → Below w20.heap.size w20 b) := Lib.hid fun a b h1 h2 => belowOn h1 (Nat.le_refl _) h2
        have HTO0 : Hid (∀ W, Below w20.heap.size w20 W → Calls Tryz.prog 11 #[(.slice ad0 l0.length cap0)] W fun e w' => ∃ u, e = .returned (u) ∧ (∀ W2, Below w'.heap.size w' W2 → ListS bdE W2 Any u l0) ∧ Below W.heap.size W w') := Lib.hid fun W hW =>
          (toBindingL_any l0 _ W (HA0.out.read hW).listS hZl0).mono fun e w' ⟨u, he, hn⟩ => ⟨u, he, fun W2 h2 => hn.1.inS.any.kept h2, hn.2⟩
        have HTO1 : Hid (∀ W, Below w20.heap.size w20 W → Calls Tryz.prog 26 #[(.slice ad1 l1.length cap1)] W fun e w' => ∃ u, e = .returned (u) ∧ (∀ W2, Below w'.heap.size w' W2 → ListS mkE W2 Any u l1 ∧ CapOk u l1.length) ∧ Below W.heap.size W w') := Lib.hid fun W hW =>
          (toMarks_any l1 _ W (HA1.out.read hW).listS (Nat.le_trans (szM_len _) hZl1)).mono fun e w' ⟨u, he, hn, hu⟩ => ⟨u, he, fun W2 h2 => ⟨hn.1.inS.any.kept h2, ⟨_, _, _, hu, Nat.le_refl _, Nat.le_trans (Nat.le_trans (szM_len _) hZl1) (by decide)⟩⟩, hn.2⟩
        have HTO2 : Hid (∀ W, Below w20.heap.size w20 W → Calls Tryz.prog 13 #[.agg #[.int .i64 t2.kind, .int .i64 t2.num, .string t2.name, .slice ad2 t2.args.length cap2]] W fun e w' => ∃ u, e = .returned (.agg #[.int .i64 t2.kind, .int .i64 t2.num, .string t2.name, u]) ∧ (∀ W2, Below w'.heap.size w' W2 → ArgsAt W2 u t2.args) ∧ Below W.heap.size W w') := Lib.hid fun W hW =>
          (toTerm_any t2 _ W (HA2.out.read hW).argsAt hZt2).mono fun e w' ⟨u, he, hn⟩ => ⟨u, he, fun W2 h2 => hn.1.argsAt.kept h2, hn.2⟩
        have HF : Hid (∀ W u0 u1 u2, Below w20.heap.size w20 W → ListS bdE W Any u0 l0 → ListS mkE W Any u1 l1 ∧ CapOk u1 l1.length → ArgsAt W u2 t2.args → Calls Tryz.prog 27 #[u0, u1, .agg #[.int .i64 t2.kind, .int .i64 t2.num, .string t2.name, u2], .string s3] W (OldM2 (amL l0 l1 t2 s3) (amB l0 l1 t2 s3) W)) := Lib.hid fun W u0 u1 u2 hW hu0 hu1 hu2 => (implAddAbsence_any l0 u0 l1 u1 t2 u2 s3 W hu0 hZl0 f0 hu1.1 hu1.2 f1 (Nat.le_succ_of_le (Nat.le_trans (szM_len _) hZl1)) hu2 hZt2 hZs3).mono fun e w' ⟨v, he, hv, hb⟩ => ⟨v, he, hv.inS.any, hb⟩
        clear HW HA0 HA1 HA2 HB6 HU4 HU5 HU6 HU7 HB14 HU8 HU10 HU12
        go_region_held3 (fun w' => Below w20.heap.size w20 w' ∧ w'.cell? ⟨w.heap.size, 0, none⟩ = some (.int .i64 t2.kind) ∧ w'.cell? ⟨w.heap.size, 1, none⟩ = some (.int .i64 t2.num) ∧ w'.cell? ⟨w.heap.size, 2, none⟩ = some (.string t2.name) ∧ w'.cell? ⟨w.heap.size, 3, none⟩ = some (.slice ad2 t2.args.length cap2)) (go_keep)
          (first
            | (go_at_call 11; (with_reducible refine Calls.mono (HTO0.out _ ?_) ?_); (first | assumption | exact belowAlloc (by assumption) _ | exact (belowAlloc (by assumption) _).drew); rintro e wA0 ⟨u0, rfl, hu0, hb0⟩; have HUU0 := Lib.hid hu0; clear hu0; have hB0 := HTR.out _ _ (by first | assumption | exact belowAlloc (by assumption) _ | exact (belowAlloc (by assumption) _).drew) hb0; obtain ⟨k0, k1, k2, k3⟩ := HCE.out _ hB0)
            | (go_at_call 26; (with_reducible refine Calls.mono (HTO1.out _ ?_) ?_); (first | assumption | exact belowAlloc (by assumption) _ | exact (belowAlloc (by assumption) _).drew); rintro e wA1 ⟨u1, rfl, hu1, hb1⟩; have HUU1 := Lib.hid hu1; clear hu1; have hB1 := HTR.out _ _ (by first | assumption | exact belowAlloc (by assumption) _ | exact (belowAlloc (by assumption) _).drew) hb1; obtain ⟨k0, k1, k2, k3⟩ := HCE.out _ hB1)
            | (go_at_call 13; (with_reducible refine Calls.mono (HTO2.out _ ?_) ?_); (first | assumption | exact belowAlloc (by assumption) _ | exact (belowAlloc (by assumption) _).drew); rintro e wA2 ⟨u2, rfl, hu2, hb2⟩; have HUU2 := Lib.hid hu2; clear hu2; have hB2 := HTR.out _ _ (by first | assumption | exact belowAlloc (by assumption) _ | exact (belowAlloc (by assumption) _).drew) hb2; obtain ⟨k0, k1, k2, k3⟩ := HCE.out _ hB2)
            | (go_at_call 27; (with_reducible refine Calls.mono (HF.out _ _ _ _ ?_ ?_ ?_ ?_) ?_); (assumption); (first | exact HUU0.out _ (Below.refl _ _) | exact HUU0.out _ (by assumption) | exact HUU0.out _ (below3 (by assumption) (by assumption))); (first | exact HUU1.out _ (Below.refl _ _) | exact HUU1.out _ (by assumption) | exact HUU1.out _ (below3 (by assumption) (by assumption))); (first | exact HUU2.out _ (Below.refl _ _) | exact HUU2.out _ (by assumption) | exact HUU2.out _ (below3 (by assumption) (by assumption))); rintro e w' ⟨v9, rfl, hv9, hbz⟩; have hB' := HTR.out _ _ (by assumption) hbz; have HVV := Lib.hid hv9; clear hv9; obtain ⟨k0, k1, k2, k3⟩ := HCE.out _ hB'))
        all_goals (go_wp2_with fail; go_meet; exact ⟨rfl, HVV.out, by assumption⟩)
      case rest =>
        obtain ⟨rfl, hv, hb⟩ := hcut
        obtain ⟨w21, rfl⟩ : ∃ x : World, x = wc := ⟨_, rfl⟩
        replace HA0 := Lib.hid (HA0.out.read hb)
        replace HA1 := Lib.hid (HA1.out.read hb)
        replace HA2 := Lib.hid (HA2.out.read hb)
        replace HB6 := Lib.hid (HB6.out.read hb)
        replace HU4 := Lib.hid (HU4.out.read hb)
        replace HU5 := Lib.hid (HU5.out.read hb)
        replace HU6 := Lib.hid (HU6.out.read hb)
        replace HU7 := Lib.hid (HU7.out.read hb)
        replace HB14 := Lib.hid (HB14.out.read hb)
        replace HU8 := Lib.hid (HU8.out.read hb)
        replace HU10 := Lib.hid (HU10.out.read hb)
        replace HU12 := Lib.hid (HU12.out.read hb)
        replace HW := Lib.hid (belowOn HW.out (Nat.le_refl _) hb)
        have HS22 := Lib.hid (hb.size)
        have HU21 := Lib.hid (at_list hv)
        obtain ⟨ad121, cap121, rfl⟩ := hv.slice
        clear hv hb
        have HF := Lib.hid (eqMarks_any (amL l0 l1 t2 s3) _ _ w21 HU21.out.listS HU4.out.listS (Nat.le_trans (am_len l0 l1 t2 s3) (Nat.le_trans (Nat.add_le_add_right (Nat.le_trans (szM_len _) hZl1) 5000) (by decide))))
        go_wp2_with fail
        refine HF.out.mono ?_
        rintro e w22 ⟨rfl, hb⟩
        replace HA0 := Lib.hid (HA0.out.read hb)
        replace HA1 := Lib.hid (HA1.out.read hb)
        replace HA2 := Lib.hid (HA2.out.read hb)
        replace HB6 := Lib.hid (HB6.out.read hb)
        replace HU4 := Lib.hid (HU4.out.read hb)
        replace HU5 := Lib.hid (HU5.out.read hb)
        replace HU6 := Lib.hid (HU6.out.read hb)
        replace HU7 := Lib.hid (HU7.out.read hb)
        replace HB14 := Lib.hid (HB14.out.read hb)
        replace HU8 := Lib.hid (HU8.out.read hb)
        replace HU10 := Lib.hid (HU10.out.read hb)
        replace HU12 := Lib.hid (HU12.out.read hb)
        replace HU21 := Lib.hid (HU21.out.read hb)
        replace HW := Lib.hid (belowOn HW.out (Nat.le_refl _) hb)
        have HS23 := Lib.hid (hb.size)
        clear HF hb
        have hnl := nkM_bd (Nat.le_trans (am_len l0 l1 t2 s3) (Nat.le_trans (Nat.add_le_add_right (Nat.le_trans (szM_len _) hZl1) 5000) (by decide)))
        have HF := Lib.hid (heldMarks_any (amL l0 l1 t2 s3) _ (1) w22 HU8.out.listS (by omega) (by omega))
        go_wp2_with fail
        refine HF.out.mono ?_
        rintro e w23 ⟨rfl, hb⟩
        replace HA0 := Lib.hid (HA0.out.read hb)
        replace HA1 := Lib.hid (HA1.out.read hb)
        replace HA2 := Lib.hid (HA2.out.read hb)
        replace HB6 := Lib.hid (HB6.out.read hb)
        replace HU4 := Lib.hid (HU4.out.read hb)
        replace HU5 := Lib.hid (HU5.out.read hb)
        replace HU6 := Lib.hid (HU6.out.read hb)
        replace HU7 := Lib.hid (HU7.out.read hb)
        replace HB14 := Lib.hid (HB14.out.read hb)
        replace HU8 := Lib.hid (HU8.out.read hb)
        replace HU10 := Lib.hid (HU10.out.read hb)
        replace HU12 := Lib.hid (HU12.out.read hb)
        replace HU21 := Lib.hid (HU21.out.read hb)
        replace HW := Lib.hid (belowOn HW.out (Nat.le_refl _) hb)
        have HS24 := Lib.hid (hb.size)
        clear HF hb
        go_wp2
        go_ret
        exact ⟨rfl, HW.out⟩
end Go.Proofs.YtnmdnajbafpfiaaGreat

