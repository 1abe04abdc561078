/-
  The model's l02Insert on a row (ZE; written by gen_insert.py).
  The model's l02Insert on a row (ZL; written by gen_insert.py).
  The model's l02Insert on a row (ZN; written by gen_insert.py).
  The model's l02Insert on an empty row without room.
  The model's l02Insert on a row (SE; written by gen_insert.py).
  The model's l02Insert on a row (SL; written by gen_insert.py).
  The model's l02Insert on a row (SN; written by gen_insert.py).
  The model's l02Insert on a row (SC; written by gen_insert.py).
-/
import Derived.Test.YtjmmeccfjanpcaaDoorInsert
namespace Go.Proofs.YtjmmeccfjanpcaaDoor
open Go.RowKit
set_option linter.unusedVariables false
set_option linter.unusedSimpArgs false

set_option maxRecDepth 100000 in
set_option maxHeartbeats 3000000 in
theorem insert_ZE (b g cap : Nat) (xs : List Int) (n : Int) (w : World) (hrow : Row w b 3 (.slice (some ⟨g, 0, none⟩) xs.length cap) (xs.map (Value.int .i64))) (hl : xs.length ≤ 1048576) (hcap : xs.length ≤ cap) (hg : g < w.heap.size) (hcm : cap ≤ 9223372036854775807)
    (hK : scan xs n xs.length = 0) (hlt : 0 < xs.length) (hN0 : xs.getD 0 0 = n) :
    Calls Tryd.prog 54 #[.slice (some ⟨g, 0, none⟩) xs.length cap, .int .i64 n] w fun e w' => ∃ u, e = .returned u ∧ Row w' 0 3 u ((insAsc xs n).map (Value.int .i64)) ∧ Below w.heap.size w w' := by
  obtain ⟨i0, hi, hz0, hz1, hz2⟩ := info_parts infoInt
  have HII := Lib.hid (And.intro hi (And.intro hz0 (And.intro hz1 hz2)))
  clear hi hz0 hz1 hz2
  have HC : Hid (∀ W, Below w.heap.size w W → ∀ j, j < xs.length → W.cell? ⟨g, j, none⟩ = some (.int .i64 (xs.getD j 0))) := Lib.hid (fun W hW j hj => by
    refine (hW.cell (p := ⟨g, j, none⟩) hg).trans ?_
    have h := hrow
    unfold Row at h
    rw [List.length_map] at h
    rw [World.ownsRow.cellAt h j (by omega)]
    simp [List.getD, hj])
  have HROW := Lib.hid hrow
  have HS0 := Lib.hid (row_start (w := w) (e := 3) (Nat.le_refl _))
  have HB0 := Lib.hid ((Below.refl w.heap.size w).alloc (Nat.le_refl _) (.cells #[] 3))
  have HIN : Hid (insAsc xs n = xs) := Lib.hid (by unfold insAsc; rw [hK, if_pos]; rw [List.getElem?_eq_getElem hlt]; congr 1; rw [← hN0]; simp [List.getD, hlt])
  have HK := Lib.hid hK
  clear hrow hK
  have HN0 := Lib.hid hN0
  clear hN0
  go_enter Tryd.func54, Tryd.ntmps54
  go_wp2
  go_loop [5] (fun i => ∃ k : Nat, k ≤ xs.length ∧ i = .int .i64 k ∧ Hid (scan xs n xs.length = scan xs n k)) (fun i => (intOf i).toNat)
  case atStart => exact ⟨xs.length, Nat.le_refl _, rfl, Lib.hid rfl⟩
  case round =>
    obtain ⟨k, hk, rfl, HSC⟩ := hrel
    by_cases hk0 : k = 0
    · subst hk0
      have hP : scan xs n xs.length = 0 := by rw [HSC.out]; rfl
      clear hP HSC
      have hcell := HC.out w (Below.refl _ _) (0) hlt
      generalize hy : xs.getD (0) 0 = y at hcell
      have HY := Lib.hid hy
      clear hy
      have hyn : y = n := by rw [← HY.out]; exact HN0.out
      subst hyn
      go_wp2
      go_ret
      exact ⟨_, rfl, by rw [HIN.out]; exact HROW.out.base (Nat.zero_le _), Below.refl _ _⟩
    · obtain ⟨i, rfl⟩ : ∃ i, k = i + 1 := ⟨k - 1, by omega⟩
      have hcell1 := HC.out w (Below.refl _ _) i (by omega)
      generalize hx : xs.getD i 0 = x at hcell1
      have HX := Lib.hid hx
      clear hx
      by_cases hle : n ≤ x
      · have HN : Hid (scan xs n xs.length = scan xs n i) := Lib.hid (by rw [HSC.out, scan, if_pos (by rw [HX.out]; exact hle)])
        go_wp2
        go_round
        case rel => exact ⟨i, by omega, by go_num, HN⟩
        case measure => simp [intOf] <;> omega
      · have hP : scan xs n xs.length = i + 1 := by rw [HSC.out, scan, if_neg (by rw [HX.out]; exact hle)]
        exact absurd (hP.symm.trans HK.out) (by omega)
end Go.Proofs.YtjmmeccfjanpcaaDoor

namespace Go.Proofs.YtjmmeccfjanpcaaDoor
open Go.RowKit
set_option linter.unusedVariables false
set_option linter.unusedSimpArgs false

set_option maxRecDepth 100000 in
set_option maxHeartbeats 3000000 in
theorem insert_ZL (b g cap : Nat) (xs : List Int) (n : Int) (w : World) (hrow : Row w b 3 (.slice (some ⟨g, 0, none⟩) xs.length cap) (xs.map (Value.int .i64))) (hl : xs.length ≤ 1048576) (hcap : xs.length ≤ cap) (hg : g < w.heap.size) (hcm : cap ≤ 9223372036854775807)
    (hK : scan xs n xs.length = 0) (hlt : 0 < xs.length) (hN0 : ¬ xs.getD 0 0 = n) :
    Calls Tryd.prog 54 #[.slice (some ⟨g, 0, none⟩) xs.length cap, .int .i64 n] w fun e w' => ∃ u, e = .returned u ∧ Row w' 0 3 u ((insAsc xs n).map (Value.int .i64)) ∧ Below w.heap.size w w' := by
  obtain ⟨i0, hi, hz0, hz1, hz2⟩ := info_parts infoInt
  have HII := Lib.hid (And.intro hi (And.intro hz0 (And.intro hz1 hz2)))
  clear hi hz0 hz1 hz2
  have HC : Hid (∀ W, Below w.heap.size w W → ∀ j, j < xs.length → W.cell? ⟨g, j, none⟩ = some (.int .i64 (xs.getD j 0))) := Lib.hid (fun W hW j hj => by
    refine (hW.cell (p := ⟨g, j, none⟩) hg).trans ?_
    have h := hrow
    unfold Row at h
    rw [List.length_map] at h
    rw [World.ownsRow.cellAt h j (by omega)]
    simp [List.getD, hj])
  have HROW := Lib.hid hrow
  have HS0 := Lib.hid (row_start (w := w) (e := 3) (Nat.le_refl _))
  have HB0 := Lib.hid ((Below.refl w.heap.size w).alloc (Nat.le_refl _) (.cells #[] 3))
  have HIN : Hid (insAsc xs n = xs.take 0 ++ n :: xs.drop 0) := Lib.hid (by unfold insAsc; rw [hK, if_neg]; rw [List.getElem?_eq_getElem hlt]; intro h; apply hN0; simpa [List.getD, hlt] using h)
  have HK := Lib.hid hK
  clear hrow hK
  have HN0 := Lib.hid hN0
  clear hN0
  go_enter Tryd.func54, Tryd.ntmps54
  go_wp2
  go_loop [5] (fun i => ∃ k : Nat, k ≤ xs.length ∧ i = .int .i64 k ∧ Hid (scan xs n xs.length = scan xs n k)) (fun i => (intOf i).toNat)
  case atStart => exact ⟨xs.length, Nat.le_refl _, rfl, Lib.hid rfl⟩
  case round =>
    obtain ⟨k, hk, rfl, HSC⟩ := hrel
    by_cases hk0 : k = 0
    · subst hk0
      have hP : scan xs n xs.length = 0 := by rw [HSC.out]; rfl
      clear hP HSC
      have hcell := HC.out w (Below.refl _ _) (0) hlt
      generalize hy : xs.getD (0) 0 = y at hcell
      have HY := Lib.hid hy
      clear hy
      have heq : ¬ y = n := by rw [← HY.out]; exact HN0.out
      have HT1 := Lib.hid (fun (W : World) (hW : Below w.heap.size w W) => cells_take (K := 0) (HC.out W hW))
      have HT2 := Lib.hid (fun (W : World) (hW : Below w.heap.size w W) => cells_drop (K := 0) (HC.out W hW))
      have hkc2 : 0 < cap := by omega
      go_upto_region 6 with (fail)
      go_wp2_with (first
        | (at_builtin; refine append_part rfl _ _ 64 rfl w.heap.size 3 i0 _ 8 Tryd.underlying64 HII.out.1 HII.out.2.1 HII.out.2.2.1 HII.out.2.2.2 rfl (by decide) _ _ rfl HS0.out _ _ _ rfl ((xs.take (0)).map (Value.int .i64)) (by simp <;> omega) (fun h => by cases h) (fun ad h => by cases h; exact HT1.out _ HB0.out) (ints_one _) (by simp <;> omega) (by simp) ?_; intro v1 w1 hown1 hb1; have HO1 := Lib.hid hown1; have HB1 := Lib.hid (HB0.out.trans hb1); have hs1 := HB1.out.size; clear hown1 hb1 HS0)
        | (at_builtin; refine append_one rfl _ _ 64 rfl w.heap.size 3 i0 _ 8 Tryd.underlying64 HII.out.1 HII.out.2.1 HII.out.2.2.1 HII.out.2.2.2 rfl (by decide) _ _ rfl HO1.out (.int .i64 n) rfl rfl (by simp <;> omega) hs1 ?_; intro v2 w2 hown2 hb2; have HO2 := Lib.hid hown2; have HB2 := Lib.hid (HB1.out.trans hb2); have hs2 := HB2.out.size; clear hown2 hb2 HO1)
        | (at_builtin; refine append_part rfl _ _ 64 rfl w.heap.size 3 i0 _ 8 Tryd.underlying64 HII.out.1 HII.out.2.1 HII.out.2.2.1 HII.out.2.2.2 rfl (by decide) _ _ rfl HO2.out _ _ _ rfl ((xs.drop (0)).map (Value.int .i64)) (by simp <;> omega) (fun h => by cases h) (fun ad h => by cases h; exact HT2.out _ HB2.out) (ints_one _) (by simp <;> omega) hs2 ?_; intro v3 w3 hown3 hb3; have HO3 := Lib.hid hown3; have HB3 := Lib.hid (HB2.out.trans hb3); clear hown3 hb3 HO2))
      go_ret
      exact ⟨_, rfl, by have h := HO3.out.base (Nat.zero_le _); rw [HIN.out]; simpa using h, HB3.out⟩
    · obtain ⟨i, rfl⟩ : ∃ i, k = i + 1 := ⟨k - 1, by omega⟩
      have hcell1 := HC.out w (Below.refl _ _) i (by omega)
      generalize hx : xs.getD i 0 = x at hcell1
      have HX := Lib.hid hx
      clear hx
      by_cases hle : n ≤ x
      · have HN : Hid (scan xs n xs.length = scan xs n i) := Lib.hid (by rw [HSC.out, scan, if_pos (by rw [HX.out]; exact hle)])
        go_wp2
        go_round
        case rel => exact ⟨i, by omega, by go_num, HN⟩
        case measure => simp [intOf] <;> omega
      · have hP : scan xs n xs.length = i + 1 := by rw [HSC.out, scan, if_neg (by rw [HX.out]; exact hle)]
        exact absurd (hP.symm.trans HK.out) (by omega)
end Go.Proofs.YtjmmeccfjanpcaaDoor

namespace Go.Proofs.YtjmmeccfjanpcaaDoor
open Go.RowKit
set_option linter.unusedVariables false
set_option linter.unusedSimpArgs false

set_option maxRecDepth 100000 in
set_option maxHeartbeats 3000000 in
theorem insert_ZN (b g cap : Nat) (xs : List Int) (n : Int) (w : World) (hrow : Row w b 3 (.slice (some ⟨g, 0, none⟩) xs.length cap) (xs.map (Value.int .i64))) (hl : xs.length ≤ 1048576) (hcap : xs.length ≤ cap) (hg : g < w.heap.size) (hcm : cap ≤ 9223372036854775807)
    (hK : scan xs n xs.length = 0) (hkl : 0 = xs.length) (hkc : 0 < cap) :
    Calls Tryd.prog 54 #[.slice (some ⟨g, 0, none⟩) xs.length cap, .int .i64 n] w fun e w' => ∃ u, e = .returned u ∧ Row w' 0 3 u ((insAsc xs n).map (Value.int .i64)) ∧ Below w.heap.size w w' := by
  obtain ⟨i0, hi, hz0, hz1, hz2⟩ := info_parts infoInt
  have HII := Lib.hid (And.intro hi (And.intro hz0 (And.intro hz1 hz2)))
  clear hi hz0 hz1 hz2
  have HC : Hid (∀ W, Below w.heap.size w W → ∀ j, j < xs.length → W.cell? ⟨g, j, none⟩ = some (.int .i64 (xs.getD j 0))) := Lib.hid (fun W hW j hj => by
    refine (hW.cell (p := ⟨g, j, none⟩) hg).trans ?_
    have h := hrow
    unfold Row at h
    rw [List.length_map] at h
    rw [World.ownsRow.cellAt h j (by omega)]
    simp [List.getD, hj])
  have HROW := Lib.hid hrow
  have HS0 := Lib.hid (row_start (w := w) (e := 3) (Nat.le_refl _))
  have HB0 := Lib.hid ((Below.refl w.heap.size w).alloc (Nat.le_refl _) (.cells #[] 3))
  have HIN : Hid (insAsc xs n = xs.take 0 ++ n :: xs.drop 0) := Lib.hid (by unfold insAsc; rw [hK, if_neg]; rw [List.getElem?_eq_none (by omega)]; simp)
  have HK := Lib.hid hK
  clear hrow hK
  have hnl : ¬ 0 < xs.length := by omega
  have HKL := Lib.hid hkl
  clear hkl
  go_enter Tryd.func54, Tryd.ntmps54
  go_wp2
  go_loop [5] (fun i => ∃ k : Nat, k ≤ xs.length ∧ i = .int .i64 k ∧ Hid (scan xs n xs.length = scan xs n k)) (fun i => (intOf i).toNat)
  case atStart => exact ⟨xs.length, Nat.le_refl _, rfl, Lib.hid rfl⟩
  case round =>
    obtain ⟨k, hk, rfl, HSC⟩ := hrel
    by_cases hk0 : k = 0
    · subst hk0
      have hP : scan xs n xs.length = 0 := by rw [HSC.out]; rfl
      clear hP HSC
      have HT1 := Lib.hid (fun (W : World) (hW : Below w.heap.size w W) => cells_take (K := 0) (HC.out W hW))
      have HT2 := Lib.hid (fun (W : World) (hW : Below w.heap.size w W) => cells_drop (K := 0) (HC.out W hW))
      have hkc2 : 0 < cap := by omega
      go_upto_region 6 with (fail)
      go_wp2_with (first
        | (at_builtin; refine append_part rfl _ _ 64 rfl w.heap.size 3 i0 _ 8 Tryd.underlying64 HII.out.1 HII.out.2.1 HII.out.2.2.1 HII.out.2.2.2 rfl (by decide) _ _ rfl HS0.out _ _ _ rfl ((xs.take (0)).map (Value.int .i64)) (by simp <;> omega) (fun h => by cases h) (fun ad h => by cases h; exact HT1.out _ HB0.out) (ints_one _) (by simp <;> omega) (by simp) ?_; intro v1 w1 hown1 hb1; have HO1 := Lib.hid hown1; have HB1 := Lib.hid (HB0.out.trans hb1); have hs1 := HB1.out.size; clear hown1 hb1 HS0)
        | (at_builtin; refine append_one rfl _ _ 64 rfl w.heap.size 3 i0 _ 8 Tryd.underlying64 HII.out.1 HII.out.2.1 HII.out.2.2.1 HII.out.2.2.2 rfl (by decide) _ _ rfl HO1.out (.int .i64 n) rfl rfl (by simp <;> omega) hs1 ?_; intro v2 w2 hown2 hb2; have HO2 := Lib.hid hown2; have HB2 := Lib.hid (HB1.out.trans hb2); have hs2 := HB2.out.size; clear hown2 hb2 HO1)
        | (at_builtin; refine append_part rfl _ _ 64 rfl w.heap.size 3 i0 _ 8 Tryd.underlying64 HII.out.1 HII.out.2.1 HII.out.2.2.1 HII.out.2.2.2 rfl (by decide) _ _ rfl HO2.out _ _ _ rfl ((xs.drop (0)).map (Value.int .i64)) (by simp <;> omega) (fun h => by cases h) (fun ad h => by cases h; exact HT2.out _ HB2.out) (ints_one _) (by simp <;> omega) hs2 ?_; intro v3 w3 hown3 hb3; have HO3 := Lib.hid hown3; have HB3 := Lib.hid (HB2.out.trans hb3); clear hown3 hb3 HO2))
      go_ret
      exact ⟨_, rfl, by have h := HO3.out.base (Nat.zero_le _); rw [HIN.out]; simpa using h, HB3.out⟩
    · obtain ⟨i, rfl⟩ : ∃ i, k = i + 1 := ⟨k - 1, by omega⟩
      have hcell1 := HC.out w (Below.refl _ _) i (by omega)
      generalize hx : xs.getD i 0 = x at hcell1
      have HX := Lib.hid hx
      clear hx
      by_cases hle : n ≤ x
      · have HN : Hid (scan xs n xs.length = scan xs n i) := Lib.hid (by rw [HSC.out, scan, if_pos (by rw [HX.out]; exact hle)])
        go_wp2
        go_round
        case rel => exact ⟨i, by omega, by go_num, HN⟩
        case measure => simp [intOf] <;> omega
      · have hP : scan xs n xs.length = i + 1 := by rw [HSC.out, scan, if_neg (by rw [HX.out]; exact hle)]
        exact absurd (hP.symm.trans HK.out) (by omega)
end Go.Proofs.YtjmmeccfjanpcaaDoor

namespace Go.Proofs.YtjmmeccfjanpcaaDoor
open Go.RowKit
set_option linter.unusedVariables false
set_option linter.unusedSimpArgs false

set_option maxRecDepth 100000 in
set_option maxHeartbeats 1600000 in
theorem insert_ZC (g : Nat) (n : Int) (w : World) :
    Calls Tryd.prog 54 #[.slice (some ⟨g, 0, none⟩) 0 0, .int .i64 n] w fun e w' => ∃ u, e = .returned u ∧ Row w' w.heap.size 3 u [.int .i64 n] ∧ Below w.heap.size w w' := by
  obtain ⟨i0, hi, hz0, hz1, hz2⟩ := info_parts infoInt
  have HII := Lib.hid (And.intro hi (And.intro hz0 (And.intro hz1 hz2)))
  clear hi hz0 hz1 hz2
  have HS := Lib.hid (row_start (w := w) (e := 3) (Nat.le_refl _))
  have HB := Lib.hid ((Below.refl w.heap.size w).alloc (Nat.le_refl _) (.cells #[] 3))
  go_enter Tryd.func54, Tryd.ntmps54
  go_wp2
  refine wp_loop_rounds 1 ?_
  rw [rounds_succ]
  go_upto_region 6 with (fail)
  go_wp2_with (first
    | (at_builtin; refine append_part rfl _ _ 64 rfl w.heap.size 3 i0 _ 8 Tryd.underlying64 HII.out.1 HII.out.2.1 HII.out.2.2.1 HII.out.2.2.2 rfl (by decide) _ _ rfl HS.out (some ⟨g, 0, none⟩) 0 0 rfl [] rfl (fun h => by cases h) (fun ad h j u hu => by simp at hu) (fun u h => by simp at h) (by simp) (by simp) ?_; intro v1 w1 hown1 hb1; have HO1 := Lib.hid hown1; have HB1 := Lib.hid (HB.out.trans hb1); have hs1 := HB1.out.size; clear hown1 hb1 HS)
    | (at_builtin; refine append_one rfl _ _ 64 rfl w.heap.size 3 i0 _ 8 Tryd.underlying64 HII.out.1 HII.out.2.1 HII.out.2.2.1 HII.out.2.2.2 rfl (by decide) _ _ rfl HO1.out (.int .i64 n) rfl rfl (by simp) hs1 ?_; intro v2 w2 hown2 hb2; have HO2 := Lib.hid hown2; have HB2 := Lib.hid (HB1.out.trans hb2); have hs2 := HB2.out.size; clear hown2 hb2 HO1)
    | (at_builtin; refine append_part rfl _ _ 64 rfl w.heap.size 3 i0 _ 8 Tryd.underlying64 HII.out.1 HII.out.2.1 HII.out.2.2.1 HII.out.2.2.2 rfl (by decide) _ _ rfl HO2.out (some ⟨g, 0, none⟩) 0 0 rfl [] rfl (fun h => by cases h) (fun ad h j u hu => by simp at hu) (fun u h => by simp at h) (by simp) hs2 ?_; intro v3 w3 hown3 hb3; have HO3 := Lib.hid hown3; have HB3 := Lib.hid (HB2.out.trans hb3); clear hown3 hb3 HO2))
  go_ret
  exact ⟨_, rfl, by have h := HO3.out; simpa using h, HB3.out⟩
end Go.Proofs.YtjmmeccfjanpcaaDoor

namespace Go.Proofs.YtjmmeccfjanpcaaDoor
open Go.RowKit
set_option linter.unusedVariables false
set_option linter.unusedSimpArgs false

set_option maxRecDepth 100000 in
set_option maxHeartbeats 3000000 in
theorem insert_SE (b g cap : Nat) (xs : List Int) (n : Int) (w : World) (j : Nat) (hrow : Row w b 3 (.slice (some ⟨g, 0, none⟩) xs.length cap) (xs.map (Value.int .i64))) (hl : xs.length ≤ 1048576) (hcap : xs.length ≤ cap) (hg : g < w.heap.size) (hcm : cap ≤ 9223372036854775807)
    (hK : scan xs n xs.length = (j + 1)) (hlt : (j + 1) < xs.length) (hN0 : xs.getD (j + 1) 0 = n) :
    Calls Tryd.prog 54 #[.slice (some ⟨g, 0, none⟩) xs.length cap, .int .i64 n] w fun e w' => ∃ u, e = .returned u ∧ Row w' 0 3 u ((insAsc xs n).map (Value.int .i64)) ∧ Below w.heap.size w w' := by
  obtain ⟨i0, hi, hz0, hz1, hz2⟩ := info_parts infoInt
  have HII := Lib.hid (And.intro hi (And.intro hz0 (And.intro hz1 hz2)))
  clear hi hz0 hz1 hz2
  have HC : Hid (∀ W, Below w.heap.size w W → ∀ j, j < xs.length → W.cell? ⟨g, j, none⟩ = some (.int .i64 (xs.getD j 0))) := Lib.hid (fun W hW j hj => by
    refine (hW.cell (p := ⟨g, j, none⟩) hg).trans ?_
    have h := hrow
    unfold Row at h
    rw [List.length_map] at h
    rw [World.ownsRow.cellAt h j (by omega)]
    simp [List.getD, hj])
  have HROW := Lib.hid hrow
  have HS0 := Lib.hid (row_start (w := w) (e := 3) (Nat.le_refl _))
  have HB0 := Lib.hid ((Below.refl w.heap.size w).alloc (Nat.le_refl _) (.cells #[] 3))
  have HIN : Hid (insAsc xs n = xs) := Lib.hid (by unfold insAsc; rw [hK, if_pos]; rw [List.getElem?_eq_getElem hlt]; congr 1; rw [← hN0]; simp [List.getD, hlt])
  have HK := Lib.hid hK
  clear hrow hK
  have HN0 := Lib.hid hN0
  clear hN0
  go_enter Tryd.func54, Tryd.ntmps54
  go_wp2
  go_loop [5] (fun i => ∃ k : Nat, k ≤ xs.length ∧ i = .int .i64 k ∧ Hid (scan xs n xs.length = scan xs n k)) (fun i => (intOf i).toNat)
  case atStart => exact ⟨xs.length, Nat.le_refl _, rfl, Lib.hid rfl⟩
  case round =>
    obtain ⟨k, hk, rfl, HSC⟩ := hrel
    by_cases hk0 : k = 0
    · subst hk0
      have hP : scan xs n xs.length = 0 := by rw [HSC.out]; rfl
      exact absurd (hP.symm.trans HK.out) (by omega)
    · obtain ⟨i, rfl⟩ : ∃ i, k = i + 1 := ⟨k - 1, by omega⟩
      have hcell1 := HC.out w (Below.refl _ _) i (by omega)
      generalize hx : xs.getD i 0 = x at hcell1
      have HX := Lib.hid hx
      clear hx
      by_cases hle : n ≤ x
      · have HN : Hid (scan xs n xs.length = scan xs n i) := Lib.hid (by rw [HSC.out, scan, if_pos (by rw [HX.out]; exact hle)])
        go_wp2
        go_round
        case rel => exact ⟨i, by omega, by go_num, HN⟩
        case measure => simp [intOf] <;> omega
      · have hP : scan xs n xs.length = i + 1 := by rw [HSC.out, scan, if_neg (by rw [HX.out]; exact hle)]
        obtain rfl : j = i := by have := hP.symm.trans HK.out; omega
        clear hP HSC
        have hcell := HC.out w (Below.refl _ _) (j + 1) hlt
        generalize hy : xs.getD (j + 1) 0 = y at hcell
        have HY := Lib.hid hy
        clear hy
        have hyn : y = n := by rw [← HY.out]; exact HN0.out
        subst hyn
        go_wp2
        go_ret
        exact ⟨_, rfl, by rw [HIN.out]; exact HROW.out.base (Nat.zero_le _), Below.refl _ _⟩
end Go.Proofs.YtjmmeccfjanpcaaDoor

namespace Go.Proofs.YtjmmeccfjanpcaaDoor
open Go.RowKit
set_option linter.unusedVariables false
set_option linter.unusedSimpArgs false

set_option maxRecDepth 100000 in
set_option maxHeartbeats 3000000 in
theorem insert_SL (b g cap : Nat) (xs : List Int) (n : Int) (w : World) (j : Nat) (hrow : Row w b 3 (.slice (some ⟨g, 0, none⟩) xs.length cap) (xs.map (Value.int .i64))) (hl : xs.length ≤ 1048576) (hcap : xs.length ≤ cap) (hg : g < w.heap.size) (hcm : cap ≤ 9223372036854775807)
    (hK : scan xs n xs.length = (j + 1)) (hlt : (j + 1) < xs.length) (hN0 : ¬ xs.getD (j + 1) 0 = n) :
    Calls Tryd.prog 54 #[.slice (some ⟨g, 0, none⟩) xs.length cap, .int .i64 n] w fun e w' => ∃ u, e = .returned u ∧ Row w' 0 3 u ((insAsc xs n).map (Value.int .i64)) ∧ Below w.heap.size w w' := by
  obtain ⟨i0, hi, hz0, hz1, hz2⟩ := info_parts infoInt
  have HII := Lib.hid (And.intro hi (And.intro hz0 (And.intro hz1 hz2)))
  clear hi hz0 hz1 hz2
  have HC : Hid (∀ W, Below w.heap.size w W → ∀ j, j < xs.length → W.cell? ⟨g, j, none⟩ = some (.int .i64 (xs.getD j 0))) := Lib.hid (fun W hW j hj => by
    refine (hW.cell (p := ⟨g, j, none⟩) hg).trans ?_
    have h := hrow
    unfold Row at h
    rw [List.length_map] at h
    rw [World.ownsRow.cellAt h j (by omega)]
    simp [List.getD, hj])
  have HROW := Lib.hid hrow
  have HS0 := Lib.hid (row_start (w := w) (e := 3) (Nat.le_refl _))
  have HB0 := Lib.hid ((Below.refl w.heap.size w).alloc (Nat.le_refl _) (.cells #[] 3))
  have HIN : Hid (insAsc xs n = xs.take (j + 1) ++ n :: xs.drop (j + 1)) := Lib.hid (by unfold insAsc; rw [hK, if_neg]; rw [List.getElem?_eq_getElem hlt]; intro h; apply hN0; simpa [List.getD, hlt] using h)
  have HK := Lib.hid hK
  clear hrow hK
  have HN0 := Lib.hid hN0
  clear hN0
  go_enter Tryd.func54, Tryd.ntmps54
  go_wp2
  go_loop [5] (fun i => ∃ k : Nat, k ≤ xs.length ∧ i = .int .i64 k ∧ Hid (scan xs n xs.length = scan xs n k)) (fun i => (intOf i).toNat)
  case atStart => exact ⟨xs.length, Nat.le_refl _, rfl, Lib.hid rfl⟩
  case round =>
    obtain ⟨k, hk, rfl, HSC⟩ := hrel
    by_cases hk0 : k = 0
    · subst hk0
      have hP : scan xs n xs.length = 0 := by rw [HSC.out]; rfl
      exact absurd (hP.symm.trans HK.out) (by omega)
    · obtain ⟨i, rfl⟩ : ∃ i, k = i + 1 := ⟨k - 1, by omega⟩
      have hcell1 := HC.out w (Below.refl _ _) i (by omega)
      generalize hx : xs.getD i 0 = x at hcell1
      have HX := Lib.hid hx
      clear hx
      by_cases hle : n ≤ x
      · have HN : Hid (scan xs n xs.length = scan xs n i) := Lib.hid (by rw [HSC.out, scan, if_pos (by rw [HX.out]; exact hle)])
        go_wp2
        go_round
        case rel => exact ⟨i, by omega, by go_num, HN⟩
        case measure => simp [intOf] <;> omega
      · have hP : scan xs n xs.length = i + 1 := by rw [HSC.out, scan, if_neg (by rw [HX.out]; exact hle)]
        obtain rfl : j = i := by have := hP.symm.trans HK.out; omega
        clear hP HSC
        have hcell := HC.out w (Below.refl _ _) (j + 1) hlt
        generalize hy : xs.getD (j + 1) 0 = y at hcell
        have HY := Lib.hid hy
        clear hy
        have heq : ¬ y = n := by rw [← HY.out]; exact HN0.out
        have HT1 := Lib.hid (fun (W : World) (hW : Below w.heap.size w W) => cells_take (K := j + 1) (HC.out W hW))
        have HT2 := Lib.hid (fun (W : World) (hW : Below w.heap.size w W) => cells_drop (K := j + 1) (HC.out W hW))
        have hkc2 : j + 1 < cap := by omega
        go_upto_region 6 with (fail)
        go_wp2_with (first
          | (at_builtin; refine append_part rfl _ _ 64 rfl w.heap.size 3 i0 _ 8 Tryd.underlying64 HII.out.1 HII.out.2.1 HII.out.2.2.1 HII.out.2.2.2 rfl (by decide) _ _ rfl HS0.out _ _ _ rfl ((xs.take (j + 1)).map (Value.int .i64)) (by simp <;> omega) (fun h => by cases h) (fun ad h => by cases h; exact HT1.out _ HB0.out) (ints_one _) (by simp <;> omega) (by simp) ?_; intro v1 w1 hown1 hb1; have HO1 := Lib.hid hown1; have HB1 := Lib.hid (HB0.out.trans hb1); have hs1 := HB1.out.size; clear hown1 hb1 HS0)
          | (at_builtin; refine append_one rfl _ _ 64 rfl w.heap.size 3 i0 _ 8 Tryd.underlying64 HII.out.1 HII.out.2.1 HII.out.2.2.1 HII.out.2.2.2 rfl (by decide) _ _ rfl HO1.out (.int .i64 n) rfl rfl (by simp <;> omega) hs1 ?_; intro v2 w2 hown2 hb2; have HO2 := Lib.hid hown2; have HB2 := Lib.hid (HB1.out.trans hb2); have hs2 := HB2.out.size; clear hown2 hb2 HO1)
          | (at_builtin; refine append_part rfl _ _ 64 rfl w.heap.size 3 i0 _ 8 Tryd.underlying64 HII.out.1 HII.out.2.1 HII.out.2.2.1 HII.out.2.2.2 rfl (by decide) _ _ rfl HO2.out _ _ _ rfl ((xs.drop (j + 1)).map (Value.int .i64)) (by simp <;> omega) (fun h => by cases h) (fun ad h => by cases h; exact HT2.out _ HB2.out) (ints_one _) (by simp <;> omega) hs2 ?_; intro v3 w3 hown3 hb3; have HO3 := Lib.hid hown3; have HB3 := Lib.hid (HB2.out.trans hb3); clear hown3 hb3 HO2))
        go_ret
        exact ⟨_, rfl, by have h := HO3.out.base (Nat.zero_le _); rw [HIN.out]; simpa using h, HB3.out⟩
end Go.Proofs.YtjmmeccfjanpcaaDoor

namespace Go.Proofs.YtjmmeccfjanpcaaDoor
open Go.RowKit
set_option linter.unusedVariables false
set_option linter.unusedSimpArgs false

set_option maxRecDepth 100000 in
set_option maxHeartbeats 3000000 in
theorem insert_SN (b g cap : Nat) (xs : List Int) (n : Int) (w : World) (j : Nat) (hrow : Row w b 3 (.slice (some ⟨g, 0, none⟩) xs.length cap) (xs.map (Value.int .i64))) (hl : xs.length ≤ 1048576) (hcap : xs.length ≤ cap) (hg : g < w.heap.size) (hcm : cap ≤ 9223372036854775807)
    (hK : scan xs n xs.length = (j + 1)) (hkl : (j + 1) = xs.length) (hkc : (j + 1) < cap) :
    Calls Tryd.prog 54 #[.slice (some ⟨g, 0, none⟩) xs.length cap, .int .i64 n] w fun e w' => ∃ u, e = .returned u ∧ Row w' 0 3 u ((insAsc xs n).map (Value.int .i64)) ∧ Below w.heap.size w w' := by
  obtain ⟨i0, hi, hz0, hz1, hz2⟩ := info_parts infoInt
  have HII := Lib.hid (And.intro hi (And.intro hz0 (And.intro hz1 hz2)))
  clear hi hz0 hz1 hz2
  have HC : Hid (∀ W, Below w.heap.size w W → ∀ j, j < xs.length → W.cell? ⟨g, j, none⟩ = some (.int .i64 (xs.getD j 0))) := Lib.hid (fun W hW j hj => by
    refine (hW.cell (p := ⟨g, j, none⟩) hg).trans ?_
    have h := hrow
    unfold Row at h
    rw [List.length_map] at h
    rw [World.ownsRow.cellAt h j (by omega)]
    simp [List.getD, hj])
  have HROW := Lib.hid hrow
  have HS0 := Lib.hid (row_start (w := w) (e := 3) (Nat.le_refl _))
  have HB0 := Lib.hid ((Below.refl w.heap.size w).alloc (Nat.le_refl _) (.cells #[] 3))
  have HIN : Hid (insAsc xs n = xs.take (j + 1) ++ n :: xs.drop (j + 1)) := Lib.hid (by unfold insAsc; rw [hK, if_neg]; rw [List.getElem?_eq_none (by omega)]; simp)
  have HK := Lib.hid hK
  clear hrow hK
  have hnl : ¬ (j + 1) < xs.length := by omega
  have HKL := Lib.hid hkl
  clear hkl
  go_enter Tryd.func54, Tryd.ntmps54
  go_wp2
  go_loop [5] (fun i => ∃ k : Nat, k ≤ xs.length ∧ i = .int .i64 k ∧ Hid (scan xs n xs.length = scan xs n k)) (fun i => (intOf i).toNat)
  case atStart => exact ⟨xs.length, Nat.le_refl _, rfl, Lib.hid rfl⟩
  case round =>
    obtain ⟨k, hk, rfl, HSC⟩ := hrel
    by_cases hk0 : k = 0
    · subst hk0
      have hP : scan xs n xs.length = 0 := by rw [HSC.out]; rfl
      exact absurd (hP.symm.trans HK.out) (by omega)
    · obtain ⟨i, rfl⟩ : ∃ i, k = i + 1 := ⟨k - 1, by omega⟩
      have hcell1 := HC.out w (Below.refl _ _) i (by omega)
      generalize hx : xs.getD i 0 = x at hcell1
      have HX := Lib.hid hx
      clear hx
      by_cases hle : n ≤ x
      · have HN : Hid (scan xs n xs.length = scan xs n i) := Lib.hid (by rw [HSC.out, scan, if_pos (by rw [HX.out]; exact hle)])
        go_wp2
        go_round
        case rel => exact ⟨i, by omega, by go_num, HN⟩
        case measure => simp [intOf] <;> omega
      · have hP : scan xs n xs.length = i + 1 := by rw [HSC.out, scan, if_neg (by rw [HX.out]; exact hle)]
        obtain rfl : j = i := by have := hP.symm.trans HK.out; omega
        clear hP HSC
        have HT1 := Lib.hid (fun (W : World) (hW : Below w.heap.size w W) => cells_take (K := j + 1) (HC.out W hW))
        have HT2 := Lib.hid (fun (W : World) (hW : Below w.heap.size w W) => cells_drop (K := j + 1) (HC.out W hW))
        have hkc2 : j + 1 < cap := by omega
        go_upto_region 6 with (fail)
        go_wp2_with (first
          | (at_builtin; refine append_part rfl _ _ 64 rfl w.heap.size 3 i0 _ 8 Tryd.underlying64 HII.out.1 HII.out.2.1 HII.out.2.2.1 HII.out.2.2.2 rfl (by decide) _ _ rfl HS0.out _ _ _ rfl ((xs.take (j + 1)).map (Value.int .i64)) (by simp <;> omega) (fun h => by cases h) (fun ad h => by cases h; exact HT1.out _ HB0.out) (ints_one _) (by simp <;> omega) (by simp) ?_; intro v1 w1 hown1 hb1; have HO1 := Lib.hid hown1; have HB1 := Lib.hid (HB0.out.trans hb1); have hs1 := HB1.out.size; clear hown1 hb1 HS0)
          | (at_builtin; refine append_one rfl _ _ 64 rfl w.heap.size 3 i0 _ 8 Tryd.underlying64 HII.out.1 HII.out.2.1 HII.out.2.2.1 HII.out.2.2.2 rfl (by decide) _ _ rfl HO1.out (.int .i64 n) rfl rfl (by simp <;> omega) hs1 ?_; intro v2 w2 hown2 hb2; have HO2 := Lib.hid hown2; have HB2 := Lib.hid (HB1.out.trans hb2); have hs2 := HB2.out.size; clear hown2 hb2 HO1)
          | (at_builtin; refine append_part rfl _ _ 64 rfl w.heap.size 3 i0 _ 8 Tryd.underlying64 HII.out.1 HII.out.2.1 HII.out.2.2.1 HII.out.2.2.2 rfl (by decide) _ _ rfl HO2.out _ _ _ rfl ((xs.drop (j + 1)).map (Value.int .i64)) (by simp <;> omega) (fun h => by cases h) (fun ad h => by cases h; exact HT2.out _ HB2.out) (ints_one _) (by simp <;> omega) hs2 ?_; intro v3 w3 hown3 hb3; have HO3 := Lib.hid hown3; have HB3 := Lib.hid (HB2.out.trans hb3); clear hown3 hb3 HO2))
        go_ret
        exact ⟨_, rfl, by have h := HO3.out.base (Nat.zero_le _); rw [HIN.out]; simpa using h, HB3.out⟩
end Go.Proofs.YtjmmeccfjanpcaaDoor

namespace Go.Proofs.YtjmmeccfjanpcaaDoor
open Go.RowKit
set_option linter.unusedVariables false
set_option linter.unusedSimpArgs false

set_option maxRecDepth 100000 in
set_option maxHeartbeats 3000000 in
theorem insert_SC (b g cap : Nat) (xs : List Int) (n : Int) (w : World) (j : Nat) (hrow : Row w b 3 (.slice (some ⟨g, 0, none⟩) xs.length cap) (xs.map (Value.int .i64))) (hl : xs.length ≤ 1048576) (hcap : xs.length ≤ cap) (hg : g < w.heap.size) (hcm : cap ≤ 9223372036854775807)
    (hK : scan xs n xs.length = (j + 1)) (hkl : (j + 1) = xs.length) (hkc : (j + 1) = cap) :
    Calls Tryd.prog 54 #[.slice (some ⟨g, 0, none⟩) xs.length cap, .int .i64 n] w fun e w' => ∃ u, e = .returned u ∧ Row w' 0 3 u ((insAsc xs n).map (Value.int .i64)) ∧ Below w.heap.size w w' := by
  subst hkc
  obtain ⟨i0, hi, hz0, hz1, hz2⟩ := info_parts infoInt
  have HII := Lib.hid (And.intro hi (And.intro hz0 (And.intro hz1 hz2)))
  clear hi hz0 hz1 hz2
  have HC : Hid (∀ W, Below w.heap.size w W → ∀ j, j < xs.length → W.cell? ⟨g, j, none⟩ = some (.int .i64 (xs.getD j 0))) := Lib.hid (fun W hW j hj => by
    refine (hW.cell (p := ⟨g, j, none⟩) hg).trans ?_
    have h := hrow
    unfold Row at h
    rw [List.length_map] at h
    rw [World.ownsRow.cellAt h j (by omega)]
    simp [List.getD, hj])
  have HROW := Lib.hid hrow
  have HS0 := Lib.hid (row_start (w := w) (e := 3) (Nat.le_refl _))
  have HB0 := Lib.hid ((Below.refl w.heap.size w).alloc (Nat.le_refl _) (.cells #[] 3))
  have HIN : Hid (insAsc xs n = xs.take (j + 1) ++ n :: xs.drop (j + 1)) := Lib.hid (by unfold insAsc; rw [hK, if_neg]; rw [List.getElem?_eq_none (by omega)]; simp)
  have HK := Lib.hid hK
  clear hrow hK
  have hnl : ¬ (j + 1) < xs.length := by omega
  have HKL := Lib.hid hkl
  clear hkl
  go_enter Tryd.func54, Tryd.ntmps54
  go_wp2
  go_loop [5] (fun i => ∃ k : Nat, k ≤ xs.length ∧ i = .int .i64 k ∧ Hid (scan xs n xs.length = scan xs n k)) (fun i => (intOf i).toNat)
  case atStart => exact ⟨xs.length, Nat.le_refl _, rfl, Lib.hid rfl⟩
  case round =>
    obtain ⟨k, hk, rfl, HSC⟩ := hrel
    by_cases hk0 : k = 0
    · subst hk0
      have hP : scan xs n xs.length = 0 := by rw [HSC.out]; rfl
      exact absurd (hP.symm.trans HK.out) (by omega)
    · obtain ⟨i, rfl⟩ : ∃ i, k = i + 1 := ⟨k - 1, by omega⟩
      have hcell1 := HC.out w (Below.refl _ _) i (by omega)
      generalize hx : xs.getD i 0 = x at hcell1
      have HX := Lib.hid hx
      clear hx
      by_cases hle : n ≤ x
      · have HN : Hid (scan xs n xs.length = scan xs n i) := Lib.hid (by rw [HSC.out, scan, if_pos (by rw [HX.out]; exact hle)])
        go_wp2
        go_round
        case rel => exact ⟨i, by omega, by go_num, HN⟩
        case measure => simp [intOf] <;> omega
      · have hP : scan xs n xs.length = i + 1 := by rw [HSC.out, scan, if_neg (by rw [HX.out]; exact hle)]
        obtain rfl : j = i := by have := hP.symm.trans HK.out; omega
        clear hP HSC
        have HT1 := Lib.hid (fun (W : World) (hW : Below w.heap.size w W) => cells_take (K := j + 1) (HC.out W hW))
        have HT2 : Hid (∀ (W : World), Below w.heap.size w W → ∀ (i : Nat) (u : Value), ((xs.drop (j + 1)).map (Value.int .i64))[i]? = some u → W.cell? ((⟨g, 0, none⟩ : Addr).add i) = some u) := Lib.hid (fun W hW i u hu => by rw [HKL.out, List.drop_length] at hu; simp at hu)
        go_upto_region 6 with (fail)
        go_wp2_with (first
          | (at_builtin; refine append_part rfl _ _ 64 rfl w.heap.size 3 i0 _ 8 Tryd.underlying64 HII.out.1 HII.out.2.1 HII.out.2.2.1 HII.out.2.2.2 rfl (by decide) _ _ rfl HS0.out _ _ _ rfl ((xs.take (j + 1)).map (Value.int .i64)) (by simp <;> omega) (fun h => by cases h) (fun ad h => by cases h; exact HT1.out _ HB0.out) (ints_one _) (by simp <;> omega) (by simp) ?_; intro v1 w1 hown1 hb1; have HO1 := Lib.hid hown1; have HB1 := Lib.hid (HB0.out.trans hb1); have hs1 := HB1.out.size; clear hown1 hb1 HS0)
          | (at_builtin; refine append_one rfl _ _ 64 rfl w.heap.size 3 i0 _ 8 Tryd.underlying64 HII.out.1 HII.out.2.1 HII.out.2.2.1 HII.out.2.2.2 rfl (by decide) _ _ rfl HO1.out (.int .i64 n) rfl rfl (by simp <;> omega) hs1 ?_; intro v2 w2 hown2 hb2; have HO2 := Lib.hid hown2; have HB2 := Lib.hid (HB1.out.trans hb2); have hs2 := HB2.out.size; clear hown2 hb2 HO1)
          | (at_builtin; refine append_part rfl _ _ 64 rfl w.heap.size 3 i0 _ 8 Tryd.underlying64 HII.out.1 HII.out.2.1 HII.out.2.2.1 HII.out.2.2.2 rfl (by decide) _ _ rfl HO2.out _ _ _ rfl ((xs.drop (j + 1)).map (Value.int .i64)) (by simp <;> omega) (fun h => by cases h) (fun ad h => by cases h; exact HT2.out _ HB2.out) (ints_one _) (by simp <;> omega) hs2 ?_; intro v3 w3 hown3 hb3; have HO3 := Lib.hid hown3; have HB3 := Lib.hid (HB2.out.trans hb3); clear hown3 hb3 HO2))
        go_ret
        exact ⟨_, rfl, by have h := HO3.out.base (Nat.zero_le _); rw [HIN.out]; simpa using h, HB3.out⟩
end Go.Proofs.YtjmmeccfjanpcaaDoor

