/-
  The model's l02Insert on a row (SE; written by gen_insert.py).
-/
import Derived.Test.YtodldillpoajfaaInsert
namespace Go.Proofs.Ytodldillpoajfaa
open Go.RowKit
set_option linter.unusedVariables false
set_option linter.unusedSimpArgs false

set_option maxRecDepth 100000 in
set_option maxHeartbeats 3000000 in
theorem insert_SE (b g cap : Nat) (xs : List Int) (n : Int) (w : World) (j : Nat) (hrow : Row w b 3 (.slice (some ⟨g, 0, none⟩) xs.length cap) (xs.map (Value.int .i64))) (hl : xs.length ≤ 1048576) (hcap : xs.length ≤ cap) (hg : g < w.heap.size) (hcm : cap ≤ 9223372036854775807)
    (hK : scan xs n xs.length = (j + 1)) (hlt : (j + 1) < xs.length) (hN0 : xs.getD (j + 1) 0 = n) :
    Calls Try.prog 87 #[.slice (some ⟨g, 0, none⟩) xs.length cap, .int .i64 n] w fun e w' => ∃ u, e = .returned u ∧ Row w' 0 3 u ((insAsc xs n).map (Value.int .i64)) ∧ Below w.heap.size w w' := by
  obtain ⟨i0, hi, hz0, hz1, hz2⟩ := info_parts infoInt
  have HII := Lib.hid (And.intro hi (And.intro hz0 (And.intro hz1 hz2)))
  clear hi hz0 hz1 hz2
  have HC : Hid (∀ W, Below w.heap.size w W → ∀ j, j < xs.length → W.cell? ⟨g, j, none⟩ = some (.int .i64 (xs.getD j 0))) := Lib.hid (fun W hW j hj => by
    refine (hW.cell (p := ⟨g, j, none⟩) hg).trans ?_
    have h := hrow
    unfold Row at h
    rw [List.length_map] at h
    rw [World.ownsRow.cellAt h j (by omega)]
    simp [List.getD, hj])
  have HROW := Lib.hid hrow
  have HS0 := Lib.hid (row_start (w := w) (e := 3) (Nat.le_refl _))
  have HB0 := Lib.hid ((Below.refl w.heap.size w).alloc (Nat.le_refl _) (.cells #[] 3))
  have HIN : Hid (insAsc xs n = xs) := Lib.hid (by unfold insAsc; rw [hK, if_pos]; rw [List.getElem?_eq_getElem hlt]; congr 1; rw [← hN0]; simp [List.getD, hlt])
  have HK := Lib.hid hK
  clear hrow hK
  have HN0 := Lib.hid hN0
  clear hN0
  go_enter Try.func87, Try.ntmps87
  go_wp2
  go_loop [5] (fun i => ∃ k : Nat, k ≤ xs.length ∧ i = .int .i64 k ∧ Hid (scan xs n xs.length = scan xs n k)) (fun i => (intOf i).toNat)
  case atStart => exact ⟨xs.length, Nat.le_refl _, rfl, Lib.hid rfl⟩
  case round =>
    obtain ⟨k, hk, rfl, HSC⟩ := hrel
    by_cases hk0 : k = 0
    · subst hk0
      have hP : scan xs n xs.length = 0 := by rw [HSC.out]; rfl
      exact absurd (hP.symm.trans HK.out) (by omega)
    · obtain ⟨i, rfl⟩ : ∃ i, k = i + 1 := ⟨k - 1, by omega⟩
      have hcell1 := HC.out w (Below.refl _ _) i (by omega)
      generalize hx : xs.getD i 0 = x at hcell1
      have HX := Lib.hid hx
      clear hx
      by_cases hle : n ≤ x
      · have HN : Hid (scan xs n xs.length = scan xs n i) := Lib.hid (by rw [HSC.out, scan, if_pos (by rw [HX.out]; exact hle)])
        go_wp2
        go_round
        case rel => exact ⟨i, by omega, by go_num, HN⟩
        case measure => simp [intOf] <;> omega
      · have hP : scan xs n xs.length = i + 1 := by rw [HSC.out, scan, if_neg (by rw [HX.out]; exact hle)]
        obtain rfl : j = i := by have := hP.symm.trans HK.out; omega
        clear hP HSC
        have hcell := HC.out w (Below.refl _ _) (j + 1) hlt
        generalize hy : xs.getD (j + 1) 0 = y at hcell
        have HY := Lib.hid hy
        clear hy
        have hyn : y = n := by rw [← HY.out]; exact HN0.out
        subst hyn
        go_wp2
        go_ret
        exact ⟨_, rfl, by rw [HIN.out]; exact HROW.out.base (Nat.zero_le _), Below.refl _ _⟩
end Go.Proofs.Ytodldillpoajfaa
