/-
  The contracts of the laws' helpers on slices of integers: eqIntS, markIntS, heldIntS.
-/
import Derived.Test.YtodldillpoajfaaInfo
import Derived.WalkLawsBesides
import Derived.Deep.QuietTactic
import Derived.BigQuiet
namespace Go.Proofs.Ytodldillpoajfaa
open Go.RowKit

set_option maxHeartbeats 400000 in
theorem eqInts_any (v v' : Value) (b b' : Nat) (ss : List Int) (w : World) (h : Row w b 3 v (ss.map (.int .i64))) (h' : Row w b' 3 v' (ss.map (.int .i64))) (hl : ss.length ≤ maxLen) :
    Calls Try.prog 32 #[v, v'] w fun e w' => e = .returned (.bool true) ∧ ∃ n, w' = w.drewN n := by
  unfold maxLen at hl
  by_cases hne : ss = []
  · subst hne
    obtain ⟨a, cap, rfl⟩ := Row.empty h
    obtain ⟨a', cap', rfl⟩ := Row.empty h'
    go_enter Try.func32, Try.ntmps32
    go_wp2
    refine wp_loop_rounds 1 ?_
    rw [rounds_succ]
    go_wp2
    go_ret
    exact ⟨rfl, 0, rfl⟩
  · have hne' : ss.map (Value.int .i64) ≠ [] := by simpa using hne
    obtain ⟨g, cap, rfl, _, _, _, _, hc, _⟩ := h.at hne'
    obtain ⟨g', cap', rfl, _, _, _, _, hc', _⟩ := h'.at hne'
    rw [List.length_map]
    have HC := Lib.hid hc
    have HC' := Lib.hid hc'
    clear hc hc' h h' hne hne'
    go_enter Try.func32, Try.ntmps32
    go_wp2
    go_loopw [5] (fun i wr => ∃ k d : Nat, k ≤ ss.length ∧ i = .int .i64 k ∧ wr = w.drewN d) (fun i _ => ss.length - (intOf i).toNat)
    case atStart => exact ⟨0, 0, Nat.zero_le _, rfl, rfl⟩
    case round =>
      obtain ⟨k, d, hk, rfl, rfl⟩ := hrel
      by_cases hlt : k < ss.length
      · have c1 := HC.out k (.int .i64 ss[k]) (by simp [hlt])
        have c2 := HC'.out k (.int .i64 ss[k]) (by simp [hlt])
        generalize ss[k] = x at c1 c2
        go_wp2
        go_quiet (fail)
        go_wp2
        go_roundw
        case rel => exact ⟨k + 1, _, by omega, by go_num, rfl⟩
        case measure => simp [intOf]; omega
      · go_wp2
        go_ret
        exact ⟨rfl, d, rfl⟩

theorem eqInts_eq (v v' : Value) (b b' : Nat) (ss : List Int) (w : World) (h : Row w b 3 v (ss.map (.int .i64))) (h' : Row w b' 3 v' (ss.map (.int .i64))) (hl : ss.length ≤ maxLen) :
    Calls Try.prog 32 #[v, v'] w fun e w' => e = .returned (.bool true) ∧ Below w.heap.size w w' :=
  (eqInts_any v v' b b' ss w h h' hl).mono fun _ _ ⟨he, n, hw⟩ => ⟨he, by rw [hw]; exact below_drewN (Below.refl _ _) n⟩

/-- The marks of integers. -/
def markI (k n : Nat) : List Value := (List.range n).map fun i => .int .i64 ((k + i : Nat) : Int)
theorem markI_length (k n : Nat) : (markI k n).length = n := by simp [markI]
theorem markI_at (k n j : Nat) (h : j < n) : (markI k n)[j]? = some (.int .i64 ((k + j : Nat) : Int)) := by simp [markI, h]
theorem markI_of {k n : Nat} {ys : List Value} (hl : ys.length = n) (h : ∀ i, i < n → ys[i]? = some (.int .i64 ((k + i : Nat) : Int))) : ys = markI k n := by
  apply List.ext_getElem?
  intro i
  by_cases hi : i < n
  · rw [h i hi, markI_at k n i hi]
  · rw [List.getElem?_eq_none (by omega), List.getElem?_eq_none (by rw [markI_length]; omega)]

set_option maxHeartbeats 400000 in
theorem markInts_any (v : Value) (b k n : Nat) (xs : List Value) (w : World) (h : Row w b 3 v xs) (hn : xs.length = n) (hk : (k : Int) + n ≤ 1099511627776) :
    Calls Try.prog 34 #[v, .int .i64 k] w fun e w' => e = .returned (.int .i64 ((k + n : Nat) : Int)) ∧ Row w' b 3 v (markI k n) ∧ w.grownBy w' v.ownBlock := by
  by_cases hne : n = 0
  · subst hne
    obtain rfl := List.length_eq_zero_iff.1 hn
    obtain ⟨a, cap, rfl⟩ := Row.empty h
    have HR := Lib.hid h
    clear h hn
    go_enter Try.func34, Try.ntmps34
    go_wp2
    refine wp_loop_rounds 1 ?_
    rw [rounds_succ]
    go_wp2
    go_ret
    exact ⟨rfl, HR.out, grown_refl _ _⟩
  · obtain ⟨g, cap, rfl, hbg, hgw, _, _, _, hfz⟩ := h.at (by intro e; subst e; exact hne hn.symm)
    have HR := Lib.hid h
    subst hn
    clear h hfz
    go_enter Try.func34, Try.ntmps34
    go_wp2
    go_loopw [1, 5] (fun kv i wr => ∃ (j : Nat) (ys : List Value), j ≤ xs.length ∧ kv = .int .i64 ((k : Int) + j) ∧ i = .int .i64 j ∧ ys.length = xs.length ∧ (∀ i, i < j → ys[i]? = some (.int .i64 ((k + i : Nat) : Int))) ∧
        Row wr b 3 (.slice (some ⟨g, 0, none⟩) xs.length cap) ys ∧ w.grownBy wr (some g))
        (fun _ i _ => xs.length - (intOf i).toNat)
    case atStart => exact ⟨0, xs, Nat.zero_le _, by go_num, rfl, rfl, fun i hi => absurd hi (Nat.not_lt_zero _), HR.out, grown_refl _ _⟩
    case round =>
      obtain ⟨j, ys, hj, rfl, rfl, hl, hys, hrow, hg⟩ := hrel
      have HL := Lib.hid hl
      have HY := Lib.hid hys
      have HO := Lib.hid hrow
      have HG := Lib.hid hg
      clear hl hys hrow hg
      by_cases hlt : j < xs.length
      · obtain ⟨y0, hy0⟩ : ∃ y0, ys[j]? = some y0 := ⟨_, List.getElem?_eq_getElem (by rw [HL.out]; omega)⟩
        have hc : wr.cell? ⟨g, j, none⟩ = some y0 := by
          obtain ⟨g', cap', hv, _, _, _, _, hc, _⟩ := HO.out.at (by intro e; rw [e] at hy0; simp at hy0)
          simp only [Value.slice.injEq, Option.some.injEq, Addr.mk.injEq] at hv
          obtain ⟨⟨rfl, _⟩, _⟩ := hv
          exact hc j y0 hy0
        have hf : wr.frozen? ⟨g, j, none⟩ = false := World.ownsRow.frozenAt (by have := HO.out; unfold Row at this; rw [HL.out] at this; exact this) j
        have HS := Lib.hid (HO.out.stored HL.out.symm j (.int .i64 ((k : Int) + j)))
        clear hy0
        go_wp2
        go_roundw
        case rel =>
          refine ⟨j + 1, ys.set j (.int .i64 ((k : Int) + j)), by omega, by go_num, by go_num, by simpa using HL.out, ?_, HS.out.1, grown_trans HG.out HS.out.2⟩
          intro i hi
          by_cases e : i = j
          · subst e
            rw [List.getElem?_set_self (by rw [HL.out]; omega)]
            go_num
          · rw [List.getElem?_set_ne (by omega)]
            exact HY.out i (by omega)
        case measure => simp [intOf]; omega
      · go_wp2
        go_ret
        obtain rfl : j = xs.length := by omega
        exact ⟨by go_num, by rw [← markI_of HL.out HY.out]; exact HO.out, HG.out⟩

set_option maxHeartbeats 400000 in
theorem heldInts_any (v : Value) (b k n : Nat) (w : World) (h : Row w b 3 v (markI k n)) (hk : (k : Int) + n ≤ 1099511627776) :
    Calls Try.prog 35 #[v, .int .i64 k] w fun e w' => e = .returned (.int .i64 ((k + n : Nat) : Int)) ∧ Below w.heap.size w w' := by
  by_cases hne : n = 0
  · subst hne
    obtain ⟨a, cap, rfl⟩ := Row.empty h
    clear h
    go_enter Try.func35, Try.ntmps35
    go_wp2
    refine wp_loop_rounds 1 ?_
    rw [rounds_succ]
    go_wp2
    go_ret
    exact ⟨rfl, Below.refl _ _⟩
  · obtain ⟨g, cap, rfl, hbg, hgw, _, _, hc, _⟩ := h.at (by intro e; have := markI_length k n; rw [e] at this; exact hne this.symm)
    rw [markI_length]
    have HC : Hid (∀ j, j < n → w.cell? ⟨g, j, none⟩ = some (.int .i64 ((k : Int) + j))) := Lib.hid (fun j hj => by
      have := hc j _ (markI_at k n j hj)
      rw [this]
      go_num)
    clear h hc
    go_enter Try.func35, Try.ntmps35
    go_wp2
    go_loopw [1, 5] (fun kv i wr => ∃ j : Nat, j ≤ n ∧ kv = .int .i64 ((k : Int) + j) ∧ i = .int .i64 j ∧ Below w.heap.size w wr)
        (fun _ i _ => n - (intOf i).toNat)
    case atStart => exact ⟨0, Nat.zero_le _, by go_num, rfl, Below.refl _ _⟩
    case round =>
      obtain ⟨j, hj, rfl, rfl, hb⟩ := hrel
      have HB := Lib.hid hb
      clear hb
      by_cases hlt : j < n
      · have hcw := (HB.out.cell (p := ⟨g, j, none⟩) hgw).trans (HC.out j hlt)
        go_wp2
        go_roundw
        case rel => exact ⟨j + 1, by omega, by go_num, by go_num, HB.out⟩
        case measure => simp [intOf]; omega
      · go_wp2
        go_ret
        obtain rfl : j = n := by omega
        exact ⟨by go_num, HB.out⟩

theorem markInts_one (v : Value) (b n : Nat) (xs : List Value) (w : World) (h : Row w b 3 v xs) (hn : xs.length = n) (hk : n ≤ 1099511627775) :
    Calls Try.prog 34 #[v, .int .i64 1] w fun e w' => e = .returned (.int .i64 ((n : Int) + 1)) ∧ Row w' b 3 v (markI 1 n) ∧ w.grownBy w' v.ownBlock :=
  (markInts_any v b 1 n xs w h hn (by omega)).mono fun _ _ ⟨he, h2⟩ => ⟨by rw [he, show ((1 + n : Nat) : Int) = (n : Int) + 1 from by omega], h2⟩
theorem heldInts_one (v : Value) (b n : Nat) (w : World) (h : Row w b 3 v (markI 1 n)) (hk : n ≤ 1099511627775) :
    Calls Try.prog 35 #[v, .int .i64 1] w fun e w' => e = .returned (.int .i64 ((n : Int) + 1)) ∧ Below w.heap.size w w' :=
  (heldInts_any v b 1 n w h (by omega)).mono fun _ _ ⟨he, h2⟩ => ⟨by rw [he, show ((1 + n : Nat) : Int) = (n : Int) + 1 from by omega], h2⟩
end Go.Proofs.Ytodldillpoajfaa
