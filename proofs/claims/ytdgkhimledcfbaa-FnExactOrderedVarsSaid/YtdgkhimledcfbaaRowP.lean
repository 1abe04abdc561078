/-
  A row of integers that a call owns, as a fact that stays (At); its marks.
-/
import Derived.Test.YtdgkhimledcfbaaLaws
namespace Go.Proofs.Ytdgkhimledcfbaa
open Go.RowKit
set_option linter.unusedVariables false

def RowP (e : TypeId) (lo hi : Nat) (V : Value) (xs : List Value) (W : World) : Prop := Row W lo e V xs ∧ ∀ k, V.ownBlock = some k → k < hi
theorem stays_row (e : TypeId) (lo hi : Nat) (V : Value) (xs : List Value) : Stays lo hi (RowP e lo hi V xs) := by
  intro W W' h hle hk hs
  refine ⟨⟨h.1.1, ?_⟩, h.2⟩
  rcases h.1.2 with h0 | ⟨g, cap, cur, hv, h1, h2, h3⟩
  · exact .inl h0
  · refine .inr ⟨g, cap, cur, hv, h1, ?_, h3⟩
    rw [hk g h1 (h.2 g (by rw [hv]; rfl))]
    exact h2
theorem at_row {w : World} {e : TypeId} {lo : Nat} {V : Value} {xs : List Value} (h : Row w lo e V xs) : At w lo w.heap.size (RowP e lo w.heap.size V xs) := ⟨⟨h, h.lt⟩, stays_row _ _ _ _ _, Nat.le_refl _⟩
theorem only_of_grown {w w' : World} {lo hi : Nat} {r : Option Nat} (h : w.grownBy w' r) (hr : ∀ k, r = some k → lo ≤ k ∧ k < hi) : Only (iv lo hi) w w' :=
  ⟨h.os, h.tape, h.output, h.size, fun k hk hn => h.block k hk (fun e => hn (hr k e.symm))⟩
theorem markInts_at (V : Value) (xs : List Value) (lo hi n : Nat) (w : World) (h : At w lo hi (RowP 3 lo hi V xs)) (hn : xs.length = n) (hk : n ≤ 1099511627775) :
    Calls Try.prog 34 #[V, .int .i64 1] w fun e w' => e = .returned (.int .i64 ((n : Int) + 1)) ∧ At w' lo hi (RowP 3 lo hi V (markI 1 n)) ∧ Only (iv lo hi) w w' :=
  (markInts_one V lo n xs w h.now.1 hn hk).mono fun e w' ⟨he, hr, hg⟩ =>
    ⟨he, ⟨⟨hr, h.now.2⟩, stays_row _ _ _ _ _, Nat.le_trans h.le hg.size⟩, only_of_grown hg fun k e => ⟨h.now.1.ge k e, h.now.2 k e⟩⟩
theorem map_len (xs : List Int) : (xs.map (Value.int .i64)).length = xs.length := List.length_map _
theorem markInts_from (V : Value) (xs : List Value) (k : Int) (lo hi n : Nat) (w : World) (h : At w lo hi (RowP 3 lo hi V xs)) (hn : xs.length = n) (hk0 : 0 < k) (hk : k + (n : Int) ≤ 1099511627776) :
    Calls Try.prog 34 #[V, .int .i64 k] w fun e w' => e = .returned (.int .i64 (k + (n : Int))) ∧ At w' lo hi (RowP 3 lo hi V (markI k.toNat n)) ∧ Only (iv lo hi) w w' := by
  obtain ⟨m, rfl⟩ : ∃ m : Nat, k = (m : Int) := ⟨k.toNat, by omega⟩
  refine (markInts_any V lo m n xs w h.now.1 hn hk).mono fun e w' ⟨he, hr, hg⟩ => ⟨by rw [he]; simp, ?_, only_of_grown hg fun j e => ⟨h.now.1.ge j e, h.now.2 j e⟩⟩
  rw [Int.toNat_natCast]
  exact ⟨⟨hr, h.now.2⟩, stays_row _ _ _ _ _, Nat.le_trans h.le hg.size⟩
end Go.Proofs.Ytdgkhimledcfbaa

