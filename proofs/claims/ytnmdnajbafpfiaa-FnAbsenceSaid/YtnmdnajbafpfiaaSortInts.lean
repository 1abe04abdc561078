/-
  slices.Sort and slices.Compact on a row of ints that the call owns.
-/
import Derived.Test.YtnmdnajbafpfiaaLaws
import Derived.Test.YtnmdnajbafpfiaaShelf
import Derived.Lib.RowBridge
namespace Go.Proofs.Ytnmdnajbafpfiaa
open Go.RowKit Go.Sort
set_option linter.unusedVariables false
set_option linter.unusedSimpArgs false

theorem row_setCells {base : Nat} {e : TypeId} {g n cap : Nat} : ∀ (ys : List Value) (o : Nat) (w : World) (xs : List Value), w.ownsRow base e 1 (.slice (some ⟨g, 0, none⟩) n cap) n xs → xs.length = n → o + ys.length = n →
    (w.setCells g o ys).ownsRow base e 1 (.slice (some ⟨g, 0, none⟩) n cap) n (xs.take o ++ ys) ∧ w.grownBy (w.setCells g o ys) (some g)
  | [], o, w, xs, h, hl, ho => by
    rw [World.setCells, List.append_nil, List.take_of_length_le (by simp at ho; omega)]
    exact ⟨h, grown_refl _ _⟩
  | y :: ys, o, w, xs, h, hl, ho => by
    obtain ⟨h1, h2⟩ := World.ownsRow.stored h o y
    have hol : o < xs.length := by simp at ho; omega
    obtain ⟨h3, h4⟩ := row_setCells ys (o + 1) (w.setCell ⟨g, o, none⟩ y) (xs.set o y) h1 (by simpa using hl) (by simp at ho; omega)
    have e1 : (xs.set o y).take (o + 1) = xs.take o ++ [y] := by
      rw [List.take_add_one, List.getElem?_set_self hol, List.take_set_of_le (Nat.le_refl _)]
      rfl
    rw [e1, List.append_assoc] at h3
    exact ⟨h3, grown_trans h2 h4⟩
theorem row_heap {w w' : World} {base : Nat} {e : TypeId} {size n : Nat} {v : Value} {xs : List Value} (h : w.ownsRow base e size v n xs) (hh : w'.heap = w.heap) : w'.ownsRow base e size v n xs := by
  refine ⟨h.1, ?_⟩
  rcases h.2 with hn | ⟨g, cap, cur, rfl, h1, h2, h3⟩
  · exact .inl hn
  · exact .inr ⟨g, cap, cur, rfl, h1, by rw [hh]; exact h2, h3⟩
theorem row_cut {w : World} {base : Nat} {e : TypeId} {g n m cap : Nat} {xs : List Value} (h : w.ownsRow base e 1 (.slice (some ⟨g, 0, none⟩) n cap) n xs) (hm : m ≤ n) : w.ownsRow base e 1 (.slice (some ⟨g, 0, none⟩) m cap) m (xs.take m) := by
  have hl := h.1
  refine ⟨by rw [List.length_take]; omega, ?_⟩
  rcases h.2 with ⟨hn, _⟩ | ⟨g', cap', cur, he, h1, h2, h3, h4, h5, h6⟩
  · simp at hn
  · simp only [Value.slice.injEq, Option.some.injEq, Addr.mk.injEq, and_true, true_and] at he
    obtain ⟨rfl, rfl⟩ := he
    refine .inr ⟨g, cap, cur, rfl, h1, h2, by omega, h4, h5, ?_⟩
    rw [← h6, List.take_take]
    congr 1
    omega

theorem holdsI_row {w : World} {b g cap : Nat} {xs : List Int} (h : Row w b 3 (.slice (some ⟨g, 0, none⟩) xs.length cap) (xs.map (Value.int .i64))) : Holds (Value.int .i64) w g 0 xs.toArray := by
  have h' := h
  unfold Row at h'
  rw [List.length_map] at h'
  have h1 := Lib.holds_of_ints (w := w) (b := g) (off := 0) (n := xs.length) (zs := xs) (Nat.le_refl _) (fun j hj => by
    rw [Nat.zero_add, World.ownsRow.cellAt h' j (by omega)]
    simp [List.getD, hj]) (fun j hj => by
    rw [Nat.zero_add]
    exact World.ownsRow.frozenAt h' j)
  rwa [List.take_length] at h1

def sorted (xs : List Int) : List Int := xs.mergeSort fun x y => decide (x ≤ y)
theorem sortInts_any (v : Value) (b : Nat) (xs : List Int) (w : World) (h : Row w b 3 v (xs.map (Value.int .i64))) (hl : xs.length ≤ 1099511627776) :
    Calls Try.prog 99 #[v] w fun e w' => e = .returned (.tuple #[]) ∧ Row w' b 3 v ((sorted xs).map (Value.int .i64)) ∧ Below b w w' := by
  rcases h.shape with ⟨rfl, hn⟩ | ⟨g, cap, rfl, h1, h2, h3, h4, h5, h6⟩
  · have hx : xs = [] := by simpa using hn
    subst hx
    exact (Try.slices_Sort_int_none none 0 w).mono fun e w' ⟨he, hw⟩ => ⟨he, by subst hw; simpa [sorted] using h, by subst hw; exact Below.refl _ _⟩
  · rw [List.length_map] at h ⊢
    refine (Try.slices_Sort_int g 0 cap xs w (holdsI_row h) h2 (by omega)).mono fun e w' ⟨he, n, os, hw⟩ => ⟨he, ?_⟩
    have hsl : (sorted xs).length = xs.length := List.length_mergeSort _
    have hpr := Lib.putRow_eq_setCells (Value.int .i64) w g 0 xs.toArray (sorted xs) n (holdsI_row h) (by simpa using hsl)
    unfold Row at h
    rw [List.length_map] at h
    obtain ⟨q1, q2⟩ := row_setCells ((sorted xs).map (Value.int .i64)) 0 (w.drewN n) (xs.map (Value.int .i64)) (row_heap h rfl) (by simp) (by simp [hsl])
    rw [List.take_zero, List.nil_append] at q1
    have hg : w' = grow ((w.drewN n).setCells g 0 ((sorted xs).map (Value.int .i64))) os := by rw [hw]; congr 1
    have hb : Below b w ((w.drewN n).setCells g 0 ((sorted xs).map (Value.int .i64))) := (show Below b w (w.drewN n) from ⟨rfl, rfl, rfl, Nat.le_refl _, fun k hk => rfl⟩).trans (below_of_grown q2 (by show b ≤ w.heap.size; omega) (fun k hk => by cases hk; exact h1))
    have hgs : ∀ (W : World), Below W.heap.size W (grow W os) := fun W => ⟨rfl, rfl, rfl, by simp [grow], fun k hk => by simp [grow, Array.getElem?_append_left hk]⟩
    subst hg
    refine ⟨?_, hb.trans ((hgs _).mono (by have := hb.size; omega))⟩
    show World.ownsRow _ _ _ _ _ ((sorted xs).map (Value.int .i64)).length _
    rw [List.length_map, hsl]
    exact q1.kept (grown_of_below (hgs _) none) (by simp [Value.ownBlock])
theorem compactInts_any (v : Value) (b : Nat) (xs : List Int) (w : World) (h : Row w b 3 v (xs.map (Value.int .i64))) (hl : xs.length ≤ 1099511627776) :
    Calls Try.prog 100 #[v] w fun e w' => ∃ u, e = .returned u ∧ Row w' b 3 u ((Lib.compact xs).map (Value.int .i64)) ∧ Below b w w' := by
  rcases h.shape with ⟨rfl, hn⟩ | ⟨g, cap, rfl, h1, h2, h3, h4, h5, h6⟩
  · have hx : xs = [] := by simpa using hn
    subst hx
    exact (Try.slices_Compact_int_empty none 0 w).mono fun e w' ⟨he, hw⟩ => ⟨_, he, by subst hw; exact h, by subst hw; exact Below.refl _ _⟩
  · rw [List.length_map] at h ⊢
    refine (Try.slices_Compact_int g 0 cap xs w (holdsI_row h) (by omega) (by simpa using h3)).mono fun e w' ⟨he, n, hw⟩ => ⟨_, he, ?_⟩
    have hcl := Lib.compact_length_le xs
    have hsl : (Lib.compact xs ++ List.replicate (xs.length - (Lib.compact xs).length) 0).length = xs.length := by simp; omega
    have hpr := Lib.putRow_eq_setCells (Value.int .i64) w g 0 xs.toArray (Lib.compact xs ++ List.replicate (xs.length - (Lib.compact xs).length) 0) n (holdsI_row h) (by simpa using hsl)
    unfold Row at h
    rw [List.length_map] at h
    obtain ⟨q1, q2⟩ := row_setCells ((Lib.compact xs ++ List.replicate (xs.length - (Lib.compact xs).length) 0).map (Value.int .i64)) 0 (w.drewN n) (xs.map (Value.int .i64)) (row_heap h rfl) (by simp) (by rw [List.length_map, hsl]; omega)
    rw [List.take_zero, List.nil_append] at q1
    have hb : Below b w ((w.drewN n).setCells g 0 ((Lib.compact xs ++ List.replicate (xs.length - (Lib.compact xs).length) 0).map (Value.int .i64))) := (show Below b w (w.drewN n) from ⟨rfl, rfl, rfl, Nat.le_refl _, fun k hk => rfl⟩).trans (below_of_grown q2 (by show b ≤ w.heap.size; omega) (fun k hk => by cases hk; exact h1))
    have hg : w' = (w.drewN n).setCells g 0 ((Lib.compact xs ++ List.replicate (xs.length - (Lib.compact xs).length) 0).map (Value.int .i64)) := by rw [hw]; exact hpr
    subst hg
    refine ⟨?_, hb⟩
    have q3 := row_cut q1 hcl
    show World.ownsRow _ _ _ _ _ ((Lib.compact xs).map (Value.int .i64)).length _
    rw [List.length_map]
    have e2 : List.take (Lib.compact xs).length (List.map (Value.int .i64) (Lib.compact xs ++ List.replicate (xs.length - (Lib.compact xs).length) 0)) = List.map (Value.int .i64) (Lib.compact xs) := by rw [List.map_append, List.take_left' (by simp)]
    rw [e2] at q3
    exact q3
end Go.Proofs.Ytnmdnajbafpfiaa

