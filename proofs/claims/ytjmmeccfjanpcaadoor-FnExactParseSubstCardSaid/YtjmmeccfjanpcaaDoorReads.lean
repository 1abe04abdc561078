/-
  The reader's small steps: atEnd, took, next.
-/
import Derived.Test.YtjmmeccfjanpcaaDoorReader
import Derived.Test.YtjmmeccfjanpcaaDoorItems
import Derived.Deep.QuietTactic
import Derived.BigQuiet
import Derived.Deep.RegionWith
import Derived.IntWalk
import Derived.Deep.RegionHeld3
import Derived.WalkLawsBesides
namespace Go.Proofs.YtjmmeccfjanpcaaDoor
open Go.RowKit
set_option linter.unusedVariables false
set_option linter.unusedSimpArgs false

/-- A reader over tokens that lie below it. -/
structure Rd (w0 : World) (p : Nat) (sa : Option Addr) (cap : Nat) (T : List ByteArray) (i : Nat) (w : World) : Prop where
  cell : w.heap[p]? = some (.cells #[.slice sa T.length cap, .int .i64 i] 58 (0, 0))
  toks : T = [] ∨ ∃ g off, sa = some ⟨g, off, none⟩ ∧ g < w0.heap.size ∧ ∀ j x, T[j]? = some x → w0.cell? ⟨g, off + j, none⟩ = some (.string x)
  lo : w0.heap.size ≤ p
  old : Below w0.heap.size w0 w
  le : i ≤ T.length
  most : T.length ≤ 1048576
theorem Rd.hi {w0 w : World} {p i cap : Nat} {sa : Option Addr} {T : List ByteArray} (h : Rd w0 p sa cap T i w) : p < w.heap.size := (Array.getElem?_eq_some_iff.1 h.cell).1
theorem Rd.below {w0 w w' : World} {p i cap : Nat} {sa : Option Addr} {T : List ByteArray} (h : Rd w0 p sa cap T i w) (hb : Below w.heap.size w w') : Rd w0 p sa cap T i w' :=
  ⟨(hb.block p h.hi).trans h.cell, h.toks, h.lo, h.old.trans (hb.mono h.old.size), h.le, h.most⟩
theorem Rd.only {w0 w w' : World} {p i cap b : Nat} {sa : Option Addr} {T : List ByteArray} (h : Rd w0 p sa cap T i w) (ho : Only (iv b (b + 1)) w w') (hb : w0.heap.size ≤ b) (hne : ¬ b = p) : Rd w0 p sa cap T i w' :=
  ⟨(ho.block p h.hi (fun hk => by have h1 := hk.1; have h2 := hk.2; omega)).trans h.cell, h.toks, h.lo, h.old.trans (ho.below (fun k hk => by have := hk.1; omega) h.old.size), h.le, h.most⟩
theorem Rd.cells {w0 w : World} {p i cap : Nat} {sa : Option Addr} {T : List ByteArray} (h : Rd w0 p sa cap T i w) : w.cell? ⟨p, 0, none⟩ = some (.slice sa T.length cap) ∧ w.cell? ⟨p, 1, none⟩ = some (.int .i64 i) ∧ w.frozen? ⟨p, 1, none⟩ = false :=
  ⟨cell_of_row w p 0 _ _ _ h.cell, cell_of_row w p 1 _ _ _ h.cell, frozen_of_row w p 1 _ _ h.cell⟩
theorem Rd.tok {w0 w : World} {p i cap : Nat} {sa : Option Addr} {T : List ByteArray} {x : ByteArray} (h : Rd w0 p sa cap T i w) {j : Nat} (hx : T[j]? = some x) : ∃ g off, sa = some ⟨g, off, none⟩ ∧ w.cell? ⟨g, off + j, none⟩ = some (.string x) := by
  rcases h.toks with h0 | ⟨g, off, ha, hg, hc⟩
  · subst h0; simp at hx
  · exact ⟨g, off, ha, (h.old.cell (p := ⟨g, off + j, none⟩) hg).trans (hc j x hx)⟩
theorem only_set (w : World) (p : Nat) (u : Value) : Only (iv p (p + 1)) w (w.setCell ⟨p, 1, none⟩ u) := by
  refine ⟨rfl, rfl, rfl, by simp [World.setCell], fun k _ hk => Below.heap_setCell _ _ _ _ ?_⟩
  intro e
  apply hk
  have : k = p := e
  subst this
  exact ⟨Nat.le_refl _, Nat.lt_succ_self _⟩
theorem Rd.next {w0 w : World} {p i cap : Nat} {sa : Option Addr} {T : List ByteArray} (h : Rd w0 p sa cap T i w) (hi : i < T.length) : Rd w0 p sa cap T (i + 1) (w.setCell ⟨p, 1, none⟩ (.int .i64 ((i : Int) + 1))) := by
  have ho := only_set w p (.int .i64 ((i : Int) + 1))
  refine ⟨?_, h.toks, h.lo, h.old.trans (ho.below (fun k hk => by have := hk.1; have := h.lo; omega) h.old.size), hi, h.most⟩
  have := heap_setCell_same w p 1 _ _ (.int .i64 ((i : Int) + 1)) h.cell
  simpa using this

set_option maxHeartbeats 400000 in
theorem atEnd_any (w0 : World) (p : Nat) (sa : Option Addr) (cap : Nat) (T : List ByteArray) (i : Nat) (w : World) (h : Rd w0 p sa cap T i w) :
    Calls Tryd.prog 28 #[.pointer (some ⟨p, 0, none⟩)] w fun e w' => e = .returned (.bool (decide (i = T.length))) ∧ Below w.heap.size w w' := by
  obtain ⟨c0, c1, f1⟩ := h.cells
  have hm := h.most
  have hl := h.le
  clear h
  by_cases he : i = T.length
  · have HE := Lib.hid (decide_eq_true he)
    have d : ((i : Int) == (T.length : Int)) = true := by rw [he]; exact beq_self_eq_true _
    clear he
    go_enter Tryd.func28, Tryd.ntmps28
    go_wp2
    go_quiet (fail)
    go_wp2
    go_ret
    exact ⟨by rw [HE.out]; rfl, below_drewN (Below.refl _ _) _⟩
  · have HE := Lib.hid (decide_eq_false he)
    have d : ((i : Int) == (T.length : Int)) = false := by rw [beq_eq_false_iff_ne]; omega
    clear he
    go_enter Tryd.func28, Tryd.ntmps28
    go_wp2
    go_quiet (fail)
    go_wp2
    go_ret
    exact ⟨by rw [HE.out]; rfl, below_drewN (Below.refl _ _) _⟩

/-- One token taken, or left. -/
def Took (w0 : World) (p : Nat) (sa : Option Addr) (cap : Nat) (T : List ByteArray) (i : Nat) (x : ByteArray) (w : World) (e : Ending) (w' : World) : Prop :=
  (T[i]? = some x ∧ e = .returned (.bool true) ∧ Rd w0 p sa cap T (i + 1) w' ∧ Only (iv p (p + 1)) w w') ∨ (¬ T[i]? = some x ∧ e = .returned (.bool false) ∧ Rd w0 p sa cap T i w' ∧ Only (iv p (p + 1)) w w')
theorem string_eq_no {a b : ByteArray} (h : ¬ a = b) : (a.toList == b.toList) = false := by
  rw [beq_eq_false_iff_ne]
  intro e
  rw [Lib.toList_data, Lib.toList_data] at e
  exact h (ByteArray.ext (Array.toList_inj.1 e))

set_option maxHeartbeats 1000000 in
set_option maxRecDepth 100000 in
theorem took_any (x : ByteArray) (w0 : World) (p : Nat) (sa : Option Addr) (cap : Nat) (T : List ByteArray) (i : Nat) (w : World) (h : Rd w0 p sa cap T i w) :
    Calls Tryd.prog 80 #[.pointer (some ⟨p, 0, none⟩), .string x] w (Took w0 p sa cap T i x w) := by
  have HR := Lib.hid h
  have hm := h.most
  have hl := h.le
  have HS : Hid (∀ W, Below w.heap.size w W → Calls Tryd.prog 28 #[.pointer (some ⟨p, 0, none⟩)] W fun e w' => e = .returned (.bool (decide (i = T.length))) ∧ Below w.heap.size w w') := Lib.hid fun W hW => by
    refine (atEnd_any w0 p sa cap T i W (HR.out.below hW)).mono ?_
    rintro e w' ⟨rfl, hb⟩
    exact ⟨rfl, hW.trans (hb.mono hW.size)⟩
  have hself : Below w.heap.size w w := Below.refl _ _
  clear h
  by_cases he : i = T.length
  · rw [decide_eq_true he] at HS
    have HN : Hid (¬ T[i]? = some x) := Lib.hid (by rw [he, List.getElem?_eq_none (Nat.le_refl _)]; simp)
    clear he
    go_enter Tryd.func80, Tryd.ntmps80
    go_upto_region 1 with (fail)
    refine wp_region_held_drew (S := fun w' => Below w.heap.size w w') (by kernel_rfl) (by exact hself.drew) (fun hHeld => ?_)
    (refine wpAnyH_take (i := 0) (oi := ⟨_, _, _, _, _, _⟩) (v := ?_) rfl (by kernel_rfl) (by kernel_rfl) (by kernel_rfl) (fun _ _ _ h => h) (Or.inl ⟨by rfl, ?_⟩) (by assumption) ?_; rotate_left; focus ((intro w' hSw; (try dsimp only at hSw); go_simp; (try with_reducible rfl)))); (try simp only [Act.put, List.setIfInBounds_toArray, List.set_cons_zero, List.set_cons_succ])
    refine wpAnyH_ready (rs := [1]) (by kernel_rfl) (by simp) ?_
    refine AllReadyH.cons (o := ⟨_, _, _, _, _, _⟩) rfl (fun K hK => ?_) AllReadyH.nil
    go_simp
    (go_at_call 28; (with_reducible refine Calls.mono (HS.out _ ?_) ?_); (exact hself.drew); rintro e w1 ⟨rfl, hb⟩)
    (try go_wp2_with fail)
    refine hK.out _ _ hb (fun hHeld => ?_)
    clear hK K
    (try simp only [Act.put, List.setIfInBounds_toArray, List.set_cons_zero, List.set_cons_succ])
    (refine wpAnyH_take (i := 2) (oi := ⟨_, _, _, _, _, _⟩) (v := ?_) rfl (by kernel_rfl) (by kernel_rfl) (by kernel_rfl) (fun _ _ _ h => h) (Or.inl ⟨by rfl, ?_⟩) (by assumption) ?_; rotate_left; focus ((intro w' hSw; (try dsimp only at hSw); go_simp; (try with_reducible rfl)))); (try simp only [Act.put, List.setIfInBounds_toArray, List.set_cons_zero, List.set_cons_succ])
    (refine wpAnyH_take (i := 3) (oi := ⟨_, _, _, _, _, _⟩) (v := undef) rfl (by kernel_rfl) (by kernel_rfl) (by kernel_rfl) (fun _ _ _ h => h) (Or.inr ⟨by rfl, rfl⟩) (by assumption) ?_); (try simp only [Act.put, List.setIfInBounds_toArray, List.set_cons_zero, List.set_cons_succ])
    (refine wpAnyH_take (i := 4) (oi := ⟨_, _, _, _, _, _⟩) (v := undef) rfl (by kernel_rfl) (by kernel_rfl) (by kernel_rfl) (fun _ _ _ h => h) (Or.inr ⟨by rfl, rfl⟩) (by assumption) ?_); (try simp only [Act.put, List.setIfInBounds_toArray, List.set_cons_zero, List.set_cons_succ])
    (refine wpAnyH_take (i := 5) (oi := ⟨_, _, _, _, _, _⟩) (v := undef) rfl (by kernel_rfl) (by kernel_rfl) (by kernel_rfl) (fun _ _ _ h => h) (Or.inr ⟨by rfl, rfl⟩) (by assumption) ?_); (try simp only [Act.put, List.setIfInBounds_toArray, List.set_cons_zero, List.set_cons_succ])
    (refine wpAnyH_take (i := 6) (oi := ⟨_, _, _, _, _, _⟩) (v := undef) rfl (by kernel_rfl) (by kernel_rfl) (by kernel_rfl) (fun _ _ _ h => h) (Or.inr ⟨by rfl, rfl⟩) (by assumption) ?_); (try simp only [Act.put, List.setIfInBounds_toArray, List.set_cons_zero, List.set_cons_succ])
    (refine wpAnyH_take (i := 7) (oi := ⟨_, _, _, _, _, _⟩) (v := undef) rfl (by kernel_rfl) (by kernel_rfl) (by kernel_rfl) (fun _ _ _ h => h) (Or.inr ⟨by rfl, rfl⟩) (by assumption) ?_); (try simp only [Act.put, List.setIfInBounds_toArray, List.set_cons_zero, List.set_cons_succ])
    (refine wpAnyH_take (i := 8) (oi := ⟨_, _, _, _, _, _⟩) (v := undef) rfl (by kernel_rfl) (by kernel_rfl) (by kernel_rfl) (fun _ _ _ h => h) (Or.inr ⟨by rfl, rfl⟩) (by assumption) ?_); (try simp only [Act.put, List.setIfInBounds_toArray, List.set_cons_zero, List.set_cons_succ])
    (refine wpAnyH_take (i := 9) (oi := ⟨_, _, _, _, _, _⟩) (v := undef) rfl (by kernel_rfl) (by kernel_rfl) (by kernel_rfl) (fun _ _ _ h => h) (Or.inr ⟨by rfl, rfl⟩) (by assumption) ?_); (try simp only [Act.put, List.setIfInBounds_toArray, List.set_cons_zero, List.set_cons_succ])
    (refine wpAnyH_take (i := 10) (oi := ⟨_, _, _, _, _, _⟩) (v := undef) rfl (by kernel_rfl) (by kernel_rfl) (by kernel_rfl) (fun _ _ _ h => h) (Or.inr ⟨by rfl, rfl⟩) (by assumption) ?_); (try simp only [Act.put, List.setIfInBounds_toArray, List.set_cons_zero, List.set_cons_succ])
    (refine wpAnyH_take (i := 11) (oi := ⟨_, _, _, _, _, _⟩) (v := undef) rfl (by kernel_rfl) (by kernel_rfl) (by kernel_rfl) (fun _ _ _ h => h) (Or.inr ⟨by rfl, rfl⟩) (by assumption) ?_); (try simp only [Act.put, List.setIfInBounds_toArray, List.set_cons_zero, List.set_cons_succ])
    (refine wpAnyH_take (i := 12) (oi := ⟨_, _, _, _, _, _⟩) (v := undef) rfl (by kernel_rfl) (by kernel_rfl) (by kernel_rfl) (fun _ _ _ h => h) (Or.inr ⟨by rfl, rfl⟩) (by assumption) ?_); (try simp only [Act.put, List.setIfInBounds_toArray, List.set_cons_zero, List.set_cons_succ])
    (refine wpAnyH_take (i := 13) (oi := ⟨_, _, _, _, _, _⟩) (v := undef) rfl (by kernel_rfl) (by kernel_rfl) (by kernel_rfl) (fun _ _ _ h => h) (Or.inr ⟨by rfl, rfl⟩) (by assumption) ?_); (try simp only [Act.put, List.setIfInBounds_toArray, List.set_cons_zero, List.set_cons_succ])
    (refine wpAnyH_take (i := 14) (oi := ⟨_, _, _, _, _, _⟩) (v := undef) rfl (by kernel_rfl) (by kernel_rfl) (by kernel_rfl) (fun _ _ _ h => h) (Or.inr ⟨by rfl, rfl⟩) (by assumption) ?_); (try simp only [Act.put, List.setIfInBounds_toArray, List.set_cons_zero, List.set_cons_succ])
    (refine wpAnyH_take (i := 15) (oi := ⟨_, _, _, _, _, _⟩) (v := ?_) rfl (by kernel_rfl) (by kernel_rfl) (by kernel_rfl) (fun _ _ _ h => h) (Or.inl ⟨by rfl, ?_⟩) (by assumption) ?_; rotate_left; focus ((intro w' hSw; (try dsimp only at hSw); go_simp; (try with_reducible rfl)))); (try simp only [Act.put, List.setIfInBounds_toArray, List.set_cons_zero, List.set_cons_succ])
    refine wpAnyH_done (by kernel_rfl) ?_ _
    all_goals
      have HB := Lib.hid hb
      clear hb
      go_wp2
      go_ret
      exact .inr ⟨HN.out, rfl, HR.out.below HB.out, Only.of_below HB.out⟩
  · rw [decide_eq_false he] at HS
    have hlt : i < T.length := by omega
    obtain ⟨y, hy⟩ : ∃ y, T[i]? = some y := ⟨_, List.getElem?_eq_getElem hlt⟩
    have HCE : Hid (∀ W, Below w.heap.size w W → W.cell? ⟨p, 0, none⟩ = some (.slice sa T.length cap) ∧ W.cell? ⟨p, 1, none⟩ = some (.int .i64 i) ∧ W.frozen? ⟨p, 1, none⟩ = false) := Lib.hid fun W hW => (HR.out.below hW).cells
    obtain ⟨g, off, rfl, _⟩ := HR.out.tok hy
    have HCT : Hid (∀ W, Below w.heap.size w W → W.cell? ⟨g, off + i, none⟩ = some (.string y)) := Lib.hid fun W hW => by
      obtain ⟨g', off', hs, hc⟩ := (HR.out.below hW).tok hy
      simp only [Option.some.injEq, Addr.mk.injEq, and_true] at hs
      obtain ⟨rfl, rfl⟩ := hs
      exact hc
    have hi0 : (0 : Int) ≤ (i : Int) := by omega
    have hi1 : (i : Int) < (T.length : Int) := by omega
    by_cases hyx : y = x
    · subst hyx
      have HY := Lib.hid hy
      have d : (y.toList == y.toList) = true := beq_self_eq_true _
      have d2 : (y.toList != y.toList) = false := bne_self_eq_false _
      clear he hy
      go_enter Tryd.func80, Tryd.ntmps80
      go_upto_region 1 with (fail)
      obtain ⟨b0, b1, _⟩ := HCE.out w hself
      have bt := HCT.out w hself
      have hdrew := hself.drew
      go_region_held3 (fun w' => Below w.heap.size w w' ∧ w'.cell? ⟨p, 0, none⟩ = some (.slice (some ⟨g, off, none⟩) T.length cap) ∧ w'.cell? ⟨p, 1, none⟩ = some (.int .i64 i) ∧ w'.cell? ⟨g, off + i, none⟩ = some (.string y)) (go_keep)
        (first | (go_at_call 28; (with_reducible refine Calls.mono (HS.out _ ?_) ?_); (assumption); rintro e w1 ⟨rfl, hb⟩; obtain ⟨c0, c1, f1⟩ := HCE.out w1 hb; have ct := HCT.out w1 hb))
      all_goals
        have HB := Lib.hid hb
        clear hb
        go_wp2
        go_ret
        exact .inl ⟨HY.out, rfl, (HR.out.below HB.out).next hlt, (Only.of_below HB.out).trans (only_set w1 p _)⟩
    · have HN : Hid (¬ T[i]? = some x) := Lib.hid (by rw [hy]; simpa using hyx)
      have d := string_eq_no hyx
      have d2 : (y.toList != x.toList) = true := by simp [bne, d]
      clear he hy hyx
      go_enter Tryd.func80, Tryd.ntmps80
      go_upto_region 1 with (fail)
      obtain ⟨b0, b1, _⟩ := HCE.out w hself
      have bt := HCT.out w hself
      have hdrew := hself.drew
      go_region_held3 (fun w' => Below w.heap.size w w' ∧ w'.cell? ⟨p, 0, none⟩ = some (.slice (some ⟨g, off, none⟩) T.length cap) ∧ w'.cell? ⟨p, 1, none⟩ = some (.int .i64 i) ∧ w'.cell? ⟨g, off + i, none⟩ = some (.string y)) (go_keep)
        (first | (go_at_call 28; (with_reducible refine Calls.mono (HS.out _ ?_) ?_); (assumption); rintro e w1 ⟨rfl, hb⟩; obtain ⟨c0, c1, f1⟩ := HCE.out w1 hb; have ct := HCT.out w1 hb))
      all_goals
        have HB := Lib.hid hb
        clear hb
        go_wp2
        go_ret
        exact .inr ⟨HN.out, rfl, HR.out.below HB.out, Only.of_below HB.out⟩
end Go.Proofs.YtjmmeccfjanpcaaDoor

