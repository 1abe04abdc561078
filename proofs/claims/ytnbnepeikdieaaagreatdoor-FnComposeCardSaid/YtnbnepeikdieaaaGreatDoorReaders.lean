/-
  Terms read from tokens, plain: over what a token that is no bracket stands for.
  The reader's small steps: atEnd, took, next.
  The reader's next token; what a token that is no bracket stands for: leafOf, strings.CutPrefix of one byte.
  The program's reader: anyTerm, elements, rest.
  What is read of all tokens, plain; validTerm of the program.
  validTerm of the program; how far a reading has come.
-/
import Derived.Test.YtnbnepeikdieaaaGreatDoorNews
import Derived.Test.YtnbnepeikdieaaaGreatDoorNums
import Derived.Test.YtnbnepeikdieaaaGreatDoorPuts
import Derived.Test.YtnbnepeikdieaaaGreatDoorItems
import Derived.Deep.QuietTactic
import Derived.BigQuiet
import Derived.Deep.RegionWith
import Derived.IntWalk
import Derived.Deep.RegionHeld3
import Derived.WalkLawsBesides
import Derived.Test.YtnbnepeikdieaaaGreatDoorTabsErr
import Derived.Test.YtnbnepeikdieaaaGreatDoorName
import Derived.Test.YtnbnepeikdieaaaGreatDoorTokens
namespace Go.Proofs.YtnbnepeikdieaaaGreatDoor
open Go.RowKit
set_option linter.unusedVariables false
set_option linter.unusedSimpArgs false

def tokL : ByteArray := ⟨#[40]⟩
def tokR : ByteArray := ⟨#[41]⟩
def tokD : ByteArray := ⟨#[46]⟩
def pairT (x y : Tm) : Tm := .mk 4 0 ⟨#[]⟩ [x, y]
mutual
def anyP (L : ByteArray → Option Tm) : Nat → List ByteArray → Nat → Option (Tm × Nat)
  | 0, _, _ => none
  | k + 1, T, i => if T[i]? = some tokL then (if T[i + 1]? = some tokR then some (zeroTm, i + 2) else elemP L k T (i + 1)) else match T[i]? with | none => none | some x => match L x with | none => none | some t => some (t, i + 1)
def elemP (L : ByteArray → Option Tm) : Nat → List ByteArray → Nat → Option (Tm × Nat)
  | 0, _, _ => none
  | k + 1, T, i => match anyP L k T i with | none => none | some (x, j) => match restP L k T j with | none => none | some (y, m) => some (pairT x y, m)
def restP (L : ByteArray → Option Tm) : Nat → List ByteArray → Nat → Option (Tm × Nat)
  | 0, _, _ => none
  | k + 1, T, i => if T[i]? = some tokR then some (zeroTm, i + 1) else if T[i]? = some tokD then (match anyP L k T (i + 1) with | none => none | some (y, j) => if T[j]? = some tokR then some (y, j + 1) else none) else elemP L k T i
end

theorem at_lt {T : List ByteArray} {i : Nat} {x : ByteArray} (h : T[i]? = some x) : i < T.length := (List.getElem?_eq_some_iff.1 h).1
theorem any_open {L : ByteArray → Option Tm} {k : Nat} {T : List ByteArray} {i : Nat} (h : T[i]? = some tokL) (h2 : T[i + 1]? = some tokR) : anyP L (k + 1) T i = some (zeroTm, i + 2) := by rw [anyP, if_pos h, if_pos h2]
theorem any_elem {L : ByteArray → Option Tm} {k : Nat} {T : List ByteArray} {i : Nat} (h : T[i]? = some tokL) (h2 : ¬ T[i + 1]? = some tokR) : anyP L (k + 1) T i = elemP L k T (i + 1) := by rw [anyP, if_pos h, if_neg h2]
theorem any_end {L : ByteArray → Option Tm} {k : Nat} {T : List ByteArray} {i : Nat} (h : T[i]? = none) : anyP L (k + 1) T i = none := by rw [anyP, if_neg (by rw [h]; simp), h]
theorem any_leaf {L : ByteArray → Option Tm} {k : Nat} {T : List ByteArray} {i : Nat} {x : ByteArray} {t : Tm} (h : T[i]? = some x) (hx : ¬ x = tokL) (hl : L x = some t) : anyP L (k + 1) T i = some (t, i + 1) := by
  rw [anyP, if_neg (by rw [h]; simpa using hx), h]; simp only [hl]
theorem any_no {L : ByteArray → Option Tm} {k : Nat} {T : List ByteArray} {i : Nat} {x : ByteArray} (h : T[i]? = some x) (hx : ¬ x = tokL) (hl : L x = none) : anyP L (k + 1) T i = none := by
  rw [anyP, if_neg (by rw [h]; simpa using hx), h]; simp only [hl]
theorem elem_no1 {L : ByteArray → Option Tm} {k : Nat} {T : List ByteArray} {i : Nat} (h : anyP L k T i = none) : elemP L (k + 1) T i = none := by rw [elemP, h]
theorem elem_no2 {L : ByteArray → Option Tm} {k : Nat} {T : List ByteArray} {i j : Nat} {x : Tm} (h : anyP L k T i = some (x, j)) (h2 : restP L k T j = none) : elemP L (k + 1) T i = none := by rw [elemP, h]; simp only [h2]
theorem elem_yes {L : ByteArray → Option Tm} {k : Nat} {T : List ByteArray} {i j m : Nat} {x y : Tm} (h : anyP L k T i = some (x, j)) (h2 : restP L k T j = some (y, m)) : elemP L (k + 1) T i = some (pairT x y, m) := by rw [elemP, h]; simp only [h2]
theorem rest_close {L : ByteArray → Option Tm} {k : Nat} {T : List ByteArray} {i : Nat} (h : T[i]? = some tokR) : restP L (k + 1) T i = some (zeroTm, i + 1) := by rw [restP, if_pos h]
theorem rest_elem {L : ByteArray → Option Tm} {k : Nat} {T : List ByteArray} {i : Nat} (h : ¬ T[i]? = some tokR) (h2 : ¬ T[i]? = some tokD) : restP L (k + 1) T i = elemP L k T i := by rw [restP, if_neg h, if_neg h2]
theorem rest_no1 {L : ByteArray → Option Tm} {k : Nat} {T : List ByteArray} {i : Nat} (h : T[i]? = some tokD) (h2 : anyP L k T (i + 1) = none) : restP L (k + 1) T i = none := by
  rw [restP, if_neg (by rw [h]; decide), if_pos h, h2]
theorem rest_no2 {L : ByteArray → Option Tm} {k : Nat} {T : List ByteArray} {i j : Nat} {y : Tm} (h : T[i]? = some tokD) (h2 : anyP L k T (i + 1) = some (y, j)) (h3 : ¬ T[j]? = some tokR) : restP L (k + 1) T i = none := by
  rw [restP, if_neg (by rw [h]; decide), if_pos h, h2]; simp only [if_neg h3]
theorem rest_yes {L : ByteArray → Option Tm} {k : Nat} {T : List ByteArray} {i j : Nat} {y : Tm} (h : T[i]? = some tokD) (h2 : anyP L k T (i + 1) = some (y, j)) (h3 : T[j]? = some tokR) : restP L (k + 1) T i = some (y, j + 1) := by
  rw [restP, if_neg (by rw [h]; decide), if_pos h, h2]; simp only [if_pos h3]
end Go.Proofs.YtnbnepeikdieaaaGreatDoor

namespace Go.Proofs.YtnbnepeikdieaaaGreatDoor
open Go.RowKit
set_option linter.unusedVariables false
set_option linter.unusedSimpArgs false

/-- A reader over tokens that lie below it. -/
structure Rd (w0 : World) (p : Nat) (sa : Option Addr) (cap : Nat) (T : List ByteArray) (i : Nat) (w : World) : Prop where
  cell : w.heap[p]? = some (.cells #[.slice sa T.length cap, .int .i64 i] 58 (0, 0))
  toks : T = [] ∨ ∃ g off, sa = some ⟨g, off, none⟩ ∧ g < w0.heap.size ∧ ∀ j x, T[j]? = some x → w0.cell? ⟨g, off + j, none⟩ = some (.string x)
  lo : w0.heap.size ≤ p
  old : Below w0.heap.size w0 w
  le : i ≤ T.length
  most : T.length ≤ 1048576
theorem Rd.hi {w0 w : World} {p i cap : Nat} {sa : Option Addr} {T : List ByteArray} (h : Rd w0 p sa cap T i w) : p < w.heap.size := (Array.getElem?_eq_some_iff.1 h.cell).1
theorem Rd.below {w0 w w' : World} {p i cap : Nat} {sa : Option Addr} {T : List ByteArray} (h : Rd w0 p sa cap T i w) (hb : Below w.heap.size w w') : Rd w0 p sa cap T i w' :=
  ⟨(hb.block p h.hi).trans h.cell, h.toks, h.lo, h.old.trans (hb.mono h.old.size), h.le, h.most⟩
theorem Rd.only {w0 w w' : World} {p i cap b : Nat} {sa : Option Addr} {T : List ByteArray} (h : Rd w0 p sa cap T i w) (ho : Only (iv b (b + 1)) w w') (hb : w0.heap.size ≤ b) (hne : ¬ b = p) : Rd w0 p sa cap T i w' :=
  ⟨(ho.block p h.hi (fun hk => by have h1 := hk.1; have h2 := hk.2; omega)).trans h.cell, h.toks, h.lo, h.old.trans (ho.below (fun k hk => by have := hk.1; omega) h.old.size), h.le, h.most⟩
theorem Rd.cells {w0 w : World} {p i cap : Nat} {sa : Option Addr} {T : List ByteArray} (h : Rd w0 p sa cap T i w) : w.cell? ⟨p, 0, none⟩ = some (.slice sa T.length cap) ∧ w.cell? ⟨p, 1, none⟩ = some (.int .i64 i) ∧ w.frozen? ⟨p, 1, none⟩ = false :=
  ⟨cell_of_row w p 0 _ _ _ h.cell, cell_of_row w p 1 _ _ _ h.cell, frozen_of_row w p 1 _ _ h.cell⟩
theorem Rd.tok {w0 w : World} {p i cap : Nat} {sa : Option Addr} {T : List ByteArray} {x : ByteArray} (h : Rd w0 p sa cap T i w) {j : Nat} (hx : T[j]? = some x) : ∃ g off, sa = some ⟨g, off, none⟩ ∧ w.cell? ⟨g, off + j, none⟩ = some (.string x) := by
  rcases h.toks with h0 | ⟨g, off, ha, hg, hc⟩
  · subst h0; simp at hx
  · exact ⟨g, off, ha, (h.old.cell (p := ⟨g, off + j, none⟩) hg).trans (hc j x hx)⟩
theorem only_set (w : World) (p : Nat) (u : Value) : Only (iv p (p + 1)) w (w.setCell ⟨p, 1, none⟩ u) := by
  refine ⟨rfl, rfl, rfl, by simp [World.setCell], fun k _ hk => Below.heap_setCell _ _ _ _ ?_⟩
  intro e
  apply hk
  have : k = p := e
  subst this
  exact ⟨Nat.le_refl _, Nat.lt_succ_self _⟩
theorem Rd.next {w0 w : World} {p i cap : Nat} {sa : Option Addr} {T : List ByteArray} (h : Rd w0 p sa cap T i w) (hi : i < T.length) : Rd w0 p sa cap T (i + 1) (w.setCell ⟨p, 1, none⟩ (.int .i64 ((i : Int) + 1))) := by
  have ho := only_set w p (.int .i64 ((i : Int) + 1))
  refine ⟨?_, h.toks, h.lo, h.old.trans (ho.below (fun k hk => by have := hk.1; have := h.lo; omega) h.old.size), hi, h.most⟩
  have := heap_setCell_same w p 1 _ _ (.int .i64 ((i : Int) + 1)) h.cell
  simpa using this

set_option maxHeartbeats 400000 in
theorem atEnd_any (w0 : World) (p : Nat) (sa : Option Addr) (cap : Nat) (T : List ByteArray) (i : Nat) (w : World) (h : Rd w0 p sa cap T i w) :
    Calls Tryz.prog 30 #[.pointer (some ⟨p, 0, none⟩)] w fun e w' => e = .returned (.bool (decide (i = T.length))) ∧ Below w.heap.size w w' := by
  obtain ⟨c0, c1, f1⟩ := h.cells
  have hm := h.most
  have hl := h.le
  clear h
  by_cases he : i = T.length
  · have HE := Lib.hid (decide_eq_true he)
    have d : ((i : Int) == (T.length : Int)) = true := by rw [he]; exact beq_self_eq_true _
    clear he
    go_enter Tryz.func30, Tryz.ntmps30
    go_wp2
    go_quiet (fail)
    go_wp2
    go_ret
    exact ⟨by rw [HE.out]; rfl, below_drewN (Below.refl _ _) _⟩
  · have HE := Lib.hid (decide_eq_false he)
    have d : ((i : Int) == (T.length : Int)) = false := by rw [beq_eq_false_iff_ne]; omega
    clear he
    go_enter Tryz.func30, Tryz.ntmps30
    go_wp2
    go_quiet (fail)
    go_wp2
    go_ret
    exact ⟨by rw [HE.out]; rfl, below_drewN (Below.refl _ _) _⟩

/-- One token taken, or left. -/
def Took (w0 : World) (p : Nat) (sa : Option Addr) (cap : Nat) (T : List ByteArray) (i : Nat) (x : ByteArray) (w : World) (e : Ending) (w' : World) : Prop :=
  (T[i]? = some x ∧ e = .returned (.bool true) ∧ Rd w0 p sa cap T (i + 1) w' ∧ Only (iv p (p + 1)) w w') ∨ (¬ T[i]? = some x ∧ e = .returned (.bool false) ∧ Rd w0 p sa cap T i w' ∧ Only (iv p (p + 1)) w w')
theorem string_eq_no {a b : ByteArray} (h : ¬ a = b) : (a.toList == b.toList) = false := by
  rw [beq_eq_false_iff_ne]
  intro e
  rw [Lib.toList_data, Lib.toList_data] at e
  exact h (ByteArray.ext (Array.toList_inj.1 e))

set_option maxHeartbeats 1000000 in
set_option maxRecDepth 100000 in
theorem took_any (x : ByteArray) (w0 : World) (p : Nat) (sa : Option Addr) (cap : Nat) (T : List ByteArray) (i : Nat) (w : World) (h : Rd w0 p sa cap T i w) :
    Calls Tryz.prog 90 #[.pointer (some ⟨p, 0, none⟩), .string x] w (Took w0 p sa cap T i x w) := by
  have HR := Lib.hid h
  have hm := h.most
  have hl := h.le
  have HS : Hid (∀ W, Below w.heap.size w W → Calls Tryz.prog 30 #[.pointer (some ⟨p, 0, none⟩)] W fun e w' => e = .returned (.bool (decide (i = T.length))) ∧ Below w.heap.size w w') := Lib.hid fun W hW => by
    refine (atEnd_any w0 p sa cap T i W (HR.out.below hW)).mono ?_
    rintro e w' ⟨rfl, hb⟩
    exact ⟨rfl, hW.trans (hb.mono hW.size)⟩
  have hself : Below w.heap.size w w := Below.refl _ _
  clear h
  by_cases he : i = T.length
  · rw [decide_eq_true he] at HS
    have HN : Hid (¬ T[i]? = some x) := Lib.hid (by rw [he, List.getElem?_eq_none (Nat.le_refl _)]; simp)
    clear he
    go_enter Tryz.func90, Tryz.ntmps90
    go_upto_region 1 with (fail)
    refine wp_region_held_drew (S := fun w' => Below w.heap.size w w') (by kernel_rfl) (by exact hself.drew) (fun hHeld => ?_)
    (refine wpAnyH_take (i := 0) (oi := ⟨_, _, _, _, _, _⟩) (v := ?_) rfl (by kernel_rfl) (by kernel_rfl) (by kernel_rfl) (fun _ _ _ h => h) (Or.inl ⟨by rfl, ?_⟩) (by assumption) ?_; rotate_left; focus ((intro w' hSw; (try dsimp only at hSw); go_simp; (try with_reducible rfl)))); (try simp only [Act.put, List.setIfInBounds_toArray, List.set_cons_zero, List.set_cons_succ])
    refine wpAnyH_ready (rs := [1]) (by kernel_rfl) (by simp) ?_
    refine AllReadyH.cons (o := ⟨_, _, _, _, _, _⟩) rfl (fun K hK => ?_) AllReadyH.nil
    go_simp
    (go_at_call 30; (with_reducible refine Calls.mono (HS.out _ ?_) ?_); (exact hself.drew); rintro e w1 ⟨rfl, hb⟩)
    (try go_wp2_with fail)
    refine hK.out _ _ hb (fun hHeld => ?_)
    clear hK K
    (try simp only [Act.put, List.setIfInBounds_toArray, List.set_cons_zero, List.set_cons_succ])
    (refine wpAnyH_take (i := 2) (oi := ⟨_, _, _, _, _, _⟩) (v := ?_) rfl (by kernel_rfl) (by kernel_rfl) (by kernel_rfl) (fun _ _ _ h => h) (Or.inl ⟨by rfl, ?_⟩) (by assumption) ?_; rotate_left; focus ((intro w' hSw; (try dsimp only at hSw); go_simp; (try with_reducible rfl)))); (try simp only [Act.put, List.setIfInBounds_toArray, List.set_cons_zero, List.set_cons_succ])
    (refine wpAnyH_take (i := 3) (oi := ⟨_, _, _, _, _, _⟩) (v := undef) rfl (by kernel_rfl) (by kernel_rfl) (by kernel_rfl) (fun _ _ _ h => h) (Or.inr ⟨by rfl, rfl⟩) (by assumption) ?_); (try simp only [Act.put, List.setIfInBounds_toArray, List.set_cons_zero, List.set_cons_succ])
    (refine wpAnyH_take (i := 4) (oi := ⟨_, _, _, _, _, _⟩) (v := undef) rfl (by kernel_rfl) (by kernel_rfl) (by kernel_rfl) (fun _ _ _ h => h) (Or.inr ⟨by rfl, rfl⟩) (by assumption) ?_); (try simp only [Act.put, List.setIfInBounds_toArray, List.set_cons_zero, List.set_cons_succ])
    (refine wpAnyH_take (i := 5) (oi := ⟨_, _, _, _, _, _⟩) (v := undef) rfl (by kernel_rfl) (by kernel_rfl) (by kernel_rfl) (fun _ _ _ h => h) (Or.inr ⟨by rfl, rfl⟩) (by assumption) ?_); (try simp only [Act.put, List.setIfInBounds_toArray, List.set_cons_zero, List.set_cons_succ])
    (refine wpAnyH_take (i := 6) (oi := ⟨_, _, _, _, _, _⟩) (v := undef) rfl (by kernel_rfl) (by kernel_rfl) (by kernel_rfl) (fun _ _ _ h => h) (Or.inr ⟨by rfl, rfl⟩) (by assumption) ?_); (try simp only [Act.put, List.setIfInBounds_toArray, List.set_cons_zero, List.set_cons_succ])
    (refine wpAnyH_take (i := 7) (oi := ⟨_, _, _, _, _, _⟩) (v := undef) rfl (by kernel_rfl) (by kernel_rfl) (by kernel_rfl) (fun _ _ _ h => h) (Or.inr ⟨by rfl, rfl⟩) (by assumption) ?_); (try simp only [Act.put, List.setIfInBounds_toArray, List.set_cons_zero, List.set_cons_succ])
    (refine wpAnyH_take (i := 8) (oi := ⟨_, _, _, _, _, _⟩) (v := undef) rfl (by kernel_rfl) (by kernel_rfl) (by kernel_rfl) (fun _ _ _ h => h) (Or.inr ⟨by rfl, rfl⟩) (by assumption) ?_); (try simp only [Act.put, List.setIfInBounds_toArray, List.set_cons_zero, List.set_cons_succ])
    (refine wpAnyH_take (i := 9) (oi := ⟨_, _, _, _, _, _⟩) (v := undef) rfl (by kernel_rfl) (by kernel_rfl) (by kernel_rfl) (fun _ _ _ h => h) (Or.inr ⟨by rfl, rfl⟩) (by assumption) ?_); (try simp only [Act.put, List.setIfInBounds_toArray, List.set_cons_zero, List.set_cons_succ])
    (refine wpAnyH_take (i := 10) (oi := ⟨_, _, _, _, _, _⟩) (v := undef) rfl (by kernel_rfl) (by kernel_rfl) (by kernel_rfl) (fun _ _ _ h => h) (Or.inr ⟨by rfl, rfl⟩) (by assumption) ?_); (try simp only [Act.put, List.setIfInBounds_toArray, List.set_cons_zero, List.set_cons_succ])
    (refine wpAnyH_take (i := 11) (oi := ⟨_, _, _, _, _, _⟩) (v := undef) rfl (by kernel_rfl) (by kernel_rfl) (by kernel_rfl) (fun _ _ _ h => h) (Or.inr ⟨by rfl, rfl⟩) (by assumption) ?_); (try simp only [Act.put, List.setIfInBounds_toArray, List.set_cons_zero, List.set_cons_succ])
    (refine wpAnyH_take (i := 12) (oi := ⟨_, _, _, _, _, _⟩) (v := undef) rfl (by kernel_rfl) (by kernel_rfl) (by kernel_rfl) (fun _ _ _ h => h) (Or.inr ⟨by rfl, rfl⟩) (by assumption) ?_); (try simp only [Act.put, List.setIfInBounds_toArray, List.set_cons_zero, List.set_cons_succ])
    (refine wpAnyH_take (i := 13) (oi := ⟨_, _, _, _, _, _⟩) (v := undef) rfl (by kernel_rfl) (by kernel_rfl) (by kernel_rfl) (fun _ _ _ h => h) (Or.inr ⟨by rfl, rfl⟩) (by assumption) ?_); (try simp only [Act.put, List.setIfInBounds_toArray, List.set_cons_zero, List.set_cons_succ])
    (refine wpAnyH_take (i := 14) (oi := ⟨_, _, _, _, _, _⟩) (v := undef) rfl (by kernel_rfl) (by kernel_rfl) (by kernel_rfl) (fun _ _ _ h => h) (Or.inr ⟨by rfl, rfl⟩) (by assumption) ?_); (try simp only [Act.put, List.setIfInBounds_toArray, List.set_cons_zero, List.set_cons_succ])
    (refine wpAnyH_take (i := 15) (oi := ⟨_, _, _, _, _, _⟩) (v := ?_) rfl (by kernel_rfl) (by kernel_rfl) (by kernel_rfl) (fun _ _ _ h => h) (Or.inl ⟨by rfl, ?_⟩) (by assumption) ?_; rotate_left; focus ((intro w' hSw; (try dsimp only at hSw); go_simp; (try with_reducible rfl)))); (try simp only [Act.put, List.setIfInBounds_toArray, List.set_cons_zero, List.set_cons_succ])
    refine wpAnyH_done (by kernel_rfl) ?_ _
    all_goals
      have HB := Lib.hid hb
      clear hb
      go_wp2
      go_ret
      exact .inr ⟨HN.out, rfl, HR.out.below HB.out, Only.of_below HB.out⟩
  · rw [decide_eq_false he] at HS
    have hlt : i < T.length := by omega
    obtain ⟨y, hy⟩ : ∃ y, T[i]? = some y := ⟨_, List.getElem?_eq_getElem hlt⟩
    have HCE : Hid (∀ W, Below w.heap.size w W → W.cell? ⟨p, 0, none⟩ = some (.slice sa T.length cap) ∧ W.cell? ⟨p, 1, none⟩ = some (.int .i64 i) ∧ W.frozen? ⟨p, 1, none⟩ = false) := Lib.hid fun W hW => (HR.out.below hW).cells
    obtain ⟨g, off, rfl, _⟩ := HR.out.tok hy
    have HCT : Hid (∀ W, Below w.heap.size w W → W.cell? ⟨g, off + i, none⟩ = some (.string y)) := Lib.hid fun W hW => by
      obtain ⟨g', off', hs, hc⟩ := (HR.out.below hW).tok hy
      simp only [Option.some.injEq, Addr.mk.injEq, and_true] at hs
      obtain ⟨rfl, rfl⟩ := hs
      exact hc
    have hi0 : (0 : Int) ≤ (i : Int) := by omega
    have hi1 : (i : Int) < (T.length : Int) := by omega
    by_cases hyx : y = x
    · subst hyx
      have HY := Lib.hid hy
      have d : (y.toList == y.toList) = true := beq_self_eq_true _
      have d2 : (y.toList != y.toList) = false := bne_self_eq_false _
      clear he hy
      go_enter Tryz.func90, Tryz.ntmps90
      go_upto_region 1 with (fail)
      obtain ⟨b0, b1, _⟩ := HCE.out w hself
      have bt := HCT.out w hself
      have hdrew := hself.drew
      go_region_held3 (fun w' => Below w.heap.size w w' ∧ w'.cell? ⟨p, 0, none⟩ = some (.slice (some ⟨g, off, none⟩) T.length cap) ∧ w'.cell? ⟨p, 1, none⟩ = some (.int .i64 i) ∧ w'.cell? ⟨g, off + i, none⟩ = some (.string y)) (go_keep)
        (first | (go_at_call 30; (with_reducible refine Calls.mono (HS.out _ ?_) ?_); (assumption); rintro e w1 ⟨rfl, hb⟩; obtain ⟨c0, c1, f1⟩ := HCE.out w1 hb; have ct := HCT.out w1 hb))
      all_goals
        have HB := Lib.hid hb
        clear hb
        go_wp2
        go_ret
        exact .inl ⟨HY.out, rfl, (HR.out.below HB.out).next hlt, (Only.of_below HB.out).trans (only_set w1 p _)⟩
    · have HN : Hid (¬ T[i]? = some x) := Lib.hid (by rw [hy]; simpa using hyx)
      have d := string_eq_no hyx
      have d2 : (y.toList != x.toList) = true := by simp [bne, d]
      clear he hy hyx
      go_enter Tryz.func90, Tryz.ntmps90
      go_upto_region 1 with (fail)
      obtain ⟨b0, b1, _⟩ := HCE.out w hself
      have bt := HCT.out w hself
      have hdrew := hself.drew
      go_region_held3 (fun w' => Below w.heap.size w w' ∧ w'.cell? ⟨p, 0, none⟩ = some (.slice (some ⟨g, off, none⟩) T.length cap) ∧ w'.cell? ⟨p, 1, none⟩ = some (.int .i64 i) ∧ w'.cell? ⟨g, off + i, none⟩ = some (.string y)) (go_keep)
        (first | (go_at_call 30; (with_reducible refine Calls.mono (HS.out _ ?_) ?_); (assumption); rintro e w1 ⟨rfl, hb⟩; obtain ⟨c0, c1, f1⟩ := HCE.out w1 hb; have ct := HCT.out w1 hb))
      all_goals
        have HB := Lib.hid hb
        clear hb
        go_wp2
        go_ret
        exact .inr ⟨HN.out, rfl, HR.out.below HB.out, Only.of_below HB.out⟩
end Go.Proofs.YtnbnepeikdieaaaGreatDoor

namespace Go.Proofs.YtnbnepeikdieaaaGreatDoor
open Go.RowKit
set_option linter.unusedVariables false
set_option linter.unusedSimpArgs false

def Nexted (w0 : World) (p : Nat) (sa : Option Addr) (cap : Nat) (T : List ByteArray) (i : Nat) (w : World) (e : Ending) (w' : World) : Prop :=
  (∃ x, T[i]? = some x ∧ e = .returned (.string x) ∧ Rd w0 p sa cap T (i + 1) w' ∧ Only (iv p (p + 1)) w w') ∨ (T[i]? = none ∧ e = .returned (.string ⟨#[]⟩) ∧ Rd w0 p sa cap T i w' ∧ Only (iv p (p + 1)) w w')

set_option maxHeartbeats 1000000 in
set_option maxRecDepth 100000 in
theorem next_any (w0 : World) (p : Nat) (sa : Option Addr) (cap : Nat) (T : List ByteArray) (i : Nat) (w : World) (h : Rd w0 p sa cap T i w) :
    Calls Tryz.prog 92 #[.pointer (some ⟨p, 0, none⟩)] w (Nexted w0 p sa cap T i w) := by
  have HR := Lib.hid h
  have hm := h.most
  have hl := h.le
  have HS := Lib.hid (atEnd_any w0 p sa cap T i w h)
  clear h
  by_cases he : i = T.length
  · rw [decide_eq_true he] at HS
    have HN : Hid (T[i]? = none) := Lib.hid (by rw [he, List.getElem?_eq_none (Nat.le_refl _)])
    clear he
    go_enter Tryz.func92, Tryz.ntmps92
    go_wp2_with fail
    refine HS.out.mono ?_
    rintro e w1 ⟨rfl, hb⟩
    have HB := Lib.hid hb
    clear hb
    go_wp2
    go_ret
    exact .inr ⟨HN.out, rfl, HR.out.below HB.out, Only.of_below HB.out⟩
  · rw [decide_eq_false he] at HS
    have hlt : i < T.length := by omega
    obtain ⟨y, hy⟩ : ∃ y, T[i]? = some y := ⟨_, List.getElem?_eq_getElem hlt⟩
    have HY := Lib.hid hy
    have hi0 : (0 : Int) ≤ (i : Int) := by omega
    have hi1 : (i : Int) < (T.length : Int) := by omega
    clear he hy
    go_enter Tryz.func92, Tryz.ntmps92
    go_wp2_with fail
    refine HS.out.mono ?_
    rintro e w1 ⟨rfl, hb⟩
    have HR1 := Lib.hid (HR.out.below hb)
    have HB := Lib.hid hb
    clear hb
    obtain ⟨c0, c1, f1⟩ := HR1.out.cells
    obtain ⟨g, off, rfl, ct⟩ := HR1.out.tok HY.out
    go_wp2
    go_quiet (fail)
    go_wp2
    go_ret
    have HN := Lib.hid (HR1.out.below (below_drewN (Below.refl _ w1) 5))
    refine .inl ⟨y, HY.out, rfl, ?_, ?_⟩
    · exact (HR1.out.below (below_drewN (Below.refl _ _) _)).next hlt
    · exact ((Only.of_below HB.out).trans (Only.of_below (below_drewN (Below.refl _ _) _))).trans (only_set _ p _)

theorem extract_one {x : ByteArray} {c : UInt8} {r : List UInt8} (h : x.data.toList = c :: r) : x.extract 0 1 = ⟨#[c]⟩ := by
  have : x = ⟨(c :: r).toArray⟩ := ByteArray.ext (Array.toList_inj.1 (by rw [h]))
  subst this
  rw [ByteArray.ext_iff]
  simp [ByteArray.extract, ByteArray.copySlice]
theorem extract_tail {x : ByteArray} {c : UInt8} {r : List UInt8} (h : x.data.toList = c :: r) : x.extract 1 x.size = ⟨r.toArray⟩ := by
  have : x = ⟨(c :: r).toArray⟩ := ByteArray.ext (Array.toList_inj.1 (by rw [h]))
  subst this
  rw [ByteArray.ext_iff]
  simp [ByteArray.extract, ByteArray.copySlice, ByteArray.size]
theorem size_cons {x : ByteArray} {c : UInt8} {r : List UInt8} (h : x.data.toList = c :: r) : x.size = r.length + 1 := by
  rw [Lib.size_eq, h]; rfl

/-- Behind a question mark, if there is one. -/
def cutQ (x : ByteArray) : ByteArray × Bool := match x.data.toList with | c :: r => if c = 63 then (⟨r.toArray⟩, true) else (x, false) | [] => (x, false)
set_option maxHeartbeats 1000000 in
theorem cutPrefix_any (x : ByteArray) (w : World) (hx : x.size ≤ 1048576) :
    Calls Tryz.prog 99 #[.string x, .string ⟨#[63]⟩] w fun e w' => e = .returned (.tuple #[.string (cutQ x).1, .bool (cutQ x).2]) ∧ Below w.heap.size w w' := by
  cases hl : x.data.toList with
  | nil =>
    have HE : Hid (cutQ x = (x, false)) := Lib.hid (by rw [cutQ, hl])
    have hs : x.size = 0 := by rw [Lib.size_eq, hl]; rfl
    have hs1 : ¬ (1 : Int) ≤ (x.size : Int) := by omega
    have d : decide ((1 : Int) ≤ (x.size : Int)) = false := decide_eq_false hs1
    clear hl hs
    go_enter Tryz.func99, Tryz.ntmps99
    go_wp2
    go_ret2
    exact ⟨by rw [HE.out]; rfl, Below.refl _ _⟩
  | cons c r =>
    have hs := size_cons hl
    have hs1 : (1 : Int) ≤ (x.size : Int) := by omega
    have d : decide ((1 : Int) ≤ (x.size : Int)) = true := decide_eq_true hs1
    have he := extract_one hl
    have ht := extract_tail hl
    by_cases hc : c = 63
    · have HE : Hid (cutQ x = (⟨r.toArray⟩, true)) := Lib.hid (by rw [cutQ, hl]; simp only [hc, if_pos])
      have d2 : ((⟨#[c]⟩ : ByteArray).toList == (⟨#[63]⟩ : ByteArray).toList) = true := by rw [hc]; exact beq_self_eq_true _
      have d3 : (c == 63) = true := by rw [hc]; rfl
      clear hl hc hs
      go_enter Tryz.func99, Tryz.ntmps99
      go_wp2
      go_ret2
      exact ⟨by rw [HE.out]; rfl, Below.refl _ _⟩
    · have HE : Hid (cutQ x = (x, false)) := Lib.hid (by rw [cutQ, hl]; simp only [if_neg hc])
      have d2 : ((⟨#[c]⟩ : ByteArray).toList == (⟨#[63]⟩ : ByteArray).toList) = false := string_eq_no (fun e => hc (by simpa using congrArg (fun z : ByteArray => z.data.toList) e))
      have d3 : (c == 63) = false := by rw [beq_eq_false_iff_ne]; exact hc
      clear hl hc hs
      go_enter Tryz.func99, Tryz.ntmps99
      go_wp2
      go_ret2
      exact ⟨by rw [HE.out]; rfl, Below.refl _ _⟩

/-- What a token stands for, whatever its number's size. -/
def leafI (x : ByteArray) : Option Tm :=
  if (parseOf x.data.toList).2 = true then some (.mk 3 (parseOf x.data.toList).1 ⟨#[]⟩ []) else if isName x = true then some (.mk 2 0 x []) else
    if (cutQ x).2 = true ∧ (parseOf (cutQ x).1.data.toList).2 = true then some (.mk 1 (parseOf (cutQ x).1.data.toList).1 ⟨#[]⟩ []) else none
theorem leafI_int {x : ByteArray} (h : (parseOf x.data.toList).2 = true) : leafI x = some (.mk 3 (parseOf x.data.toList).1 ⟨#[]⟩ []) := by rw [leafI, if_pos h]
theorem leafI_sym {x : ByteArray} (h : (parseOf x.data.toList).2 = false) (h2 : isName x = true) : leafI x = some (.mk 2 0 x []) := by rw [leafI, if_neg (by rw [h]; simp), if_pos h2]
theorem leafI_var {x : ByteArray} (h : (parseOf x.data.toList).2 = false) (h2 : isName x = false) (h3 : (cutQ x).2 = true) (h4 : (parseOf (cutQ x).1.data.toList).2 = true) : leafI x = some (.mk 1 (parseOf (cutQ x).1.data.toList).1 ⟨#[]⟩ []) := by
  rw [leafI, if_neg (by rw [h]; simp), if_neg (by rw [h2]; simp), if_pos ⟨h3, h4⟩]
theorem leafI_no {x : ByteArray} (h : (parseOf x.data.toList).2 = false) (h2 : isName x = false) (h3 : ¬ ((cutQ x).2 = true ∧ (parseOf (cutQ x).1.data.toList).2 = true)) : leafI x = none := by
  rw [leafI, if_neg (by rw [h]; simp), if_neg (by rw [h2]; simp), if_neg h3]
theorem leafI_args {x : ByteArray} {t : Tm} (h : leafI x = some t) : t.args = [] := by
  unfold leafI at h
  split at h
  · cases h; rfl
  · split at h
    · cases h; rfl
    · split at h
      · cases h; rfl
      · cases h
theorem cutQ_size (x : ByteArray) : (cutQ x).1.size ≤ x.size := by
  unfold cutQ
  split
  · rename_i c r h
    split
    · rw [size_cons h]; show r.toArray.size ≤ _; simp
    · exact Nat.le_refl _
  · exact Nat.le_refl _

/-- What a function answers that reads one token: the term and true, or nothing and false. -/
def Leafed (o : Option Tm) (w : World) (e : Ending) (w' : World) : Prop :=
  ((∃ t, o = some t ∧ e = .returned (.tuple #[.agg #[.int .i64 t.kind, .int .i64 t.num, .string t.name, .slice none 0 0], .bool true])) ∨ (o = none ∧ e = .returned (.tuple #[.agg #[.int .i64 0, .int .i64 0, .string ⟨#[]⟩, .slice none 0 0], .bool false]))) ∧ Below w.heap.size w w'

theorem tabErrs_after {w w' : World} (h : TabErrs w) (hb : Below w.heap.size w w') : TabErrs w' := ⟨h.1.kept hb, h.2.kept hb⟩
set_option maxHeartbeats 2000000 in
set_option maxRecDepth 100000 in
theorem leafOf_any (x : ByteArray) (w : World) (hf : TabErrs w) (hx : x.size ≤ 1048576) :
    Calls Tryz.prog 91 #[.string x] w (Leafed (leafI x) w) := by
  have hal : Below w.heap.size w (w.alloc (.cells #[.int .i64 0, .int .i64 0, .string ⟨#[]⟩, .slice none 0 0] 27)) := belowAlloc (Below.refl _ _) _
  have HR := Lib.hid (at_box w #[.int .i64 0, .int .i64 0, .string ⟨#[]⟩, .slice none 0 0] 27)
  have HW := Lib.hid hal
  have HF := Lib.hid (tabErrs_after hf hal)
  have hxm : x.size ≤ maxLen := by unfold maxLen; omega
  have HI := Lib.hid (@leafI_int x)
  have HS := Lib.hid (@leafI_sym x)
  have HV := Lib.hid (@leafI_var x)
  have HN := Lib.hid (@leafI_no x)
  have HP : Hid (∀ W, TabErrs W → Calls Tryz.prog 98 #[.string x] W (NumPost (parseOf x.data.toList) W)) := Lib.hid fun W h => implParse_any x W h.1 h.2 hx
  have hcs := cutQ_size x
  have HP2 : Hid (∀ W, TabErrs W → Calls Tryz.prog 98 #[.string (cutQ x).1] W (NumPost (parseOf (cutQ x).1.data.toList) W)) := Lib.hid fun W h => implParse_any (cutQ x).1 W h.1 h.2 (by omega)
  have HNM := Lib.hid (fun W => implIsName_any x W hxm)
  have HC := Lib.hid (fun W => cutPrefix_any x W hx)
  generalize leafI x = o at HI HS HV HN ⊢
  generalize parseOf x.data.toList = p1 at HI HS HV HN HP
  obtain ⟨n1, b1⟩ := p1
  generalize parseOf (cutQ x).1.data.toList = p2 at HV HN HP2
  obtain ⟨n2, b2⟩ := p2
  generalize cutQ x = cq at HV HN HP2 HC hcs
  obtain ⟨y, b3⟩ := cq
  clear hf hal
  go_enter Tryz.func91, Tryz.ntmps91
  go_upto_region 1 with (fail)
  generalize hw0 : w.alloc (.cells #[.int .i64 0, .int .i64 0, .string ⟨#[]⟩, .slice none 0 0] 27) = w0 at HR HW HF ⊢
  clear hw0
  go_wp2_with fail
  refine (HP.out w0 HF.out).mono ?_
  rintro e w1 ⟨rfl, hb⟩
  replace HR := Lib.hid (HR.out.read hb)
  replace HW := Lib.hid (belowOn HW.out (Nat.le_refl _) hb)
  replace HF := Lib.hid (tabErrs_after HF.out hb)
  clear hb HP
  cases b1 with
  | true =>
    have HO := Lib.hid (HI.out (by simp))
    have HRE := Lib.hid HR.out.now
    obtain ⟨r0, r1, r2, r3, rf⟩ := box_cells HR.out.now
    have zr := HR.out.le
    go_wp2
    refine bodyPost_four2 (p := 2) (q := 3) (b := w.heap.size) (z := .bool true) rfl rfl rfl rfl Tryz.underlying27 rfl (by kernel_rfl) HRE.out fun w' hw => ?_
    exact ⟨.inl ⟨_, HO.out, rfl⟩, HW.out.trans (hw.below (fun k hk => by omega) HW.out.size)⟩
  | false =>
    go_wp2_with fail
    refine (HNM.out w1).mono ?_
    rintro e w2 ⟨rfl, hb⟩
    replace HR := Lib.hid (HR.out.read hb)
    replace HW := Lib.hid (belowOn HW.out (Nat.le_refl _) hb)
    replace HF := Lib.hid (tabErrs_after HF.out hb)
    clear hb HNM
    cases hnm : isName x with
    | true =>
      have HO := Lib.hid (HS.out (by simp) hnm)
      have HRE := Lib.hid HR.out.now
      obtain ⟨r0, r1, r2, r3, rf⟩ := box_cells HR.out.now
      have zr := HR.out.le
      clear hnm
      go_wp2
      refine bodyPost_four2 (p := 2) (q := 3) (b := w.heap.size) (z := .bool true) rfl rfl rfl rfl Tryz.underlying27 rfl (by kernel_rfl) HRE.out fun w' hw => ?_
      exact ⟨.inl ⟨_, HO.out, rfl⟩, HW.out.trans (hw.below (fun k hk => by omega) HW.out.size)⟩
    | false =>
      have HNAME := Lib.hid hnm
      clear hnm
      go_wp2_with fail
      refine (HC.out w2).mono ?_
      rintro e w3 ⟨rfl, hb⟩
      replace HR := Lib.hid (HR.out.read hb)
      replace HW := Lib.hid (belowOn HW.out (Nat.le_refl _) hb)
      replace HF := Lib.hid (tabErrs_after HF.out hb)
      clear hb HC
      go_wp2_with fail
      refine (HP2.out w3 HF.out).mono ?_
      rintro e w4 ⟨rfl, hb⟩
      replace HR := Lib.hid (HR.out.read hb)
      replace HW := Lib.hid (belowOn HW.out (Nat.le_refl _) hb)
      clear hb HP2 HF
      have HRE := Lib.hid HR.out.now
      obtain ⟨r0, r1, r2, r3, rf⟩ := box_cells HR.out.now
      have zr := HR.out.le
      cases b3 with
      | false =>
        have HO := Lib.hid (HN.out (by simp) HNAME.out (fun h => by cases h.1))
        go_wp2
        refine bodyPost_four2 (p := 2) (q := 3) (b := w.heap.size) (z := .bool false) rfl rfl rfl rfl Tryz.underlying27 rfl (by kernel_rfl) HRE.out fun w' hw => ?_
        exact ⟨.inr ⟨HO.out, rfl⟩, HW.out.trans (hw.below (fun k hk => by omega) HW.out.size)⟩
      | true =>
        cases b2 with
        | false =>
          have HO := Lib.hid (HN.out (by simp) HNAME.out (fun h => by cases h.2))
          go_wp2
          refine bodyPost_four2 (p := 2) (q := 3) (b := w.heap.size) (z := .bool false) rfl rfl rfl rfl Tryz.underlying27 rfl (by kernel_rfl) HRE.out fun w' hw => ?_
          exact ⟨.inr ⟨HO.out, rfl⟩, HW.out.trans (hw.below (fun k hk => by omega) HW.out.size)⟩
        | true =>
          have HO := Lib.hid (HV.out (by simp) HNAME.out (by simp) (by simp))
          go_wp2
          refine bodyPost_four2 (p := 2) (q := 3) (b := w.heap.size) (z := .bool true) rfl rfl rfl rfl Tryz.underlying27 rfl (by kernel_rfl) HRE.out fun w' hw => ?_
          exact ⟨.inl ⟨_, HO.out, rfl⟩, HW.out.trans (hw.below (fun k hk => by omega) HW.out.size)⟩
end Go.Proofs.YtnbnepeikdieaaaGreatDoor

namespace Go.Proofs.YtnbnepeikdieaaaGreatDoor
open Go.RowKit
set_option linter.unusedVariables false
set_option linter.unusedSimpArgs false

theorem read_gt (L : ByteArray → Option Tm) (T : List ByteArray) (k : Nat) : (∀ i t j, anyP L k T i = some (t, j) → i < j) ∧ (∀ i t j, elemP L k T i = some (t, j) → i < j) ∧ (∀ i t j, restP L k T i = some (t, j) → i < j) := by
  induction k with
  | zero => exact ⟨fun i t j h => (by rw [anyP] at h; cases h), fun i t j h => (by rw [elemP] at h; cases h), fun i t j h => (by rw [restP] at h; cases h)⟩
  | succ k ih =>
    obtain ⟨ia, ie, ir⟩ := ih
    refine ⟨fun i t j h => ?_, fun i t j h => ?_, fun i t j h => ?_⟩
    · rw [anyP] at h
      split at h
      · split at h
        · cases h; omega
        · have := ie _ _ _ h; omega
      · split at h
        · cases h
        · split at h
          · cases h
          · cases h; omega
    · rw [elemP] at h
      split at h
      · cases h
      · rename_i x j1 h1
        split at h
        · cases h
        · rename_i y j2 h2
          cases h
          have := ia _ _ _ h1
          have := ir _ _ _ h2
          omega
    · rw [restP] at h
      split at h
      · cases h; omega
      · split at h
        · split at h
          · cases h
          · rename_i y j1 h1
            split at h
            · cases h
              have := ia _ _ _ h1
              omega
            · cases h
        · exact ie _ _ _ h
theorem leafI_empty : leafI ⟨#[]⟩ = none := by
  refine leafI_no ?_ (by decide) ?_
  · rw [parse_no]
    intro v _ e
    have : (Lib.itoa v).length = 0 := by rw [e]; rfl
    by_cases hn : v < 0
    · obtain ⟨m, rfl⟩ : ∃ m : Nat, v = -(m : Int) := ⟨v.natAbs, by omega⟩
      rw [Lib.itoa_neg m (by omega)] at this
      simp at this
    · obtain ⟨m, rfl⟩ : ∃ m : Nat, v = (m : Int) := ⟨v.toNat, by omega⟩
      obtain ⟨c, r, h, _, _⟩ := dec_cons m
      rw [Lib.itoa_nonneg, h] at this
      simp at this
  · intro h
    exact absurd h.1 (by decide)

/-- What the reader answers. -/
def Read (w0 : World) (p : Nat) (sa : Option Addr) (cap : Nat) (T : List ByteArray) (o : Option (Tm × Nat)) (w : World) (e : Ending) (w' : World) : Prop :=
  ((∃ (t : Tm) (j : Nat) (x : Option Addr) (c : Nat), o = some (t, j) ∧ e = .returned (.tuple #[.agg #[.int .i64 t.kind, .int .i64 t.num, .string t.name, .slice x t.args.length c], .bool true]) ∧ Own w' 27 (iv w.heap.size w'.heap.size) (.slice x t.args.length c) t.args ∧ Rd w0 p sa cap T j w') ∨
    (o = none ∧ e = .returned (.tuple #[.agg #[.int .i64 0, .int .i64 0, .string ⟨#[]⟩, .slice none 0 0], .bool false]) ∧ ∃ j, Rd w0 p sa cap T j w')) ∧ Only (iv p (p + 1)) w w'
theorem read_yes {P : Program} {fn : Func} {w0 w W : World} {pr : Nat} {sa : Option Addr} {cap : Nat} {T : List ByteArray} {t : Tm} {j : Nat} {x : Option Addr} {c lo : Nat} {a : Act} {b : Nat} {x0 x1 x2 x3 : Value} {fs : Array Field} {k i : Int} {s : ByteArray} {m : Nat} {o : Option (Tm × Nat)}
    (heq : o = some (t, j)) (h1 : t.kind = k) (h2 : t.num = i) (h3 : t.name = s) (h4 : t.args.length = m) (h : fn.results = #[.cell 2 27, .tmp 3]) (hp : a.tmps.getD 2 undef = .pointer (some ⟨b, 0, none⟩)) (hq : a.tmps.getD 3 undef = .bool true) (hd : a.defers = [])
    (hu : P.underlying 27 = some (.struct fs)) (hi : (P.info? 27).map (·.size) = some 4) (hb : W.heap[b]? = some (Obj.cells #[x0, x1, x2, x3] 27))
    (hlo : w.heap.size ≤ b) (hbl : b < lo) (hne : ¬ b = pr) (hw : w0.heap.size ≤ w.heap.size) (hr : Rd w0 pr sa cap T j W) (ho : Only (iv pr (pr + 1)) w W) (hO : Own W 27 (iv lo W.heap.size) (.slice x m c) t.args) :
    bodyPost P fn (Read w0 pr sa cap T o w) .ret a ((((W.setCell ⟨b, 0, none⟩ (.int .i64 k)).setCell ⟨b, 1, none⟩ (.int .i64 i)).setCell ⟨b, 2, none⟩ (.string s)).setCell ⟨b, 3, none⟩ (.slice x m c)) := by
  subst heq
  subst h1
  subst h2
  subst h3
  subst h4
  refine bodyPost_four2 h hp hq hd hu rfl hi hb fun w' hw' => ?_
  have hw2 : Only (iv b (b + 1)) W w' := hw'.sub fun k hk => by subst hk; exact ⟨Nat.le_refl _, Nat.lt_succ_self _⟩
  have hs := hw'.size
  refine ⟨.inl ⟨t, j, x, c, rfl, rfl, (hO.frame fun k hk hks => hw'.block k hks fun e => by have := hk.1; omega).sub fun k hk => ⟨by have := hk.1; omega, by have := hk.2; omega⟩, hr.only hw2 (by omega) hne⟩, ?_⟩
  exact ⟨hw2.os.trans ho.os, hw2.tape.trans ho.tape, hw2.output.trans ho.output, Nat.le_trans ho.size hw2.size, fun k hk hn => (hw2.block k (Nat.lt_of_lt_of_le hk ho.size) fun x => by have := x.1; omega).trans (ho.block k hk hn)⟩
theorem read_no {P : Program} {fn : Func} {w0 w W : World} {pr : Nat} {sa : Option Addr} {cap : Nat} {T : List ByteArray} {j : Nat} {a : Act} {b : Nat} {x0 x1 x2 x3 : Value} {fs : Array Field} {o : Option (Tm × Nat)}
    (heq : o = none) (h : fn.results = #[.cell 2 27, .tmp 3]) (hp : a.tmps.getD 2 undef = .pointer (some ⟨b, 0, none⟩)) (hq : a.tmps.getD 3 undef = .bool false) (hd : a.defers = [])
    (hu : P.underlying 27 = some (.struct fs)) (hi : (P.info? 27).map (·.size) = some 4) (hb : W.heap[b]? = some (Obj.cells #[x0, x1, x2, x3] 27))
    (hlo : w.heap.size ≤ b) (hne : ¬ b = pr) (hw : w0.heap.size ≤ w.heap.size) (hr : Rd w0 pr sa cap T j W) (ho : Only (iv pr (pr + 1)) w W) :
    bodyPost P fn (Read w0 pr sa cap T o w) .ret a ((((W.setCell ⟨b, 0, none⟩ (.int .i64 0)).setCell ⟨b, 1, none⟩ (.int .i64 0)).setCell ⟨b, 2, none⟩ (.string ⟨#[]⟩)).setCell ⟨b, 3, none⟩ (.slice none 0 0)) := by
  subst heq
  refine bodyPost_four2 h hp hq hd hu rfl hi hb fun w' hw' => ?_
  have hw2 : Only (iv b (b + 1)) W w' := hw'.sub fun k hk => by subst hk; exact ⟨Nat.le_refl _, Nat.lt_succ_self _⟩
  refine ⟨.inr ⟨rfl, rfl, j, hr.only hw2 (by omega) hne⟩, ?_⟩
  exact ⟨hw2.os.trans ho.os, hw2.tape.trans ho.tape, hw2.output.trans ho.output, Nat.le_trans ho.size hw2.size, fun k hk hn => (hw2.block k (Nat.lt_of_lt_of_le hk ho.size) fun x => by have := x.1; omega).trans (ho.block k hk hn)⟩
theorem only_then {S : Nat → Prop} {w w1 w2 : World} (h : Only S w w1) (hb : Below w1.heap.size w1 w2) : Only S w w2 := h.trans (Only.of_below hb)

set_option maxHeartbeats 4000000 in
set_option maxRecDepth 100000 in
theorem anyStep (w0 : World) (hf : TabErrs w0) (p : Nat) (sa : Option Addr) (cap : Nat) (T : List ByteArray) (hT : ∀ x ∈ T, x.size ≤ 1048576) (k : Nat)
    (IA : Hid (∀ (i : Nat) (w : World), 3 * (T.length - i) + 1 ≤ k → Rd w0 p sa cap T i w → Calls Tryz.prog 79 #[.pointer (some ⟨p, 0, none⟩)] w (Read w0 p sa cap T (anyP leafI k T i) w))) (IE : Hid (∀ (i : Nat) (w : World), 3 * (T.length - i) + 2 ≤ k → Rd w0 p sa cap T i w → Calls Tryz.prog 93 #[.pointer (some ⟨p, 0, none⟩)] w (Read w0 p sa cap T (elemP leafI k T i) w))) (IR : Hid (∀ (i : Nat) (w : World), 3 * (T.length - i) + 3 ≤ k → Rd w0 p sa cap T i w → Calls Tryz.prog 100 #[.pointer (some ⟨p, 0, none⟩)] w (Read w0 p sa cap T (restP leafI k T i) w))) :
    ∀ (i : Nat) (w : World), 3 * (T.length - i) + 1 ≤ k + 1 → Rd w0 p sa cap T i w → Calls Tryz.prog 79 #[.pointer (some ⟨p, 0, none⟩)] w (Read w0 p sa cap T (anyP leafI (k + 1) T i) w) := by
  intro i w hk hrd
  have HTF := Lib.hid hf
  have HT := Lib.hid hT
  have hwl := hrd.old.size
  have hil := hrd.le
  clear hf hT
  generalize hoe : anyP leafI (k + 1) T i = o
  have HEQ := Lib.hid hoe
  clear hoe
  have hal : Below w.heap.size w (w.alloc (.cells #[.int .i64 0, .int .i64 0, .string ⟨#[]⟩, .slice none 0 0] 27)) := belowAlloc (Below.refl _ _) _
  have HB := Lib.hid (at_box w #[.int .i64 0, .int .i64 0, .string ⟨#[]⟩, .slice none 0 0] 27)
  have HR := Lib.hid (hrd.below hal)
  have HO := Lib.hid (Only.of_below (S := iv p (p + 1)) hal)
  have hp := hrd.hi
  have hlo := hrd.lo
  have hsz : (w.alloc (.cells #[.int .i64 0, .int .i64 0, .string ⟨#[]⟩, .slice none 0 0] 27)).heap.size = w.heap.size + 1 := by simp
  clear hal hrd
  go_enter Tryz.func79, Tryz.ntmps79
  go_upto_region 1 with (fail)
  generalize hw0 : w.alloc (.cells #[.int .i64 0, .int .i64 0, .string ⟨#[]⟩, .slice none 0 0] 27) = w1 at HB HR HO hsz ⊢
  clear hw0
  have HC := Lib.hid (took_any tokL w0 p sa cap T i w1 HR.out)
  unfold tokL at HC
  go_wp2_with fail
  refine HC.out.mono ?_
  rintro e w2 (⟨hy, rfl, hr, ho⟩ | ⟨hy, rfl, hr, ho⟩)
  · replace HB := Lib.hid (HB.out.only ho (by omega))
    have hsn := ho.size
    replace HO := Lib.hid (HO.out.trans ho)
    clear HC ho
    replace HR := Lib.hid hr
    clear hr
    have HY := Lib.hid hy
    have hlt := at_lt hy
    clear hy
    have HC := Lib.hid (took_any tokR w0 p sa cap T (i + 1) w2 HR.out)
    unfold tokR at HC
    go_wp2_with fail
    refine HC.out.mono ?_
    rintro e w3 (⟨hy, rfl, hr, ho⟩ | ⟨hy, rfl, hr, ho⟩)
    · replace HB := Lib.hid (HB.out.only ho (by omega))
      have hsn := ho.size
      replace HO := Lib.hid (HO.out.trans ho)
      clear HC ho
      replace HR := Lib.hid hr
      clear hr
      have HQ := Lib.hid (HEQ.out.symm.trans (any_open HY.out hy))
      clear hy
      have HRE := Lib.hid HB.out.now
      obtain ⟨r0, r1, r2, r3, rf⟩ := box_cells HB.out.now
      have zr := HB.out.le
      go_wp2
      exact read_yes (t := zeroTm) (lo := w3.heap.size) (b := w.heap.size) HQ.out rfl rfl rfl rfl rfl rfl rfl rfl Tryz.underlying27 (by kernel_rfl) HRE.out (Nat.le_refl _) (by omega) (by omega) (by omega) HR.out HO.out (.nil _)
    · replace HB := Lib.hid (HB.out.only ho (by omega))
      have hsn := ho.size
      replace HO := Lib.hid (HO.out.trans ho)
      clear HC ho
      replace HR := Lib.hid hr
      clear hr
      have HEL := Lib.hid (HEQ.out.symm.trans (any_elem HY.out hy))
      clear hy
      have HC := Lib.hid (IE.out (i + 1) w3 (by omega) HR.out)
      go_wp2_with fail
      refine HC.out.mono ?_
      rintro e w4 ⟨⟨t, j, x, c, he, rfl, hown, hr⟩ | ⟨he, rfl, j, hr⟩, ho⟩
      · have HQ := Lib.hid (HEL.out.trans he)
        replace HB := Lib.hid (HB.out.only ho (by omega))
        have hsn := ho.size
        replace HO := Lib.hid (HO.out.trans ho)
        clear HC ho he
        replace HR := Lib.hid hr
        clear hr
        have HOWN := Lib.hid hown
        clear hown
        have HRE := Lib.hid HB.out.now
        obtain ⟨r0, r1, r2, r3, rf⟩ := box_cells HB.out.now
        have zr := HB.out.le
        go_wp2
        exact read_yes (t := t) (lo := w3.heap.size) (b := w.heap.size) HQ.out rfl rfl rfl rfl rfl rfl rfl rfl Tryz.underlying27 (by kernel_rfl) HRE.out (Nat.le_refl _) (by omega) (by omega) (by omega) HR.out HO.out HOWN.out
      · have HQ := Lib.hid (HEL.out.trans he)
        replace HB := Lib.hid (HB.out.only ho (by omega))
        have hsn := ho.size
        replace HO := Lib.hid (HO.out.trans ho)
        clear HC ho he
        replace HR := Lib.hid hr
        clear hr
        have HRE := Lib.hid HB.out.now
        obtain ⟨r0, r1, r2, r3, rf⟩ := box_cells HB.out.now
        have zr := HB.out.le
        go_wp2
        exact read_no HQ.out (b := w.heap.size) rfl rfl rfl rfl Tryz.underlying27 (by kernel_rfl) HRE.out (Nat.le_refl _) (by omega) (by omega) HR.out HO.out
  · replace HB := Lib.hid (HB.out.only ho (by omega))
    have hsn := ho.size
    replace HO := Lib.hid (HO.out.trans ho)
    clear HC ho
    replace HR := Lib.hid hr
    clear hr
    have HY := Lib.hid hy
    clear hy
    have HC := Lib.hid (next_any w0 p sa cap T i w2 HR.out)
    go_wp2_with fail
    refine HC.out.mono ?_
    rintro e w3 (⟨x, hx, rfl, hr, ho⟩ | ⟨hx, rfl, hr, ho⟩)
    · replace HB := Lib.hid (HB.out.only ho (by omega))
      have hsn := ho.size
      replace HO := Lib.hid (HO.out.trans ho)
      clear HC ho
      replace HR := Lib.hid hr
      clear hr
      have HX := Lib.hid hx
      clear hx
      have HC := Lib.hid (leafOf_any x w3 (tabErrs_after HTF.out HR.out.old) (HT.out x (List.mem_of_getElem? HX.out)))
      go_wp2_with fail
      refine HC.out.mono ?_
      rintro e w4 ⟨⟨t, ht, rfl⟩ | ⟨ht, rfl⟩, hb⟩
      · have hargs := leafI_args ht
        have HQ := Lib.hid (HEQ.out.symm.trans (any_leaf HX.out (fun e => HY.out (by rw [HX.out, e]; rfl)) ht))
        replace HB := Lib.hid (HB.out.read hb)
        replace HO := Lib.hid (only_then HO.out hb)
        replace HR := Lib.hid (HR.out.below hb)
        have hsm := hb.size
        have HAR := Lib.hid hargs
        clear hb HC ht hargs
        have HRE := Lib.hid HB.out.now
        obtain ⟨r0, r1, r2, r3, rf⟩ := box_cells HB.out.now
        have zr := HB.out.le
        go_wp2
        exact read_yes (t := t) (lo := w4.heap.size) (b := w.heap.size) HQ.out rfl rfl rfl (by rw [HAR.out]; rfl) rfl rfl rfl rfl Tryz.underlying27 (by kernel_rfl) HRE.out (Nat.le_refl _) (by omega) (by omega) (by omega) HR.out HO.out (by rw [HAR.out]; exact .nil _)
      · have HQ := Lib.hid (HEQ.out.symm.trans (any_no HX.out (fun e => HY.out (by rw [HX.out, e]; rfl)) ht))
        replace HB := Lib.hid (HB.out.read hb)
        replace HO := Lib.hid (only_then HO.out hb)
        replace HR := Lib.hid (HR.out.below hb)
        have hsm := hb.size
        clear hb HC ht
        have HRE := Lib.hid HB.out.now
        obtain ⟨r0, r1, r2, r3, rf⟩ := box_cells HB.out.now
        have zr := HB.out.le
        go_wp2
        exact read_no HQ.out (b := w.heap.size) rfl rfl rfl rfl Tryz.underlying27 (by kernel_rfl) HRE.out (Nat.le_refl _) (by omega) (by omega) HR.out HO.out
    · replace HB := Lib.hid (HB.out.only ho (by omega))
      have hsn := ho.size
      replace HO := Lib.hid (HO.out.trans ho)
      clear HC ho
      replace HR := Lib.hid hr
      clear hr
      have HQ := Lib.hid (HEQ.out.symm.trans (any_end hx))
      clear hx
      have HC := Lib.hid (leafOf_any ⟨#[]⟩ w3 (tabErrs_after HTF.out HR.out.old) (by decide))
      rw [leafI_empty] at HC
      go_wp2_with fail
      refine HC.out.mono ?_
      rintro e w4 ⟨⟨t, ht, rfl⟩ | ⟨ht, rfl⟩, hb⟩
      · cases ht
      · replace HB := Lib.hid (HB.out.read hb)
        replace HO := Lib.hid (only_then HO.out hb)
        replace HR := Lib.hid (HR.out.below hb)
        have hsm := hb.size
        clear hb HC ht
        have HRE := Lib.hid HB.out.now
        obtain ⟨r0, r1, r2, r3, rf⟩ := box_cells HB.out.now
        have zr := HB.out.le
        go_wp2
        exact read_no HQ.out (b := w.heap.size) rfl rfl rfl rfl Tryz.underlying27 (by kernel_rfl) HRE.out (Nat.le_refl _) (by omega) (by omega) HR.out HO.out

set_option maxHeartbeats 4000000 in
set_option maxRecDepth 100000 in
theorem elemStep (w0 : World) (hf : TabErrs w0) (p : Nat) (sa : Option Addr) (cap : Nat) (T : List ByteArray) (hT : ∀ x ∈ T, x.size ≤ 1048576) (k : Nat)
    (IA : Hid (∀ (i : Nat) (w : World), 3 * (T.length - i) + 1 ≤ k → Rd w0 p sa cap T i w → Calls Tryz.prog 79 #[.pointer (some ⟨p, 0, none⟩)] w (Read w0 p sa cap T (anyP leafI k T i) w))) (IE : Hid (∀ (i : Nat) (w : World), 3 * (T.length - i) + 2 ≤ k → Rd w0 p sa cap T i w → Calls Tryz.prog 93 #[.pointer (some ⟨p, 0, none⟩)] w (Read w0 p sa cap T (elemP leafI k T i) w))) (IR : Hid (∀ (i : Nat) (w : World), 3 * (T.length - i) + 3 ≤ k → Rd w0 p sa cap T i w → Calls Tryz.prog 100 #[.pointer (some ⟨p, 0, none⟩)] w (Read w0 p sa cap T (restP leafI k T i) w))) :
    ∀ (i : Nat) (w : World), 3 * (T.length - i) + 2 ≤ k + 1 → Rd w0 p sa cap T i w → Calls Tryz.prog 93 #[.pointer (some ⟨p, 0, none⟩)] w (Read w0 p sa cap T (elemP leafI (k + 1) T i) w) := by
  intro i w hk hrd
  have HTF := Lib.hid hf
  have HT := Lib.hid hT
  have hwl := hrd.old.size
  have hil := hrd.le
  clear hf hT
  generalize hoe : elemP leafI (k + 1) T i = o
  have HEQ := Lib.hid hoe
  clear hoe
  have hal : Below w.heap.size w (w.alloc (.cells #[.int .i64 0, .int .i64 0, .string ⟨#[]⟩, .slice none 0 0] 27)) := belowAlloc (Below.refl _ _) _
  have HB := Lib.hid (at_box w #[.int .i64 0, .int .i64 0, .string ⟨#[]⟩, .slice none 0 0] 27)
  have HR := Lib.hid (hrd.below hal)
  have HO := Lib.hid (Only.of_below (S := iv p (p + 1)) hal)
  have hp := hrd.hi
  have hlo := hrd.lo
  have hsz : (w.alloc (.cells #[.int .i64 0, .int .i64 0, .string ⟨#[]⟩, .slice none 0 0] 27)).heap.size = w.heap.size + 1 := by simp
  clear hal hrd
  go_enter Tryz.func93, Tryz.ntmps93
  go_upto_region 1 with (fail)
  generalize hw0 : w.alloc (.cells #[.int .i64 0, .int .i64 0, .string ⟨#[]⟩, .slice none 0 0] 27) = w1 at HB HR HO hsz ⊢
  clear hw0
  have HC := Lib.hid (IA.out i w1 (by omega) HR.out)
  go_wp2_with fail
  refine HC.out.mono ?_
  rintro e w2 ⟨⟨x, j, xa, xc, he, rfl, hown, hr⟩ | ⟨he, rfl, j, hr⟩, ho⟩
  · replace HB := Lib.hid (HB.out.only ho (by omega))
    have hsn := ho.size
    replace HO := Lib.hid (HO.out.trans ho)
    clear HC ho
    replace HR := Lib.hid hr
    clear hr
    have HE1 := Lib.hid he
    have hgt := (read_gt leafI T k).1 _ _ _ he
    clear he
    have HOX := Lib.hid hown
    clear hown
    have hjl := HR.out.le
    go_upto_region 2 with (fail)
    have hal : Below w2.heap.size w2 (w2.alloc (.cells #[.int .i64 x.kind, .int .i64 x.num, .string x.name, .slice xa x.args.length xc] 27)) := belowAlloc (Below.refl _ _) _
    replace HB := Lib.hid (HB.out.read hal)
    replace HO := Lib.hid (only_then HO.out hal)
    replace HR := Lib.hid (HR.out.below hal)
    have HBX := Lib.hid (at_box w2 #[.int .i64 x.kind, .int .i64 x.num, .string x.name, .slice xa x.args.length xc] 27)
    have hsw2x : (w2.alloc (.cells #[.int .i64 x.kind, .int .i64 x.num, .string x.name, .slice xa x.args.length xc] 27)).heap.size = w2.heap.size + 1 := by simp
    replace HOX := Lib.hid (HOX.out.kept hal)
    clear hal
    generalize hwx : w2.alloc (.cells #[.int .i64 x.kind, .int .i64 x.num, .string x.name, .slice xa x.args.length xc] 27) = w2x at HB HBX HOX HO HR hsw2x ⊢
    clear hwx
    have HC := Lib.hid (IR.out j w2x (by omega) HR.out)
    go_wp2_with fail
    refine HC.out.mono ?_
    rintro e w3 ⟨⟨y, m, ya, yc, he, rfl, hown, hr⟩ | ⟨he, rfl, m, hr⟩, ho⟩
    · have HQ := Lib.hid (HEQ.out.symm.trans (elem_yes HE1.out he))
      replace HBX := Lib.hid (HBX.out.only ho (by omega))
      replace HOX := Lib.hid (HOX.out.frame fun k hk hks => ho.block k hks fun hh => by have h1 := hh.1; have h2 := hh.2; have h3 := hk.1; omega)
      replace HB := Lib.hid (HB.out.only ho (by omega))
      have hsn := ho.size
      replace HO := Lib.hid (HO.out.trans ho)
      clear HC ho he
      replace HR := Lib.hid hr
      clear hr
      have HOY := Lib.hid hown
      clear hown
      go_upto_region 5 with (fail)
      have hal : Below w3.heap.size w3 (w3.alloc (.cells #[.int .i64 y.kind, .int .i64 y.num, .string y.name, .slice ya y.args.length yc] 27)) := belowAlloc (Below.refl _ _) _
      replace HB := Lib.hid (HB.out.read hal)
      replace HBX := Lib.hid (HBX.out.read hal)
      replace HO := Lib.hid (only_then HO.out hal)
      replace HR := Lib.hid (HR.out.below hal)
      have HBY := Lib.hid (at_box w3 #[.int .i64 y.kind, .int .i64 y.num, .string y.name, .slice ya y.args.length yc] 27)
      have hsw3x : (w3.alloc (.cells #[.int .i64 y.kind, .int .i64 y.num, .string y.name, .slice ya y.args.length yc] 27)).heap.size = w3.heap.size + 1 := by simp
      replace HOX := Lib.hid (HOX.out.kept hal)
      replace HOY := Lib.hid (HOY.out.kept hal)
      clear hal
      generalize hwx : w3.alloc (.cells #[.int .i64 y.kind, .int .i64 y.num, .string y.name, .slice ya y.args.length yc] 27) = w3x at HB HBX HBY HOX HOY HO HR hsw3x ⊢
      clear hwx
      obtain ⟨p0, p1, p2, p3⟩ := HBX.out.cells
      have zx := HBX.out.le
      obtain ⟨q0, q1, q2, q3⟩ := HBY.out.cells
      have zy := HBY.out.le
      go_wp2_with fail
      refine (pairOf_any _ _ _ _ _ _ _ _ _ _ _ _ _).mono ?_
      rintro e w4 ⟨g, rfl, hg1, hg2, hgh, hb⟩
      replace HB := Lib.hid (HB.out.read hb)
      replace HO := Lib.hid (only_then HO.out hb)
      replace HR := Lib.hid (HR.out.below hb)
      have HOP : Hid (Own w4 27 (iv (w.heap.size + 1) w4.heap.size) (.slice (some ⟨g, 0, none⟩) 2 2) [x, y]) := Lib.hid (own_pair hgh ⟨by omega, hg2⟩ (HOX.out.kept hb) (HOY.out.kept hb) (fun k hk => ⟨⟨by have := hk.1; omega, by have := hk.2; omega⟩, by have := hk.2; omega⟩) (fun k hk => ⟨⟨by have := hk.1; omega, by have := hk.2; omega⟩, by have := hk.2; omega⟩) (fun k hk hk2 => by have h1 := hk.2; have h2 := hk2.1; omega))
      have hsm := hb.size
      clear hb hgh p0 p1 p2 p3 zx q0 q1 q2 q3 zy
      have HRE := Lib.hid HB.out.now
      obtain ⟨r0, r1, r2, r3, rf⟩ := box_cells HB.out.now
      have zr := HB.out.le
      go_wp2
      exact read_yes (t := pairT x y) (lo := (w.heap.size + 1)) (b := w.heap.size) HQ.out rfl rfl rfl rfl rfl rfl rfl rfl Tryz.underlying27 (by kernel_rfl) HRE.out (Nat.le_refl _) (by omega) (by omega) (by omega) HR.out HO.out HOP.out
    · have HQ := Lib.hid (HEQ.out.symm.trans (elem_no2 HE1.out he))
      replace HB := Lib.hid (HB.out.only ho (by omega))
      have hsn := ho.size
      replace HO := Lib.hid (HO.out.trans ho)
      clear HC ho he HBX HOX
      replace HR := Lib.hid hr
      clear hr
      go_upto_region 5 with (fail)
      have hal : Below w3.heap.size w3 (w3.alloc (.cells #[.int .i64 0, .int .i64 0, .string ⟨#[]⟩, .slice none 0 0] 27)) := belowAlloc (Below.refl _ _) _
      replace HB := Lib.hid (HB.out.read hal)
      replace HO := Lib.hid (only_then HO.out hal)
      replace HR := Lib.hid (HR.out.below hal)
      have HBY := Lib.hid (at_box w3 #[.int .i64 0, .int .i64 0, .string ⟨#[]⟩, .slice none 0 0] 27)
      have hsw3x : (w3.alloc (.cells #[.int .i64 0, .int .i64 0, .string ⟨#[]⟩, .slice none 0 0] 27)).heap.size = w3.heap.size + 1 := by simp
      clear hal
      generalize hwx : w3.alloc (.cells #[.int .i64 0, .int .i64 0, .string ⟨#[]⟩, .slice none 0 0] 27) = w3x at HB HBY HO HR hsw3x ⊢
      clear hwx
      have HRE := Lib.hid HB.out.now
      obtain ⟨r0, r1, r2, r3, rf⟩ := box_cells HB.out.now
      have zr := HB.out.le
      go_wp2
      exact read_no HQ.out (b := w.heap.size) rfl rfl rfl rfl Tryz.underlying27 (by kernel_rfl) HRE.out (Nat.le_refl _) (by omega) (by omega) HR.out HO.out
  · have HQ := Lib.hid (HEQ.out.symm.trans (elem_no1 he))
    replace HB := Lib.hid (HB.out.only ho (by omega))
    have hsn := ho.size
    replace HO := Lib.hid (HO.out.trans ho)
    clear HC ho he
    replace HR := Lib.hid hr
    clear hr
    go_upto_region 2 with (fail)
    have hal : Below w2.heap.size w2 (w2.alloc (.cells #[.int .i64 0, .int .i64 0, .string ⟨#[]⟩, .slice none 0 0] 27)) := belowAlloc (Below.refl _ _) _
    replace HB := Lib.hid (HB.out.read hal)
    replace HO := Lib.hid (only_then HO.out hal)
    replace HR := Lib.hid (HR.out.below hal)
    have HBX := Lib.hid (at_box w2 #[.int .i64 0, .int .i64 0, .string ⟨#[]⟩, .slice none 0 0] 27)
    have hsw2x : (w2.alloc (.cells #[.int .i64 0, .int .i64 0, .string ⟨#[]⟩, .slice none 0 0] 27)).heap.size = w2.heap.size + 1 := by simp
    clear hal
    generalize hwx : w2.alloc (.cells #[.int .i64 0, .int .i64 0, .string ⟨#[]⟩, .slice none 0 0] 27) = w2x at HB HBX HO HR hsw2x ⊢
    clear hwx
    have HRE := Lib.hid HB.out.now
    obtain ⟨r0, r1, r2, r3, rf⟩ := box_cells HB.out.now
    have zr := HB.out.le
    go_wp2
    exact read_no HQ.out (b := w.heap.size) rfl rfl rfl rfl Tryz.underlying27 (by kernel_rfl) HRE.out (Nat.le_refl _) (by omega) (by omega) HR.out HO.out

set_option maxHeartbeats 4000000 in
set_option maxRecDepth 100000 in
theorem restStep (w0 : World) (hf : TabErrs w0) (p : Nat) (sa : Option Addr) (cap : Nat) (T : List ByteArray) (hT : ∀ x ∈ T, x.size ≤ 1048576) (k : Nat)
    (IA : Hid (∀ (i : Nat) (w : World), 3 * (T.length - i) + 1 ≤ k → Rd w0 p sa cap T i w → Calls Tryz.prog 79 #[.pointer (some ⟨p, 0, none⟩)] w (Read w0 p sa cap T (anyP leafI k T i) w))) (IE : Hid (∀ (i : Nat) (w : World), 3 * (T.length - i) + 2 ≤ k → Rd w0 p sa cap T i w → Calls Tryz.prog 93 #[.pointer (some ⟨p, 0, none⟩)] w (Read w0 p sa cap T (elemP leafI k T i) w))) (IR : Hid (∀ (i : Nat) (w : World), 3 * (T.length - i) + 3 ≤ k → Rd w0 p sa cap T i w → Calls Tryz.prog 100 #[.pointer (some ⟨p, 0, none⟩)] w (Read w0 p sa cap T (restP leafI k T i) w))) :
    ∀ (i : Nat) (w : World), 3 * (T.length - i) + 3 ≤ k + 1 → Rd w0 p sa cap T i w → Calls Tryz.prog 100 #[.pointer (some ⟨p, 0, none⟩)] w (Read w0 p sa cap T (restP leafI (k + 1) T i) w) := by
  intro i w hk hrd
  have HTF := Lib.hid hf
  have HT := Lib.hid hT
  have hwl := hrd.old.size
  have hil := hrd.le
  clear hf hT
  generalize hoe : restP leafI (k + 1) T i = o
  have HEQ := Lib.hid hoe
  clear hoe
  have hal : Below w.heap.size w (w.alloc (.cells #[.int .i64 0, .int .i64 0, .string ⟨#[]⟩, .slice none 0 0] 27)) := belowAlloc (Below.refl _ _) _
  have HB := Lib.hid (at_box w #[.int .i64 0, .int .i64 0, .string ⟨#[]⟩, .slice none 0 0] 27)
  have HR := Lib.hid (hrd.below hal)
  have HO := Lib.hid (Only.of_below (S := iv p (p + 1)) hal)
  have hp := hrd.hi
  have hlo := hrd.lo
  have hsz : (w.alloc (.cells #[.int .i64 0, .int .i64 0, .string ⟨#[]⟩, .slice none 0 0] 27)).heap.size = w.heap.size + 1 := by simp
  clear hal hrd
  go_enter Tryz.func100, Tryz.ntmps100
  go_upto_region 1 with (fail)
  generalize hw0 : w.alloc (.cells #[.int .i64 0, .int .i64 0, .string ⟨#[]⟩, .slice none 0 0] 27) = w1 at HB HR HO hsz ⊢
  clear hw0
  have HC := Lib.hid (took_any tokR w0 p sa cap T i w1 HR.out)
  unfold tokR at HC
  go_wp2_with fail
  refine HC.out.mono ?_
  rintro e w2 (⟨hy, rfl, hr, ho⟩ | ⟨hy, rfl, hr, ho⟩)
  · replace HB := Lib.hid (HB.out.only ho (by omega))
    have hsn := ho.size
    replace HO := Lib.hid (HO.out.trans ho)
    clear HC ho
    replace HR := Lib.hid hr
    clear hr
    have HQ := Lib.hid (HEQ.out.symm.trans (rest_close hy))
    clear hy
    have HRE := Lib.hid HB.out.now
    obtain ⟨r0, r1, r2, r3, rf⟩ := box_cells HB.out.now
    have zr := HB.out.le
    go_wp2
    exact read_yes (t := zeroTm) (lo := w2.heap.size) (b := w.heap.size) HQ.out rfl rfl rfl rfl rfl rfl rfl rfl Tryz.underlying27 (by kernel_rfl) HRE.out (Nat.le_refl _) (by omega) (by omega) (by omega) HR.out HO.out (.nil _)
  · replace HB := Lib.hid (HB.out.only ho (by omega))
    have hsn := ho.size
    replace HO := Lib.hid (HO.out.trans ho)
    clear HC ho
    replace HR := Lib.hid hr
    clear hr
    have HY := Lib.hid hy
    clear hy
    have HC := Lib.hid (took_any tokD w0 p sa cap T i w2 HR.out)
    unfold tokD at HC
    go_wp2_with fail
    refine HC.out.mono ?_
    rintro e w3 (⟨hy, rfl, hr, ho⟩ | ⟨hy, rfl, hr, ho⟩)
    · replace HB := Lib.hid (HB.out.only ho (by omega))
      have hsn := ho.size
      replace HO := Lib.hid (HO.out.trans ho)
      clear HC ho
      replace HR := Lib.hid hr
      clear hr
      have HY2 := Lib.hid hy
      have hlt := at_lt hy
      clear hy
      have HC := Lib.hid (IA.out (i + 1) w3 (by omega) HR.out)
      go_wp2_with fail
      refine HC.out.mono ?_
      rintro e w4 ⟨⟨y, j, ya, yc, he, rfl, hown, hr⟩ | ⟨he, rfl, j, hr⟩, ho⟩
      · replace HB := Lib.hid (HB.out.only ho (by omega))
        have hsn := ho.size
        replace HO := Lib.hid (HO.out.trans ho)
        clear HC ho
        replace HR := Lib.hid hr
        clear hr
        have HE1 := Lib.hid he
        clear he
        have HOY := Lib.hid hown
        clear hown
        go_upto_region 6 with (fail)
        have hal : Below w4.heap.size w4 (w4.alloc (.cells #[.int .i64 y.kind, .int .i64 y.num, .string y.name, .slice ya y.args.length yc] 27)) := belowAlloc (Below.refl _ _) _
        replace HB := Lib.hid (HB.out.read hal)
        replace HO := Lib.hid (only_then HO.out hal)
        replace HR := Lib.hid (HR.out.below hal)
        have HBY := Lib.hid (at_box w4 #[.int .i64 y.kind, .int .i64 y.num, .string y.name, .slice ya y.args.length yc] 27)
        have hsw4x : (w4.alloc (.cells #[.int .i64 y.kind, .int .i64 y.num, .string y.name, .slice ya y.args.length yc] 27)).heap.size = w4.heap.size + 1 := by simp
        replace HOY := Lib.hid (HOY.out.kept hal)
        clear hal
        generalize hwx : w4.alloc (.cells #[.int .i64 y.kind, .int .i64 y.num, .string y.name, .slice ya y.args.length yc] 27) = w4x at HB HBY HOY HO HR hsw4x ⊢
        clear hwx
        have HC := Lib.hid (took_any tokR w0 p sa cap T j w4x HR.out)
        unfold tokR at HC
        go_wp2_with fail
        refine HC.out.mono ?_
        rintro e w5 (⟨hy, rfl, hr, ho⟩ | ⟨hy, rfl, hr, ho⟩)
        · have HQ := Lib.hid (HEQ.out.symm.trans (rest_yes HY2.out HE1.out hy))
          clear hy
          replace HBY := Lib.hid (HBY.out.only ho (by omega))
          replace HOY := Lib.hid ((HOY.out.frame fun k hk hks => ho.block k hks fun hh => by have h1 := hh.1; have h2 := hh.2; have h3 := hk.1; omega).sub fun k hk => (⟨hk.1, by have := hk.2; have := ho.size; omega⟩ : iv w3.heap.size w5.heap.size k))
          replace HB := Lib.hid (HB.out.only ho (by omega))
          have hsn := ho.size
          replace HO := Lib.hid (HO.out.trans ho)
          clear HC ho
          replace HR := Lib.hid hr
          clear hr
          obtain ⟨q0, q1, q2, q3⟩ := HBY.out.cells
          have zy := HBY.out.le
          have HRE := Lib.hid HB.out.now
          obtain ⟨r0, r1, r2, r3, rf⟩ := box_cells HB.out.now
          have zr := HB.out.le
          go_wp2
          exact read_yes (t := y) (lo := w3.heap.size) (b := w.heap.size) HQ.out rfl rfl rfl rfl rfl rfl rfl rfl Tryz.underlying27 (by kernel_rfl) HRE.out (Nat.le_refl _) (by omega) (by omega) (by omega) HR.out HO.out HOY.out
        · have HQ := Lib.hid (HEQ.out.symm.trans (rest_no2 HY2.out HE1.out hy))
          clear hy
          replace HB := Lib.hid (HB.out.only ho (by omega))
          have hsn := ho.size
          replace HO := Lib.hid (HO.out.trans ho)
          clear HC ho HBY HOY
          replace HR := Lib.hid hr
          clear hr
          have HRE := Lib.hid HB.out.now
          obtain ⟨r0, r1, r2, r3, rf⟩ := box_cells HB.out.now
          have zr := HB.out.le
          go_wp2
          exact read_no HQ.out (b := w.heap.size) rfl rfl rfl rfl Tryz.underlying27 (by kernel_rfl) HRE.out (Nat.le_refl _) (by omega) (by omega) HR.out HO.out
      · have HQ := Lib.hid (HEQ.out.symm.trans (rest_no1 HY2.out he))
        replace HB := Lib.hid (HB.out.only ho (by omega))
        have hsn := ho.size
        replace HO := Lib.hid (HO.out.trans ho)
        clear HC ho he
        replace HR := Lib.hid hr
        clear hr
        go_upto_region 6 with (fail)
        have hal : Below w4.heap.size w4 (w4.alloc (.cells #[.int .i64 0, .int .i64 0, .string ⟨#[]⟩, .slice none 0 0] 27)) := belowAlloc (Below.refl _ _) _
        replace HB := Lib.hid (HB.out.read hal)
        replace HO := Lib.hid (only_then HO.out hal)
        replace HR := Lib.hid (HR.out.below hal)
        have HBY := Lib.hid (at_box w4 #[.int .i64 0, .int .i64 0, .string ⟨#[]⟩, .slice none 0 0] 27)
        have hsw4x : (w4.alloc (.cells #[.int .i64 0, .int .i64 0, .string ⟨#[]⟩, .slice none 0 0] 27)).heap.size = w4.heap.size + 1 := by simp
        clear hal
        generalize hwx : w4.alloc (.cells #[.int .i64 0, .int .i64 0, .string ⟨#[]⟩, .slice none 0 0] 27) = w4x at HB HBY HO HR hsw4x ⊢
        clear hwx
        have HRE := Lib.hid HB.out.now
        obtain ⟨r0, r1, r2, r3, rf⟩ := box_cells HB.out.now
        have zr := HB.out.le
        go_wp2
        exact read_no HQ.out (b := w.heap.size) rfl rfl rfl rfl Tryz.underlying27 (by kernel_rfl) HRE.out (Nat.le_refl _) (by omega) (by omega) HR.out HO.out
    · replace HB := Lib.hid (HB.out.only ho (by omega))
      have hsn := ho.size
      replace HO := Lib.hid (HO.out.trans ho)
      clear HC ho
      replace HR := Lib.hid hr
      clear hr
      have HEL := Lib.hid (HEQ.out.symm.trans (rest_elem HY.out hy))
      clear hy
      have HC := Lib.hid (IE.out i w3 (by omega) HR.out)
      go_wp2_with fail
      refine HC.out.mono ?_
      rintro e w4 ⟨⟨t, j, x, c, he, rfl, hown, hr⟩ | ⟨he, rfl, j, hr⟩, ho⟩
      · have HQ := Lib.hid (HEL.out.trans he)
        replace HB := Lib.hid (HB.out.only ho (by omega))
        have hsn := ho.size
        replace HO := Lib.hid (HO.out.trans ho)
        clear HC ho he
        replace HR := Lib.hid hr
        clear hr
        have HOWN := Lib.hid hown
        clear hown
        have HRE := Lib.hid HB.out.now
        obtain ⟨r0, r1, r2, r3, rf⟩ := box_cells HB.out.now
        have zr := HB.out.le
        go_wp2
        exact read_yes (t := t) (lo := w3.heap.size) (b := w.heap.size) HQ.out rfl rfl rfl rfl rfl rfl rfl rfl Tryz.underlying27 (by kernel_rfl) HRE.out (Nat.le_refl _) (by omega) (by omega) (by omega) HR.out HO.out HOWN.out
      · have HQ := Lib.hid (HEL.out.trans he)
        replace HB := Lib.hid (HB.out.only ho (by omega))
        have hsn := ho.size
        replace HO := Lib.hid (HO.out.trans ho)
        clear HC ho he
        replace HR := Lib.hid hr
        clear hr
        have HRE := Lib.hid HB.out.now
        obtain ⟨r0, r1, r2, r3, rf⟩ := box_cells HB.out.now
        have zr := HB.out.le
        go_wp2
        exact read_no HQ.out (b := w.heap.size) rfl rfl rfl rfl Tryz.underlying27 (by kernel_rfl) HRE.out (Nat.le_refl _) (by omega) (by omega) HR.out HO.out

theorem reader_any (w0 : World) (hf : TabErrs w0) (p : Nat) (sa : Option Addr) (cap : Nat) (T : List ByteArray) (hT : ∀ x ∈ T, x.size ≤ 1048576) (k : Nat) :
    (∀ (i : Nat) (w : World), 3 * (T.length - i) + 1 ≤ k → Rd w0 p sa cap T i w → Calls Tryz.prog 79 #[.pointer (some ⟨p, 0, none⟩)] w (Read w0 p sa cap T (anyP leafI k T i) w)) ∧
    (∀ (i : Nat) (w : World), 3 * (T.length - i) + 2 ≤ k → Rd w0 p sa cap T i w → Calls Tryz.prog 93 #[.pointer (some ⟨p, 0, none⟩)] w (Read w0 p sa cap T (elemP leafI k T i) w)) ∧
    (∀ (i : Nat) (w : World), 3 * (T.length - i) + 3 ≤ k → Rd w0 p sa cap T i w → Calls Tryz.prog 100 #[.pointer (some ⟨p, 0, none⟩)] w (Read w0 p sa cap T (restP leafI k T i) w)) := by
  induction k with
  | zero => exact ⟨fun i w hk => by omega, fun i w hk => by omega, fun i w hk => by omega⟩
  | succ k ih =>
    exact ⟨anyStep w0 hf p sa cap T hT k (Lib.hid ih.1) (Lib.hid ih.2.1) (Lib.hid ih.2.2), elemStep w0 hf p sa cap T hT k (Lib.hid ih.1) (Lib.hid ih.2.1) (Lib.hid ih.2.2), restStep w0 hf p sa cap T hT k (Lib.hid ih.1) (Lib.hid ih.2.1) (Lib.hid ih.2.2)⟩
end Go.Proofs.YtnbnepeikdieaaaGreatDoor

namespace Go.Proofs.YtnbnepeikdieaaaGreatDoor
open Go.RowKit
set_option linter.unusedVariables false
set_option linter.unusedSimpArgs false

theorem isName_size {s : ByteArray} (h : isName s = true) : s.size ≤ 12 := by
  by_cases hx : 1 ≤ s.size ∧ s.size ≤ 12
  · exact hx.2
  · rw [isName_short hx] at h; cases h
theorem leafI_size {x : ByteArray} {t : Tm} (h : leafI x = some t) : t.nodes = 1 ∧ t.sz ≤ 12 := by
  unfold leafI at h
  split at h
  · cases h
    rw [Tm.nodes, Tm.sz, nodesL, szL]; exact ⟨rfl, Nat.zero_le _⟩
  · split at h
    · rename_i h2
      cases h
      rw [Tm.nodes, Tm.sz, nodesL, szL]; exact ⟨rfl, isName_size h2⟩
    · split at h
      · cases h
        rw [Tm.nodes, Tm.sz, nodesL, szL]; exact ⟨rfl, Nat.zero_le _⟩
      · cases h
def RdOk (i : Nat) (t : Tm) (j : Nat) : Prop := i < j ∧ t.nodes + 1 ≤ 2 * (j - i) ∧ t.sz + 1 ≤ 13 * t.nodes
theorem rdOk_zero {i j : Nat} (h : i < j) : RdOk i zeroTm j := ⟨h, by rw [zeroTm, Tm.nodes, nodesL]; omega, by rw [zeroTm, Tm.nodes, Tm.sz, nodesL, szL]; decide⟩
theorem rdOk_pair {i j m : Nat} {x y : Tm} (h1 : RdOk i x j) (h2 : RdOk j y m) : RdOk i (pairT x y) m := by
  obtain ⟨a1, a2, a3⟩ := h1
  obtain ⟨b1, b2, b3⟩ := h2
  refine ⟨by omega, ?_, ?_⟩
  · rw [pairT, Tm.nodes, nodesL, nodesL, nodesL]; omega
  · rw [pairT, Tm.nodes, Tm.sz, nodesL, nodesL, nodesL, szL, szL, szL]
    have : (⟨#[]⟩ : ByteArray).size = 0 := rfl
    omega
theorem RdOk.wide {i i' j j' : Nat} {t : Tm} (h : RdOk i t j) (h1 : i' ≤ i) (h2 : j ≤ j') : RdOk i' t j' := ⟨by have := h.1; omega, by have := h.1; have := h.2.1; omega, h.2.2⟩
theorem read_ok (T : List ByteArray) (k : Nat) : (∀ i t j, anyP leafI k T i = some (t, j) → RdOk i t j) ∧ (∀ i t j, elemP leafI k T i = some (t, j) → RdOk i t j) ∧ (∀ i t j, restP leafI k T i = some (t, j) → RdOk i t j) := by
  induction k with
  | zero => exact ⟨fun i t j h => (by rw [anyP] at h; cases h), fun i t j h => (by rw [elemP] at h; cases h), fun i t j h => (by rw [restP] at h; cases h)⟩
  | succ k ih =>
    obtain ⟨ia, ie, ir⟩ := ih
    refine ⟨fun i t j h => ?_, fun i t j h => ?_, fun i t j h => ?_⟩
    · rw [anyP] at h
      split at h
      · split at h
        · cases h; exact rdOk_zero (by omega)
        · exact (ie _ _ _ h).wide (by omega) (Nat.le_refl _)
      · split at h
        · cases h
        · split at h
          · cases h
          · rename_i x h1 t' h2
            cases h
            have := leafI_size h2
            exact ⟨by omega, by omega, by omega⟩
    · rw [elemP] at h
      split at h
      · cases h
      · rename_i x j1 h1
        split at h
        · cases h
        · rename_i y j2 h2
          cases h
          exact rdOk_pair (ia _ _ _ h1) (ir _ _ _ h2)
    · rw [restP] at h
      split at h
      · cases h; exact rdOk_zero (by omega)
      · split at h
        · split at h
          · cases h
          · rename_i y j1 h1
            split at h
            · cases h
              exact (ia _ _ _ h1).wide (by omega) (by omega)
            · cases h
        · exact ie _ _ _ h

/-- A term read that is valid. -/
noncomputable def validP (k : Nat) (T : List ByteArray) (i : Nat) : Option (Tm × Nat) := match anyP leafI k T i with | none => none | some (t, j) => if okB t = true then some (t, j) else none
theorem valid_none {k : Nat} {T : List ByteArray} {i : Nat} (h : anyP leafI k T i = none) : validP k T i = none := by rw [validP, h]
theorem valid_bad {k : Nat} {T : List ByteArray} {i j : Nat} {t : Tm} (h : anyP leafI k T i = some (t, j)) (h2 : okB t = false) : validP k T i = none := by rw [validP, h]; simp only [h2]; rfl
theorem valid_yes {k : Nat} {T : List ByteArray} {i j : Nat} {t : Tm} (h : anyP leafI k T i = some (t, j)) (h2 : okB t = true) : validP k T i = some (t, j) := by rw [validP, h]; simp only [h2, if_pos]
theorem valid_inv {k : Nat} {T : List ByteArray} {i j : Nat} {t : Tm} (h : validP k T i = some (t, j)) : anyP leafI k T i = some (t, j) ∧ okB t = true := by
  unfold validP at h
  split at h
  · cases h
  · rename_i t' j' h1
    split at h
    · rename_i h2
      cases h
      exact ⟨h1, h2⟩
    · cases h
/-- All the terms from a place on. -/
noncomputable def allP (k : Nat) (T : List ByteArray) : Nat → Nat → Option (List Tm)
  | 0, _ => some []
  | n + 1, i => if T.length ≤ i then some [] else match validP k T i with | none => none | some (t, j) => match allP k T n j with | none => none | some l => some (t :: l)
theorem all_end {k n i : Nat} {T : List ByteArray} (h : T.length ≤ i) : allP k T n i = some [] := by
  cases n with
  | zero => rw [allP]
  | succ n => rw [allP, if_pos h]
theorem all_no1 {k n i : Nat} {T : List ByteArray} (h : ¬ T.length ≤ i) (h2 : validP k T i = none) : allP k T (n + 1) i = none := by rw [allP, if_neg h, h2]
theorem all_step {k n i j : Nat} {t : Tm} {T : List ByteArray} (h : ¬ T.length ≤ i) (h2 : validP k T i = some (t, j)) : allP k T (n + 1) i = (allP k T n j).map (fun l => t :: l) := by
  rw [allP, if_neg h, h2]
  simp only
  cases allP k T n j <;> rfl
/-- The terms of all tokens, at most forty. -/
noncomputable def termsP (k : Nat) (T : List ByteArray) : Option (List Tm) := match allP k T T.length 0 with | none => none | some l => if l.length ≤ 40 then some l else none
noncomputable def ptO (s : ByteArray) : Option (List Tm) := if (tokensOf s).2 = true then termsP (3 * (tokensOf s).1.length + 1) (tokensOf s).1 else none
noncomputable def ptT (s : ByteArray) : List Tm := (ptO s).getD []
noncomputable def ptB (s : ByteArray) : Bool := (ptO s).isSome

theorem toks_size (s : ByteArray) : ∀ x ∈ toks s, x.size ≤ s.size := by
  have hx : ∀ a b, (s.extract a b).size ≤ s.size := fun a b => by rw [ByteArray.size_extract]; omega
  have key : ∀ k, ∀ x ∈ (tokTo s k).2.2, x.size ≤ s.size := by
    intro k
    induction k with
    | zero => intro x hx; rw [tokTo] at hx; simp at hx
    | succ k ih =>
      intro x hm
      rw [tokTo] at hm
      split at hm
      · exact ih x hm
      · split at hm
        · simp only [List.mem_append] at hm
          rcases hm with (hm | hm) | hm
          · exact ih x hm
          · split at hm
            · simp at hm; subst hm; exact hx _ _
            · simp at hm
          · split at hm
            · simp at hm; subst hm; exact hx _ _
            · simp at hm
        · exact ih x hm
  intro x hm
  unfold toks at hm
  rcases List.mem_append.1 hm with hm | hm
  · exact key _ x hm
  · split at hm
    · simp at hm; subst hm; exact hx _ _
    · simp at hm
theorem tokens_bounds (s : ByteArray) : (tokensOf s).1.length ≤ 20000 ∧ ∀ x ∈ (tokensOf s).1, x.size ≤ 1048576 := by
  unfold tokensOf
  split
  · rename_i h
    exact ⟨h.2.2, fun x hx => Nat.le_trans (toks_size s x hx) (by omega)⟩
  · exact ⟨Nat.zero_le _, fun x hx => by simp at hx⟩
end Go.Proofs.YtnbnepeikdieaaaGreatDoor

namespace Go.Proofs.YtnbnepeikdieaaaGreatDoor
open Go.RowKit
set_option linter.unusedVariables false
set_option linter.unusedSimpArgs false

set_option maxHeartbeats 4000000 in
set_option maxRecDepth 100000 in
theorem validTerm_any (w0 : World) (hf : TabErrs w0) (p : Nat) (sa : Option Addr) (cap : Nat) (T : List ByteArray) (hT : ∀ x ∈ T, x.size ≤ 1048576) (hTl : T.length ≤ 20000) (k : Nat) :
    ∀ (i : Nat) (w : World), 3 * (T.length - i) + 1 ≤ k → Rd w0 p sa cap T i w → Calls Tryz.prog 53 #[.pointer (some ⟨p, 0, none⟩)] w (Read w0 p sa cap T (validP k T i) w) := by
  intro i w hk hrd
  have HTF := Lib.hid hf
  have HT := Lib.hid hT
  have hwl := hrd.old.size
  have hil := hrd.le
  clear hf hT
  generalize hoe : validP k T i = o
  have HEQ := Lib.hid hoe
  clear hoe
  have hal : Below w.heap.size w (w.alloc (.cells #[.int .i64 0, .int .i64 0, .string ⟨#[]⟩, .slice none 0 0] 27)) := belowAlloc (Below.refl _ _) _
  have HB := Lib.hid (at_box w #[.int .i64 0, .int .i64 0, .string ⟨#[]⟩, .slice none 0 0] 27)
  have HR := Lib.hid (hrd.below hal)
  have HO := Lib.hid (Only.of_below (S := iv p (p + 1)) hal)
  have hp := hrd.hi
  have hlo := hrd.lo
  have hsz : (w.alloc (.cells #[.int .i64 0, .int .i64 0, .string ⟨#[]⟩, .slice none 0 0] 27)).heap.size = w.heap.size + 1 := by simp
  clear hal hrd
  go_enter Tryz.func53, Tryz.ntmps53
  go_upto_region 1 with (fail)
  generalize hw0 : w.alloc (.cells #[.int .i64 0, .int .i64 0, .string ⟨#[]⟩, .slice none 0 0] 27) = w1 at HB HR HO hsz ⊢
  clear hw0
  have HC := Lib.hid ((reader_any w0 HTF.out p sa cap T HT.out k).1 i w1 hk HR.out)
  go_wp2_with fail
  refine HC.out.mono ?_
  rintro e w2 ⟨⟨x, j, xa, xc, he, rfl, hown, hr⟩ | ⟨he, rfl, j, hr⟩, ho⟩
  · replace HB := Lib.hid (HB.out.only ho (by omega))
    have hsn := ho.size
    replace HO := Lib.hid (HO.out.trans ho)
    clear HC ho
    replace HR := Lib.hid hr
    clear hr
    have HE1 := Lib.hid he
    have hrk := (read_ok T k).1 _ _ _ he
    clear he
    have HOX := Lib.hid hown
    clear hown
    have hjl := HR.out.le
    have hxz : x.sz ≤ 1048576 := by have h1 := hrk.2.1; have h2 := hrk.2.2; omega
    clear hrk
    go_upto_region 2 with (fail)
    have hal : Below w2.heap.size w2 (w2.alloc (.cells #[.int .i64 x.kind, .int .i64 x.num, .string x.name, .slice xa x.args.length xc] 27)) := belowAlloc (Below.refl _ _) _
    replace HB := Lib.hid (HB.out.read hal)
    replace HO := Lib.hid (only_then HO.out hal)
    replace HR := Lib.hid (HR.out.below hal)
    have HBX := Lib.hid (at_box w2 #[.int .i64 x.kind, .int .i64 x.num, .string x.name, .slice xa x.args.length xc] 27)
    have hsw2x : (w2.alloc (.cells #[.int .i64 x.kind, .int .i64 x.num, .string x.name, .slice xa x.args.length xc] 27)).heap.size = w2.heap.size + 1 := by simp
    replace HOX := Lib.hid (HOX.out.kept hal)
    clear hal
    generalize hwx : w2.alloc (.cells #[.int .i64 x.kind, .int .i64 x.num, .string x.name, .slice xa x.args.length xc] 27) = w2x at HB HBX HOX HO HR hsw2x ⊢
    clear hwx
    have HC := Lib.hid (implTermOk_any x _ w2x HOX.out.argsAt hxz)
    obtain ⟨q0, q1, q2, q3⟩ := HBX.out.cells
    have zx := HBX.out.le
    go_wp2_with fail
    refine HC.out.mono ?_
    rintro e w3 ⟨rfl, hb⟩
    clear q0 q1 q2 q3 zx HC
    replace HB := Lib.hid (HB.out.read hb)
    replace HBX := Lib.hid (HBX.out.read hb)
    replace HO := Lib.hid (only_then HO.out hb)
    replace HR := Lib.hid (HR.out.below hb)
    have hsm := hb.size
    replace HOX := Lib.hid ((HOX.out.kept hb).sub fun k hk => (⟨hk.1, by have := hk.2; omega⟩ : iv w1.heap.size w3.heap.size k))
    clear hb
    cases hok : okB x with
    | true =>
      have HQ := Lib.hid (HEQ.out.symm.trans (valid_yes HE1.out hok))
      clear hok
      obtain ⟨q0, q1, q2, q3⟩ := HBX.out.cells
      have zx := HBX.out.le
      have HRE := Lib.hid HB.out.now
      obtain ⟨r0, r1, r2, r3, rf⟩ := box_cells HB.out.now
      have zr := HB.out.le
      go_wp2
      exact read_yes (t := x) (lo := w1.heap.size) (b := w.heap.size) HQ.out rfl rfl rfl rfl rfl rfl rfl rfl Tryz.underlying27 (by kernel_rfl) HRE.out (Nat.le_refl _) (by omega) (by omega) (by omega) HR.out HO.out HOX.out
    | false =>
      have HQ := Lib.hid (HEQ.out.symm.trans (valid_bad HE1.out hok))
      clear hok
      have HRE := Lib.hid HB.out.now
      obtain ⟨r0, r1, r2, r3, rf⟩ := box_cells HB.out.now
      have zr := HB.out.le
      go_wp2
      exact read_no HQ.out (b := w.heap.size) rfl rfl rfl rfl Tryz.underlying27 (by kernel_rfl) HRE.out (Nat.le_refl _) (by omega) (by omega) HR.out HO.out
  · have HQ := Lib.hid (HEQ.out.symm.trans (valid_none he))
    replace HB := Lib.hid (HB.out.only ho (by omega))
    have hsn := ho.size
    replace HO := Lib.hid (HO.out.trans ho)
    clear HC ho he
    replace HR := Lib.hid hr
    clear hr
    go_upto_region 2 with (fail)
    have hal : Below w2.heap.size w2 (w2.alloc (.cells #[.int .i64 0, .int .i64 0, .string ⟨#[]⟩, .slice none 0 0] 27)) := belowAlloc (Below.refl _ _) _
    replace HB := Lib.hid (HB.out.read hal)
    replace HO := Lib.hid (only_then HO.out hal)
    replace HR := Lib.hid (HR.out.below hal)
    have HBX := Lib.hid (at_box w2 #[.int .i64 0, .int .i64 0, .string ⟨#[]⟩, .slice none 0 0] 27)
    have hsw2x : (w2.alloc (.cells #[.int .i64 0, .int .i64 0, .string ⟨#[]⟩, .slice none 0 0] 27)).heap.size = w2.heap.size + 1 := by simp
    clear hal
    generalize hwx : w2.alloc (.cells #[.int .i64 0, .int .i64 0, .string ⟨#[]⟩, .slice none 0 0] 27) = w2x at HB HBX HO HR hsw2x ⊢
    clear hwx
    have HRE := Lib.hid HB.out.now
    obtain ⟨r0, r1, r2, r3, rf⟩ := box_cells HB.out.now
    have zr := HB.out.le
    go_wp2
    exact read_no HQ.out (b := w.heap.size) rfl rfl rfl rfl Tryz.underlying27 (by kernel_rfl) HRE.out (Nat.le_refl _) (by omega) (by omega) HR.out HO.out

/-- The answers: a list of terms of the call's own, and whether. -/
def NewL (l : List Tm) (b : Bool) (w : World) (e : Ending) (w' : World) : Prop := ∃ v, e = .returned (.tuple #[v, .bool b]) ∧ Own w' 27 (iv w.heap.size w'.heap.size) v l ∧ Below w.heap.size w w'
theorem map_app {α : Type} (o : Option (List α)) (xs : List α) (t : α) : (o.map (fun l => t :: l)).map (fun l => xs ++ l) = o.map (fun l => (xs ++ [t]) ++ l) := by
  cases o <;> simp
/-- How far the reading has come: what is read, what the rest will be. -/
def Come (K : Nat) (T : List ByteArray) (A : Option (List Tm)) (xs : List Tm) (i : Nat) : Prop := ∃ n, T.length - i ≤ n ∧ A = (allP K T n i).map (fun l => xs ++ l)
theorem come_start (K : Nat) (T : List ByteArray) : Come K T (allP K T T.length 0) [] 0 := ⟨T.length, by omega, by cases allP K T T.length 0 <;> simp⟩
theorem come_end {K i : Nat} {T : List ByteArray} {A : Option (List Tm)} {xs : List Tm} (h : Come K T A xs i) (hi : T.length ≤ i) : A = some xs := by
  obtain ⟨n, _, h⟩ := h
  rw [h, all_end hi]; simp
theorem come_no {K i : Nat} {T : List ByteArray} {A : Option (List Tm)} {xs : List Tm} (h : Come K T A xs i) (hi : ¬ T.length ≤ i) (hv : validP K T i = none) : A = none := by
  obtain ⟨n, hn, h⟩ := h
  obtain ⟨m, rfl⟩ : ∃ m, n = m + 1 := ⟨n - 1, by omega⟩
  rw [h, all_no1 hi hv]; rfl
theorem come_step {K i j : Nat} {T : List ByteArray} {A : Option (List Tm)} {xs : List Tm} {t : Tm} (h : Come K T A xs i) (hi : ¬ T.length ≤ i) (hv : validP K T i = some (t, j)) (hj : i < j) : Come K T A (xs ++ [t]) j := by
  obtain ⟨n, hn, h⟩ := h
  obtain ⟨m, rfl⟩ : ∃ m, n = m + 1 := ⟨n - 1, by omega⟩
  exact ⟨m, by omega, by rw [h, all_step hi hv, map_app]⟩
theorem come_long {K i : Nat} {T : List ByteArray} {A : Option (List Tm)} {xs l : List Tm} (h : Come K T A xs i) (hA : A = some l) : xs.length ≤ l.length := by
  obtain ⟨n, _, h⟩ := h
  rw [hA] at h
  cases ha : allP K T n i with
  | none => rw [ha] at h; cases h
  | some m => rw [ha] at h; simp at h; rw [h]; simp
end Go.Proofs.YtnbnepeikdieaaaGreatDoor

