/-
  ParseTerms of the program.
  The model's l03ReadAll and ParseTerms.
  ParseTerm of both sides: the one term of a list of one.
-/
import Derived.Test.YtnbnepeikdieaaaGreatDoorReaders
import Derived.Deep.LoopGhost
import Derived.Test.YtnbnepeikdieaaaGreatDoorSpecReads
import Derived.Test.YtnbnepeikdieaaaGreatDoorTokensSpec
namespace Go.Proofs.YtnbnepeikdieaaaGreatDoor
open Go.RowKit
set_option linter.unusedVariables false
set_option linter.unusedSimpArgs false

theorem Rd.grown {w0 w w' : World} {p i cap : Nat} {sa : Option Addr} {T : List ByteArray} {r : Option Nat} (h : Rd w0 p sa cap T i w) (hg : w.grownBy w' r) (hne : ∀ k, r = some k → p < k) : Rd w0 p sa cap T i w' :=
  ⟨(hg.block p h.hi (fun e => by have := hne p e.symm; omega)).trans h.cell, h.toks, h.lo, h.old.trans (below_of_grown hg h.old.size (fun k hk => by have := hne k hk; have := h.lo; omega)), h.le, h.most⟩
theorem pt_none {s : ByteArray} (h : ptO s = none) : ptT s = [] ∧ ptB s = false := by rw [ptT, ptB, h]; exact ⟨rfl, rfl⟩
theorem pt_some {s : ByteArray} {l : List Tm} (h : ptO s = some l) : ptT s = l ∧ ptB s = true := by rw [ptT, ptB, h]; exact ⟨rfl, rfl⟩
theorem ptO_bad {s : ByteArray} (h : (tokensOf s).2 = false) : ptO s = none := by rw [ptO, h]; rfl
theorem ptO_ok {s : ByteArray} (h : (tokensOf s).2 = true) : ptO s = termsP (3 * (tokensOf s).1.length + 1) (tokensOf s).1 := by rw [ptO, h]; rfl
theorem terms_none {k : Nat} {T : List ByteArray} (h : allP k T T.length 0 = none) : termsP k T = none := by rw [termsP, h]
theorem terms_long {k : Nat} {T : List ByteArray} {l : List Tm} (h : allP k T T.length 0 = some l) (hl : 40 < l.length) : termsP k T = none := by rw [termsP, h]; simp only [if_neg (show ¬ l.length ≤ 40 by omega)]
theorem terms_some {k : Nat} {T : List ByteArray} {l : List Tm} (h : allP k T T.length 0 = some l) (hl : l.length ≤ 40) : termsP k T = some l := by rw [termsP, h]; simp only [if_pos hl]

end Go.Proofs.YtnbnepeikdieaaaGreatDoor

namespace Go.Proofs.YtnbnepeikdieaaaGreatDoor
open Go.RowKit
set_option linter.unusedVariables false
set_option linter.unusedSimpArgs false

theorem validS_none {k i : Nat} {T : List ByteArray} (h : anyP leafS k T i = none) : validP k T i = none := by
  cases h2 : anyP leafI k T i with
  | none => exact valid_none h2
  | some p =>
    obtain ⟨t, j⟩ := p
    exact valid_bad h2 (okB_false.2 fun hok => ((read_same T k).1 i).no h h2 hok.2)
theorem validS_some {k i j : Nat} {T : List ByteArray} {t : Tm} (h : anyP leafS k T i = some (t, j)) : anyP leafI k T i = some (t, j) := (((read_same T k).1 i) t j).1 h |>.1
/-- The model's list: what is read, or nothing. -/
def OldL (l : List Tm) (b : Bool) (w : World) (e : Ending) (w' : World) : Prop := ∃ v, e = .returned (.tuple #[v, .bool b]) ∧ ArgsS w' (iv w.heap.size w'.heap.size) v l ∧ Below w.heap.size w w'

end Go.Proofs.YtnbnepeikdieaaaGreatDoor

namespace Go.Proofs.YtnbnepeikdieaaaGreatDoor
open Go.RowKit
set_option linter.unusedVariables false
set_option linter.unusedSimpArgs false

theorem all_szL (K : Nat) (T : List ByteArray) : ∀ (n i : Nat) (l : List Tm), allP K T n i = some l → szL l ≤ 26 * (T.length - i)
  | 0, i, l, h => by rw [allP] at h; cases h; exact Nat.zero_le _
  | n + 1, i, l, h => by
    rw [allP] at h
    split at h
    · cases h; exact Nat.zero_le _
    · split at h
      · cases h
      · rename_i t j hv
        split at h
        · cases h
        · rename_i l' hl
          cases h
          have h1 := all_szL K T n j l' hl
          have h2 := (read_ok T K).1 _ _ _ (valid_inv hv).1
          have h3 := (read_le leafI T K).1 _ _ _ (valid_inv hv).1
          have h4 := h2.1
          have h5 := h2.2.1
          have h6 := h2.2.2
          rw [szL]
          omega
theorem pt_szL (s : ByteArray) : szL (ptT s) ≤ 1048576 := by
  unfold ptT
  cases h : ptO s with
  | none => exact Nat.zero_le _
  | some l =>
    show szL l ≤ 1048576
    have hb := (tokens_bounds s).1
    unfold ptO at h
    split at h
    · unfold termsP at h
      split at h
      · cases h
      · rename_i l' hl
        split at h
        · cases h
          have := all_szL _ _ _ _ _ hl
          omega
        · cases h
    · cases h
theorem pt_len (s : ByteArray) : (ptT s).length ≤ 40 := by
  unfold ptT
  cases h : ptO s with
  | none => exact Nat.zero_le _
  | some l =>
    show l.length ≤ 40
    unfold ptO at h
    split at h
    · unfold termsP at h
      split at h
      · cases h
      · split at h
        · rename_i h40
          cases h
          exact h40
        · cases h
    · cases h
theorem pt_false {s : ByteArray} (h : ptB s = false) : ptT s = [] := by
  unfold ptB at h
  unfold ptT
  cases ho : ptO s with
  | none => rfl
  | some l => rw [ho] at h; cases h

noncomputable def p1T (s : ByteArray) : Tm := match ptT s with | [t] => t | _ => zeroTm
noncomputable def p1B (s : ByteArray) : Bool := match ptT s with | [_] => true | _ => false
theorem p1_one {s : ByteArray} {t : Tm} (h : ptT s = [t]) : p1T s = t ∧ p1B s = true := by unfold p1T p1B; rw [h]; exact ⟨rfl, rfl⟩
theorem p1_no {s : ByteArray} (h : ¬ (ptT s).length = 1) : p1T s = zeroTm ∧ p1B s = false := by
  unfold p1T p1B
  match hl : ptT s with
  | [] => exact ⟨rfl, rfl⟩
  | [t] => rw [hl] at h; exact absurd rfl h
  | _ :: _ :: _ => exact ⟨rfl, rfl⟩
theorem p1_sz (s : ByteArray) : (p1T s).sz ≤ 1048576 := by
  have h := pt_szL s
  by_cases h1 : (ptT s).length = 1
  · obtain ⟨t, ht⟩ := List.length_eq_one_iff.1 h1
    rw [(p1_one ht).1]
    rw [ht, szL] at h
    omega
  · rw [(p1_no h1).1, zeroTm, Tm.sz, szL]
    exact Nat.zero_le _
theorem Own.one {w : World} {e : TypeId} {S : Nat → Prop} {v : Value} {t : Tm} (h : Own w e S v [t]) :
    ∃ g cap x c, v = .slice (some ⟨g, 0, none⟩) 1 cap ∧ S g ∧ g < w.heap.size ∧ (w.cell? ⟨g, 0, none⟩ = some (.int .i64 t.kind) ∧ w.cell? ⟨g, 1, none⟩ = some (.int .i64 t.num) ∧ w.cell? ⟨g, 2, none⟩ = some (.string t.name) ∧ w.cell? ⟨g, 3, none⟩ = some (.slice x t.args.length c)) ∧ Own w e S (.slice x t.args.length c) t.args := by
  cases h with
  | row S g n cap L C l hl hn hg hown hr hC hd =>
    match L, hl, hn with
    | [(a, V)], hl, hn =>
      simp at hl
      subst hl
      subst hn
      have h0 := hr 0 (t, V) rfl
      have h1 : Own w e S V t.args := h0.sub fun k hk => (hC 0 k (by simp) hk).1
      obtain ⟨x, c, rfl⟩ := h1.argsAt.slice
      have cc : ∀ i v, (cells4 t (.slice x t.args.length c))[i]? = some v → w.cell? ⟨g, i, none⟩ = some v := fun i v hv => by
        have hi : i < 4 := by have := (List.getElem?_eq_some_iff.1 hv).1; simpa [cells4] using this
        rw [World.ownsRow.cellAt hown _ (by simpa using hi)]
        have := cellsL_at (L := [(t, .slice x t.args.length c)]) (j := 0) rfl hv
        simpa using this
      exact ⟨g, cap, x, c, rfl, hg, row_hit hown, ⟨cc 0 _ rfl, cc 1 _ rfl, cc 2 _ rfl, cc 3 _ rfl⟩, h1⟩
    | [], hl, hn => simp at hl
    | _ :: _ :: _, hl, hn => simp at hl

/-- A term that can be read, and whether. -/
def SOld2 (t : Tm) (b : Bool) (w : World) (e : Ending) (w' : World) : Prop := ∃ u, e = .returned (.tuple #[.agg #[.int .i64 t.kind, .int .i64 t.num, .string t.name, u], .bool b]) ∧ ArgsAt w' u t.args ∧ Below w.heap.size w w'

end Go.Proofs.YtnbnepeikdieaaaGreatDoor

