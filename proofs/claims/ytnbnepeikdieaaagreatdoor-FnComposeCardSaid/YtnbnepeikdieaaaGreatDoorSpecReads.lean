/-
  The model's l03Read where the token opens no list; a triple's return.
  Reading in rounds, plain: what is left of a list when some of its elements have come.
  The model's l02List.
  The model's l03Read where the token opens a list.
-/
import Derived.Test.YtnbnepeikdieaaaGreatDoorAtoms
import Derived.Test.YtnbnepeikdieaaaGreatDoorReaders
import Derived.Test.YtnbnepeikdieaaaGreatDoorListOk
import Derived.Test.YtnbnepeikdieaaaGreatDoorItems
import Derived.Deep.LoopGhost
namespace Go.Proofs.YtnbnepeikdieaaaGreatDoor
open Go.RowKit
set_option linter.unusedVariables false
set_option linter.unusedSimpArgs false

theorem results_cell_row3 {P : Program} {fn : Func} {p q r : Tmp} {ty : TypeId} (h : fn.results = #[.cell p ty, .tmp q, .tmp r]) (tmps : Array Value) (w : World) (g : Nat) (t : TypeId) (cs : Array Value) (fr : Nat × Nat) (d : TypeDesc)
    (hp : tmps.getD p undef = .pointer (some ⟨g, 0, none⟩)) (hg : w.heap[g]? = some (.cells cs t fr))
    (hu : P.underlying ty = some d) (hd : (match d with | .struct _ | .array _ _ => true | _ => false) = true) (hi : (P.info? ty).map (·.size) = some cs.size) :
    (results fn tmps).run P w = .ok (.tuple #[.agg cs, tmps.getD q undef, tmps.getD r undef]) w := by
  have hp' : tmps[p]?.getD undef = .pointer (some ⟨g, 0, none⟩) := by simpa using hp
  simp [results, h, hp', asAddr, run_loadVar_row w g t ty cs fr d hg hu hd hi]
/-- The return of a struct of four cells that has just been stored into the result's variable, and of two more results. -/
theorem bodyPost_fourT {P : Program} {fn : Func} {R : Ending → World → Prop} {a : Act} {w : World} {p q r : Tmp} {ty e : TypeId} {b : Nat} {x0 x1 x2 x3 y0 y1 y2 y3 z1 z2 : Value} {d : TypeDesc} (h : fn.results = #[.cell p ty, .tmp q, .tmp r]) (hp : a.tmps.getD p undef = .pointer (some ⟨b, 0, none⟩)) (hq : a.tmps.getD q undef = z1) (hr : a.tmps.getD r undef = z2) (hd : a.defers = [])
    (hu : P.underlying ty = some d) (hdd : (match d with | .struct _ | .array _ _ => true | _ => false) = true) (hi : (P.info? ty).map (·.size) = some 4) (hb : w.heap[b]? = some (Obj.cells #[x0, x1, x2, x3] e))
    (hR : ∀ w', Only (fun k => k = b) w w' → R (.returned (.tuple #[.agg #[y0, y1, y2, y3], z1, z2])) w') :
    bodyPost P fn R .ret a ((((w.setCell ⟨b, 0, none⟩ y0).setCell ⟨b, 1, none⟩ y1).setCell ⟨b, 2, none⟩ y2).setCell ⟨b, 3, none⟩ y3) := by
  subst hq
  subst hr
  have h0 := heap_setCell_same w b 0 _ e y0 hb
  have h1 := heap_setCell_same _ b 1 _ e y1 h0
  have h2 := heap_setCell_same _ b 2 _ e y2 h1
  have h3 := heap_setCell_same _ b 3 _ e y3 h2
  refine bodyPost_ret (results_cell_row3 h _ _ b e #[y0, y1, y2, y3] (0, 0) d hp h3 hu hdd hi) hd (hR _ ?_)
  have one : ∀ (W : World) (j : Nat) (u : Value), Only (fun k => k = b) W (W.setCell ⟨b, j, none⟩ u) := fun W j u => ⟨rfl, rfl, rfl, by simp, fun k _ hk => Below.heap_setCell _ _ _ _ hk⟩
  exact (((one _ _ _).trans (one _ _ _)).trans (one _ _ _)).trans (one _ _ _)

/-- Tokens in a slice that came in. -/
def Toks (w : World) (sa : Option Addr) (T : List ByteArray) : Prop := T = [] ∨ ∃ g off, sa = some ⟨g, off, none⟩ ∧ g < w.heap.size ∧ ∀ j x, T[j]? = some x → w.cell? ⟨g, off + j, none⟩ = some (.string x)
theorem Toks.kept {w w' : World} {sa : Option Addr} {T : List ByteArray} (h : Toks w sa T) (hb : Below w.heap.size w w') : Toks w' sa T := by
  rcases h with h | ⟨g, off, h1, h2, h3⟩
  · exact .inl h
  · exact .inr ⟨g, off, h1, Nat.lt_of_lt_of_le h2 hb.size, fun j x hx => (hb.cell (p := ⟨g, off + j, none⟩) h2).trans (h3 j x hx)⟩
theorem Toks.at {w : World} {sa : Option Addr} {T : List ByteArray} (h : Toks w sa T) {j : Nat} {x : ByteArray} (hx : T[j]? = some x) : ∃ g off, sa = some ⟨g, off, none⟩ ∧ w.cell? ⟨g, off + j, none⟩ = some (.string x) := by
  rcases h with h | ⟨g, off, h1, _, h3⟩
  · subst h; simp at hx
  · exact ⟨g, off, h1, h3 j x hx⟩
/-- What the model's reading answers. -/
def SRead (o : Option (Tm × Nat)) (w : World) (e : Ending) (w' : World) : Prop :=
  ((∃ (t : Tm) (j : Nat) (x : Option Addr) (c : Nat), o = some (t, j) ∧ e = .returned (.tuple #[.agg #[.int .i64 t.kind, .int .i64 t.num, .string t.name, .slice x t.args.length c], .int .i64 j, .bool true]) ∧ ArgsS w' (iv w.heap.size w'.heap.size) (.slice x t.args.length c) t.args) ∨
    (o = none ∧ ∃ m : Int, e = .returned (.tuple #[.agg #[.int .i64 0, .int .i64 0, .string ⟨#[]⟩, .slice none 0 0], .int .i64 m, .bool false]))) ∧ Below w.heap.size w w'

theorem leafS_args {x : ByteArray} {t : Tm} (h : leafS x = some t) : t.args = [] := by
  cases hl : leafI x with
  | none => rw [leafS_no hl] at h; cases h
  | some u =>
    by_cases hg : Good u
    · rw [leafS_yes hl hg] at h; cases h; exact leafI_args hl
    · rw [leafS_bad hl hg] at h; cases h
theorem one_list (c : UInt8) : (⟨#[c]⟩ : ByteArray).toList = [c] := by rw [Lib.toList_data]
theorem leafS_R : leafS tokR = none := by
  refine leafS_no (leafI_no (parse_first fun c r h => ?_) (by decide) (fun h => absurd h.1 (by decide)))
  cases h; decide
theorem leafS_D : leafS tokD = none := by
  refine leafS_no (leafI_no (parse_first fun c r h => ?_) (by decide) (fun h => absurd h.1 (by decide)))
  cases h; decide

end Go.Proofs.YtnbnepeikdieaaaGreatDoor

namespace Go.Proofs.YtnbnepeikdieaaaGreatDoor
open Go.RowKit
set_option linter.unusedVariables false
set_option linter.unusedSimpArgs false

theorem listT_snoc (xs : List Tm) (x y : Tm) : listT (xs ++ [x]) y = listT xs (pairT x y) := by
  induction xs with
  | nil => rfl
  | cons a l ih => rw [List.cons_append, listT_cons, ih, listT_cons]
theorem read_le (L : ByteArray → Option Tm) (T : List ByteArray) (k : Nat) : (∀ i t j, anyP L k T i = some (t, j) → j ≤ T.length) ∧ (∀ i t j, elemP L k T i = some (t, j) → j ≤ T.length) ∧ (∀ i t j, restP L k T i = some (t, j) → j ≤ T.length) := by
  induction k with
  | zero => exact ⟨fun i t j h => (by rw [anyP] at h; cases h), fun i t j h => (by rw [elemP] at h; cases h), fun i t j h => (by rw [restP] at h; cases h)⟩
  | succ k ih =>
    obtain ⟨ia, ie, ir⟩ := ih
    refine ⟨fun i t j h => ?_, fun i t j h => ?_, fun i t j h => ?_⟩
    · rw [anyP] at h
      split at h
      · split at h
        · rename_i h2
          have := at_lt h2
          cases h; omega
        · exact ie _ _ _ h
      · split at h
        · cases h
        · rename_i x h1
          have := at_lt h1
          split at h
          · cases h
          · cases h; omega
    · rw [elemP] at h
      split at h
      · cases h
      · rename_i x j1 h1
        split at h
        · cases h
        · rename_i y j2 h2
          cases h
          exact ir _ _ _ h2
    · rw [restP] at h
      split at h
      · rename_i h1
        have := at_lt h1
        cases h; omega
      · split at h
        · split at h
          · cases h
          · rename_i y j1 h1
            split at h
            · rename_i h2
              have := at_lt h2
              cases h; omega
            · cases h
        · exact ie _ _ _ h

/-- What is left to be read of a list. -/
def Left (L : ByteArray → Option Tm) (T : List ByteArray) (o : Option (Tm × Nat)) (xs : List Tm) (i : Nat) : Prop :=
  (xs = [] ∧ ∃ k, 3 * (T.length - i) + 3 ≤ k ∧ o = if T[i]? = some tokR then some (zeroTm, i + 1) else elemP L k T i) ∨
  (xs ≠ [] ∧ ∃ k, 3 * (T.length - i) + 3 ≤ k ∧ o = (restP L k T i).map fun p => (listT xs p.1, p.2))
theorem left_start {L : ByteArray → Option Tm} {T : List ByteArray} {i k : Nat} (h : T[i]? = some tokL) (hk : 3 * (T.length - i) + 1 ≤ k + 1) : Left L T (anyP L (k + 1) T i) [] (i + 1) := by
  have hlt := at_lt h
  refine .inl ⟨rfl, k, by omega, ?_⟩
  by_cases h2 : T[i + 1]? = some tokR
  · rw [any_open h h2, if_pos h2]
  · rw [any_elem h h2, if_neg h2]
theorem left_step {L : ByteArray → Option Tm} {T : List ByteArray} {o : Option (Tm × Nat)} {xs : List Tm} {i : Nat} (h : Left L T o xs i) (hR : ¬ T[i]? = some tokR) (hD : ¬ T[i]? = some tokD) (hlt : i < T.length) (hgt : ∀ k t j, anyP L k T i = some (t, j) → i < j) :
    ∃ k, 3 * (T.length - i) + 1 ≤ k ∧ (anyP L k T i = none → o = none) ∧ ∀ x j, anyP L k T i = some (x, j) → Left L T o (xs ++ [x]) j := by
  rcases h with ⟨rfl, k, hk, ho⟩ | ⟨hne, k, hk, ho⟩
  · rw [if_neg hR] at ho
    obtain ⟨k, rfl⟩ : ∃ k', k = k' + 1 := ⟨k - 1, by omega⟩
    refine ⟨k, by omega, fun h => by rw [ho, elem_no1 h], fun x j h => .inr ⟨by simp, k, by have := hgt _ _ _ h; omega, ?_⟩⟩
    rw [ho, elemP, h]
    cases hr : restP L k T j with
    | none => simp only [hr]; rfl
    | some p => simp only [hr]; rfl
  · obtain ⟨k, rfl⟩ : ∃ k', k = k' + 2 := ⟨k - 2, by omega⟩
    rw [rest_elem hR hD] at ho
    refine ⟨k, by omega, fun h => by rw [ho, elem_no1 h]; rfl, fun x j h => .inr ⟨by simp, k, by have := hgt _ _ _ h; omega, ?_⟩⟩
    rw [ho, elemP, h]
    cases hr : restP L k T j with
    | none => simp only [hr]; rfl
    | some p => simp only [hr, Option.map_some, listT_snoc]
theorem left_end {L : ByteArray → Option Tm} {T : List ByteArray} {o : Option (Tm × Nat)} {xs : List Tm} {i : Nat} (h : Left L T o xs i) (he : T[i]? = none) : o = none := by
  have hR : ¬ T[i]? = some tokR := by rw [he]; simp
  have hD : ¬ T[i]? = some tokD := by rw [he]; simp
  rcases h with ⟨rfl, k, hk, ho⟩ | ⟨hne, k, hk, ho⟩
  · rw [if_neg hR] at ho
    obtain ⟨k, rfl⟩ : ∃ k', k = k' + 2 := ⟨k - 2, by omega⟩
    rw [ho, elem_no1 (any_end he)]
  · obtain ⟨k, rfl⟩ : ∃ k', k = k' + 3 := ⟨k - 3, by omega⟩
    rw [ho, rest_elem hR hD, elem_no1 (any_end he)]; rfl
theorem left_close {L : ByteArray → Option Tm} {T : List ByteArray} {o : Option (Tm × Nat)} {xs : List Tm} {i : Nat} (h : Left L T o xs i) (he : T[i]? = some tokR) : o = some (listT xs zeroTm, i + 1) := by
  rcases h with ⟨rfl, k, hk, ho⟩ | ⟨hne, k, hk, ho⟩
  · rw [ho, if_pos he]; rfl
  · obtain ⟨k, rfl⟩ : ∃ k', k = k' + 1 := ⟨k - 1, by omega⟩
    rw [ho, rest_close he]; rfl
theorem left_dot0 {L : ByteArray → Option Tm} {T : List ByteArray} {o : Option (Tm × Nat)} {i : Nat} (h : Left L T o [] i) (he : T[i]? = some tokD) (hL : L tokD = none) : o = none := by
  rcases h with ⟨_, k, hk, ho⟩ | ⟨hne, k, hk, ho⟩
  · rw [if_neg (by rw [he]; decide)] at ho
    obtain ⟨k, rfl⟩ : ∃ k', k = k' + 2 := ⟨k - 2, by omega⟩
    rw [ho, elem_no1 (any_no he (by decide) hL)]
  · exact absurd rfl hne
theorem left_dot {L : ByteArray → Option Tm} {T : List ByteArray} {o : Option (Tm × Nat)} {xs : List Tm} {i : Nat} (h : Left L T o xs i) (hne : xs ≠ []) (he : T[i]? = some tokD) :
    ∃ k, 3 * (T.length - (i + 1)) + 1 ≤ k ∧ (anyP L k T (i + 1) = none → o = none) ∧ ∀ y j, anyP L k T (i + 1) = some (y, j) → (T[j]? = some tokR → o = some (listT xs y, j + 1)) ∧ (¬ T[j]? = some tokR → o = none) := by
  have hlt := at_lt he
  rcases h with ⟨h0, _⟩ | ⟨_, k, hk, ho⟩
  · exact absurd h0 hne
  · obtain ⟨k, rfl⟩ : ∃ k', k = k' + 1 := ⟨k - 1, by omega⟩
    refine ⟨k, by omega, fun h => by rw [ho, rest_no1 he h]; rfl, fun y j h => ⟨fun h2 => by rw [ho, rest_yes he h h2]; rfl, fun h2 => by rw [ho, rest_no2 he h h2]; rfl⟩⟩
end Go.Proofs.YtnbnepeikdieaaaGreatDoor

namespace Go.Proofs.YtnbnepeikdieaaaGreatDoor
open Go.RowKit
set_option linter.unusedVariables false
set_option linter.unusedSimpArgs false

def offC (C : Nat → Prop) (B : Nat) (k : Nat) : Prop := C k ∨ B + 1 + 1 ≤ k
theorem offC_out {C : Nat → Prop} {B k : Nat} (h : offC C B k) (hC : ∀ k, C k → k < B) : k < B ∨ B + 1 + 1 ≤ k := h.imp (hC k) id
theorem ArgsS.lt {w : World} {S : Nat → Prop} {v : Value} {l : List Tm} (h : ArgsS w S v l) : ArgsS w (fun k => S k ∧ k < w.heap.size) v l := by
  induction h with
  | nil a cap => exact .nil a cap
  | row g off n cap V l hn hs hg hc hr ih => exact .row g off n cap V l hn ⟨hs, hg⟩ hg hc ih
end Go.Proofs.YtnbnepeikdieaaaGreatDoor

namespace Go.Proofs.YtnbnepeikdieaaaGreatDoor
open Go.RowKit
set_option linter.unusedVariables false
set_option linter.unusedSimpArgs false

theorem tests_no {x : ByteArray} {c : UInt8} (h : ¬ x = ⟨#[c]⟩) : (x.toList == (⟨#[c]⟩ : ByteArray).toList) = false ∧ (x.toList == [c]) = false ∧ (x.toList != (⟨#[c]⟩ : ByteArray).toList) = true ∧ (x.toList != [c]) = true := by
  have d := string_eq_no h
  have e : (x.toList == [c]) = false := by rw [one_list] at d; exact d
  exact ⟨d, e, by simp only [bne, d]; rfl, by simp only [bne, e]; rfl⟩
theorem sread_yes {P : Program} {fn : Func} {o : Option (Tm × Nat)} {w W : World} {a : Act} {t : Tm} {j : Nat} {x : Option Addr} {c b m : Nat} {x0 x1 x2 x3 : Value} {fs : Array Field} {C : Nat → Prop} {k i jj : Int} {s : ByteArray}
    (heq : o = some (t, j)) (h1 : t.kind = k) (h2 : t.num = i) (h3 : t.name = s) (h4 : t.args.length = m) (hj : (j : Int) = jj) (h : fn.results = #[.cell 4 27, .tmp 5, .tmp 6]) (hp : a.tmps.getD 4 undef = .pointer (some ⟨b, 0, none⟩)) (hq : a.tmps.getD 5 undef = .int .i64 jj) (hr : a.tmps.getD 6 undef = .bool true) (hd : a.defers = [])
    (hu : P.underlying 27 = some (.struct fs)) (hi : (P.info? 27).map (·.size) = some 4) (hb : W.heap[b]? = some (Obj.cells #[x0, x1, x2, x3] 27)) (hB : b = w.heap.size) (hW : Below w.heap.size w W) (hA : ArgsS W C (.slice x m c) t.args) (hC : ∀ k, C k → w.heap.size < k ∧ k < W.heap.size) :
    bodyPost P fn (SRead o w) .ret a ((((W.setCell ⟨b, 0, none⟩ (.int .i64 k)).setCell ⟨b, 1, none⟩ (.int .i64 i)).setCell ⟨b, 2, none⟩ (.string s)).setCell ⟨b, 3, none⟩ (.slice x m c)) := by
  subst heq
  subst h1
  subst h2
  subst h3
  subst h4
  subst hj
  refine bodyPost_fourT h hp hq hr hd hu rfl hi hb fun w' hw => ?_
  refine ⟨.inl ⟨t, j, x, c, rfl, rfl, (hA.frame hw.size fun k hk hks => hw.block k hks fun e => by have := hC k hk; omega).sub fun k hk => ⟨by have := hC k hk; omega, by have := hC k hk; have := hw.size; omega⟩⟩, hW.trans (hw.below (fun k hk => by omega) hW.size)⟩
theorem sread_no {P : Program} {fn : Func} {o : Option (Tm × Nat)} {w W : World} {a : Act} {b : Nat} {x0 x1 x2 x3 : Value} {fs : Array Field} {jj : Int}
    (heq : o = none) (h : fn.results = #[.cell 4 27, .tmp 5, .tmp 6]) (hp : a.tmps.getD 4 undef = .pointer (some ⟨b, 0, none⟩)) (hq : a.tmps.getD 5 undef = .int .i64 jj) (hr : a.tmps.getD 6 undef = .bool false) (hd : a.defers = [])
    (hu : P.underlying 27 = some (.struct fs)) (hi : (P.info? 27).map (·.size) = some 4) (hb : W.heap[b]? = some (Obj.cells #[x0, x1, x2, x3] 27)) (hB : b = w.heap.size) (hW : Below w.heap.size w W) :
    bodyPost P fn (SRead o w) .ret a ((((W.setCell ⟨b, 0, none⟩ (.int .i64 0)).setCell ⟨b, 1, none⟩ (.int .i64 0)).setCell ⟨b, 2, none⟩ (.string ⟨#[]⟩)).setCell ⟨b, 3, none⟩ (.slice none 0 0)) := by
  subst heq
  refine bodyPost_fourT h hp hq hr hd hu rfl hi hb fun w' hw => ?_
  exact ⟨.inr ⟨rfl, jj, rfl⟩, hW.trans (hw.below (fun k hk => by omega) hW.size)⟩

end Go.Proofs.YtnbnepeikdieaaaGreatDoor

