/-
  Substitutions, plain: what is bound, when a list of bindings is a substitution, what a substitution makes of a term.
  The model's l04Get.
  The model's l04Put: all variables replaced at once, what they are replaced by shared.
  The model's l04Values. (Written by wip/tools/gen_values.py.)
  The model's SubstOk.
  The model's l04Apply, Lookup, ApplySubst.
  The model's Lookup, ApplySubst.
  The model's l04Copy, l02Has, RestrictSubst.
-/
import Derived.Test.YtnbnepeikdieaaaGreatDoorRows3
import Derived.Test.YtnbnepeikdieaaaGreatDoorVarsP
import Derived.Test.YtnbnepeikdieaaaGreatDoorPuts
import Derived.Deep.RegionHeld3
import Derived.Deep.Cut
import Derived.IntWalk
import Derived.Test.YtnbnepeikdieaaaGreatDoorItems
import Derived.Deep.RegionLaw
namespace Go.Proofs.YtnbnepeikdieaaaGreatDoor
open Go.RowKit
set_option linter.unusedVariables false
set_option linter.unusedSimpArgs false

def getO : List Bd → Int → Option Tm
  | [], _ => none
  | b :: l, v => if b.v = v then some b.t else getO l v
theorem getO_some : ∀ {s : List Bd} {v : Int} {t : Tm}, getO s v = some t → ∃ b ∈ s, b.v = v ∧ b.t = t
  | [], _, _, h => by cases h
  | b :: s, v, t, h => by
    rw [getO] at h
    split at h
    · rename_i e
      cases h
      exact ⟨b, by simp, e, rfl⟩
    · obtain ⟨c, hc, h1⟩ := getO_some h
      exact ⟨c, by simp [hc], h1⟩
theorem getO_none : ∀ {s : List Bd} {v : Int}, getO s v = none ↔ ∀ b ∈ s, b.v ≠ v
  | [], v => by simp [getO]
  | b :: s, v => by
    rw [getO]
    by_cases h : b.v = v
    · rw [if_pos h]; simp [h]
    · rw [if_neg h, getO_none]; simp [h]
theorem getO_at {s : List Bd} {v : Int} : ∀ {k : Nat} {x : Bd}, s[k]? = some x → x.v = v → (∀ i y, i < k → s[i]? = some y → y.v ≠ v) → getO s v = some x.t := by
  induction s with
  | nil => intro k x hx; simp at hx
  | cons b s ih =>
    intro k x hx hv hn
    rw [getO]
    cases k with
    | zero => simp at hx; subst hx; rw [if_pos hv]
    | succ k =>
      rw [if_neg (hn 0 b (by omega) rfl)]
      exact ih (k := k) (by simpa using hx) hv fun i y hi hy => hn (i + 1) y (by omega) (by simpa using hy)
theorem getO_out {s : List Bd} {v : Int} (h : ∀ i y, i < s.length → s[i]? = some y → y.v ≠ v) : getO s v = none := by
  rw [getO_none]
  intro b hb
  obtain ⟨i, hi⟩ := List.getElem?_of_mem hb
  exact h i b (List.getElem?_eq_some_iff.1 hi).1 hi
def orZero (o : Option Tm) : Tm := o.getD zeroTm
def getT (s : List Bd) (v : Int) : Tm := orZero (getO s v)
def getB (s : List Bd) (v : Int) : Bool := (getO s v).isSome
theorem get_yes {s : List Bd} {v : Int} {t : Tm} (h : getO s v = some t) : getT s v = t ∧ getB s v = true := by rw [getT, getB, h]; exact ⟨rfl, rfl⟩
theorem get_no {s : List Bd} {v : Int} (h : getO s v = none) : getT s v = zeroTm ∧ getB s v = false := by rw [getT, getB, h]; exact ⟨rfl, rfl⟩
theorem getB_none {s : List Bd} {v : Int} : getB s v = false ↔ getO s v = none := by
  unfold getB
  cases getO s v <;> simp

/-- Variables in order and in range, valid terms, not too many. -/
def ValuesP (s : List Bd) : Prop :=
  (∀ (k : Nat) (x : Bd), s[k]? = some x → (0 ≤ x.v ∧ x.v ≤ 100000) ∧ Ok x.t) ∧ (∀ (k : Nat) (x y : Bd), s[k]? = some x → s[k + 1]? = some y → x.v < y.v) ∧ s.length ≤ 400
def SubstP (s : List Bd) : Prop := ValuesP s ∧ ∀ b ∈ s, ¬ (b.t.kind = 1 ∧ b.v ≤ b.t.num) ∧ ∀ v ∈ b.t.vl, getO s v = none
open Classical in
noncomputable def valuesB (s : List Bd) : Bool := decide (ValuesP s)
open Classical in
noncomputable def substB (s : List Bd) : Bool := decide (SubstP s)
theorem valuesB_true {s : List Bd} : valuesB s = true ↔ ValuesP s := by simp [valuesB]
theorem valuesB_false {s : List Bd} : valuesB s = false ↔ ¬ ValuesP s := by simp [valuesB]
theorem substB_true {s : List Bd} : substB s = true ↔ SubstP s := by simp [substB]
theorem substB_false {s : List Bd} : substB s = false ↔ ¬ SubstP s := by simp [substB]
theorem substP_nil : SubstP [] := ⟨⟨fun k x h => by simp at h, fun k x y h => by simp at h, by simp⟩, fun b hb => by simp at hb⟩

/-- All variables replaced at once. -/
def putN (s : List Bd) : Nat → Tm → Tm
  | 0, t => t
  | n + 1, t => if t.kind = 1 then (match getO s t.num with | some x => x | none => t) else if t.kind = 4 then .mk 4 0 ⟨#[]⟩ (t.args.map (putN s n)) else t
def putT (s : List Bd) (t : Tm) : Tm := putN s t.nodes t
theorem putN_stable (s : List Bd) : ∀ (n m : Nat) (t : Tm), t.nodes ≤ n → t.nodes ≤ m → putN s n t = putN s m t
  | 0, m, t, h, _ => by have := nodes_pos t; omega
  | n + 1, 0, t, _, h => by have := nodes_pos t; omega
  | n + 1, m + 1, t, h1, h2 => by
    rw [putN, putN]
    split
    · rfl
    · split
      · congr 1
        apply List.map_congr_left
        intro x hx
        obtain ⟨j, hj⟩ := List.getElem?_of_mem hx
        have := nodes_at hj
        rw [nodes_eq] at h1 h2
        exact putN_stable s n m x (by omega) (by omega)
      · rfl
theorem putT_var {s : List Bd} {t : Tm} (h : t.kind = 1) : putT s t = (match getO s t.num with | some x => x | none => t) := by
  obtain ⟨n, hn⟩ : ∃ n, t.nodes = n + 1 := ⟨t.nodes - 1, by have := nodes_pos t; omega⟩
  rw [putT, hn, putN, if_pos h]
theorem putT_pair {s : List Bd} {t : Tm} (h : t.kind = 4) : putT s t = .mk 4 0 ⟨#[]⟩ (t.args.map (putT s)) := by
  obtain ⟨n, hn⟩ : ∃ n, t.nodes = n + 1 := ⟨t.nodes - 1, by have := nodes_pos t; omega⟩
  rw [putT, hn, putN, if_neg (by omega), if_pos h]
  congr 1
  apply List.map_congr_left
  intro x hx
  obtain ⟨j, hj⟩ := List.getElem?_of_mem hx
  have := nodes_at hj
  rw [nodes_eq] at hn
  exact putN_stable s n x.nodes x (by omega) (Nat.le_refl _)
theorem putT_two {s : List Bd} {t x y : Tm} (h : t.kind = 4) (hl : t.args = [x, y]) : putT s t = .mk 4 0 ⟨#[]⟩ [putT s x, putT s y] := by rw [putT_pair h, hl]; rfl
theorem putT_atom {s : List Bd} {t : Tm} (h1 : ¬ t.kind = 1) (h4 : ¬ t.kind = 4) : putT s t = t := by
  obtain ⟨n, hn⟩ : ∃ n, t.nodes = n + 1 := ⟨t.nodes - 1, by have := nodes_pos t; omega⟩
  rw [putT, hn, putN, if_neg h1, if_neg h4]

/-! What a substitution makes of a term, and whether. -/
open Classical in
noncomputable def apB (s : List Bd) (t : Tm) : Bool := decide (SubstP s ∧ Ok t ∧ (putT s t).nodes ≤ 5000)
open Classical in
noncomputable def apT (s : List Bd) (t : Tm) : Tm := if SubstP s ∧ Ok t ∧ (putT s t).nodes ≤ 5000 then putT s t else zeroTm
open Classical in
theorem ap_yes {s : List Bd} {t : Tm} (h : SubstP s ∧ Ok t ∧ (putT s t).nodes ≤ 5000) : apT s t = putT s t ∧ apB s t = true := ⟨by rw [apT, if_pos h], by rw [apB, decide_eq_true h]⟩
open Classical in
theorem ap_no {s : List Bd} {t : Tm} (h : ¬ (SubstP s ∧ Ok t ∧ (putT s t).nodes ≤ 5000)) : apT s t = zeroTm ∧ apB s t = false := ⟨by rw [apT, if_neg h], by rw [apB, decide_eq_false h]⟩
/-! The To of a variable, where the list is a substitution. -/
open Classical in
noncomputable def luB (s : List Bd) (v : Int) : Bool := decide (getB s v = true ∧ SubstP s)
open Classical in
noncomputable def luT (s : List Bd) (v : Int) : Tm := if getB s v = true ∧ SubstP s then getT s v else zeroTm
open Classical in
theorem lu_yes {s : List Bd} {v : Int} (h : getB s v = true ∧ SubstP s) : luT s v = getT s v ∧ luB s v = true := ⟨by rw [luT, if_pos h], by rw [luB, decide_eq_true h]⟩
open Classical in
theorem lu_no {s : List Bd} {v : Int} (h : ¬ (getB s v = true ∧ SubstP s)) : luT s v = zeroTm ∧ luB s v = false := ⟨by rw [luT, if_neg h], by rw [luB, decide_eq_false h]⟩
theorem getT_sz {s : List Bd} (v : Int) (h : szB s ≤ 1048576) : (getT s v).sz ≤ 1048576 := by
  cases hg : getO s v with
  | none => rw [(get_no hg).1, zeroTm, Tm.sz, szL]; exact Nat.zero_le _
  | some t =>
    obtain ⟨b, hb, _, rfl⟩ := getO_some hg
    obtain ⟨j, hj⟩ := List.getElem?_of_mem hb
    rw [(get_yes hg).1]
    have := szB_at hj
    omega
theorem lu_sz {s : List Bd} (v : Int) (h : szB s ≤ 1048576) : (luT s v).sz ≤ 1048576 := by
  unfold luT
  split
  · exact getT_sz v h
  · rw [zeroTm, Tm.sz, szL]; exact Nat.zero_le _
end Go.Proofs.YtnbnepeikdieaaaGreatDoor

namespace Go.Proofs.YtnbnepeikdieaaaGreatDoor
open Go.RowKit
set_option linter.unusedVariables false
set_option linter.unusedSimpArgs false

theorem ArgsS.low {w : World} {S : Nat → Prop} {v : Value} {l : List Tm} (h : ArgsS w S v l) : ArgsS w (fun k => S k ∧ k < w.heap.size) v l := by
  induction h with
  | nil a cap => exact .nil a cap
  | row g off n cap V l hn hS hg hc hr ih => exact .row g off n cap V l hn ⟨hS, hg⟩ hg hc ih
/-- A term that lies where the list lies, and whether. -/
def Held2 (t : Tm) (b : Bool) (S : Nat → Prop) (w : World) (e : Ending) (w' : World) : Prop :=
  ∃ u, e = .returned (.tuple #[.agg #[.int .i64 t.kind, .int .i64 t.num, .string t.name, u], .bool b]) ∧ ArgsS w' S u t.args ∧ Below w.heap.size w w'

end Go.Proofs.YtnbnepeikdieaaaGreatDoor

namespace Go.Proofs.YtnbnepeikdieaaaGreatDoor
open Go.RowKit
set_option linter.unusedVariables false
set_option linter.unusedSimpArgs false

end Go.Proofs.YtnbnepeikdieaaaGreatDoor

namespace Go.Proofs.YtnbnepeikdieaaaGreatDoor
open Go.RowKit
set_option linter.unusedVariables false
set_option linter.unusedSimpArgs false

def inB (n : Int) : Bool := decide (0 ≤ n ∧ n ≤ 100000)
theorem inB_true {n : Int} : inB n = true ↔ 0 ≤ n ∧ n ≤ 100000 := by simp [inB]
/-- Right as far as k. -/
def VP (s : List Bd) (k : Nat) : Prop := (∀ (i : Nat) (x : Bd), i < k → s[i]? = some x → inB x.v = true ∧ okB x.t = true) ∧ ∀ (i : Nat) (x y : Bd), i + 1 < k → s[i]? = some x → s[i + 1]? = some y → x.v < y.v
theorem vp_end {s : List Bd} (h : VP s s.length) : valuesB s = decide ((s.length : Int) ≤ 400) := by
  by_cases hl : s.length ≤ 400
  · rw [decide_eq_true (by omega), valuesB_true]
    refine ⟨fun k x hx => ?_, fun k x y hx hy => h.2 k x y (List.getElem?_eq_some_iff.1 hy).1 hx hy, hl⟩
    have := h.1 k x (List.getElem?_eq_some_iff.1 hx).1 hx
    exact ⟨inB_true.1 this.1, okB_true.1 this.2⟩
  · rw [decide_eq_false (by omega), valuesB_false]
    exact fun hv => hl hv.2.2
theorem vp_bad {s : List Bd} {k : Nat} {x : Bd} (hx : s[k]? = some x) (h : inB x.v = false ∨ okB x.t = false) : valuesB s = false := by
  rw [valuesB_false]
  intro hv
  have := hv.1 k x hx
  rcases h with h | h
  · rw [inB_true.2 this.1] at h; cases h
  · rw [okB_true.2 this.2] at h; cases h
theorem vp_desc {s : List Bd} {j : Nat} {x y : Bd} (hx : s[j]? = some x) (hy : s[j + 1]? = some y) (h : ¬ x.v < y.v) : valuesB s = false := by
  rw [valuesB_false]
  exact fun hv => h (hv.2.1 j x y hx hy)
theorem vp_next {s : List Bd} {k : Nat} {x : Bd} (h : VP s k) (hx : s[k]? = some x) (hi : inB x.v = true) (ho : okB x.t = true) (hd : ∀ (j : Nat) (y : Bd), k = j + 1 → s[j]? = some y → y.v < x.v) : VP s (k + 1) := by
  refine ⟨fun i y hi' hy => ?_, fun i y z hi' hy hz => ?_⟩
  · by_cases e : i = k
    · subst e
      cases hy.symm.trans hx
      exact ⟨hi, ho⟩
    · exact h.1 i y (by omega) hy
  · by_cases e : i + 1 = k
    · have hz' : s[k]? = some z := by rw [← e]; exact hz
      cases hz'.symm.trans hx
      exact hd i y e.symm hy
    · exact h.2 i y z (by omega) hy hz

end Go.Proofs.YtnbnepeikdieaaaGreatDoor

namespace Go.Proofs.YtnbnepeikdieaaaGreatDoor
open Go.RowKit
set_option linter.unusedVariables false
set_option linter.unusedSimpArgs false

/-- One binding against the list. -/
def FreeP (s : List Bd) (b : Bd) : Prop := ¬ (b.t.kind = 1 ∧ b.v ≤ b.t.num) ∧ ∀ v ∈ b.t.vl, getO s v = none
theorem subst_of {s : List Bd} (hv : valuesB s = true) (h : ∀ (i : Nat) (b : Bd), i < s.length → s[i]? = some b → FreeP s b) : substB s = true := by
  rw [substB_true]
  refine ⟨valuesB_true.1 hv, fun b hb => ?_⟩
  obtain ⟨i, hi⟩ := List.getElem?_of_mem hb
  exact h i b (List.getElem?_eq_some_iff.1 hi).1 hi
theorem subst_not {s : List Bd} {i : Nat} {b : Bd} (hb : s[i]? = some b) (h : ¬ FreeP s b) : substB s = false := by
  rw [substB_false]
  exact fun hs => h (hs.2 b (List.mem_of_getElem? hb))
theorem subst_values {s : List Bd} (h : valuesB s = false) : substB s = false := by
  rw [substB_false]
  exact fun hs => valuesB_false.1 h hs.1
def allVars (t : Tm) : List Int := t.vl.foldl insAsc []
theorem allVars_mem {t : Tm} {v : Int} : v ∈ allVars t ↔ v ∈ t.vl := by
  have := (insL_spec t.vl [] List.Pairwise.nil).2 v
  rw [allVars, this]; simp
theorem allVars_len (t : Tm) : (allVars t).length ≤ t.nodes := by
  have h1 := insL_len t.vl []
  have h2 := vl_len t
  simp at h1
  unfold allVars
  omega

end Go.Proofs.YtnbnepeikdieaaaGreatDoor

namespace Go.Proofs.YtnbnepeikdieaaaGreatDoor
open Go.RowKit
set_option linter.unusedVariables false
set_option linter.unusedSimpArgs false

theorem putT_good {s : List Bd} (hs : ∀ b ∈ s, Good b.t) : ∀ (n : Nat) (t : Tm), t.nodes ≤ n → Good t → Good (putT s t)
  | 0, t, h, _ => by have := nodes_pos t; omega
  | n + 1, t, h, hg => by
    by_cases h1 : t.kind = 1
    · rw [putT_var h1]
      split
      · rename_i x hx
        obtain ⟨b, hb, _, rfl⟩ := getO_some hx
        exact hs b hb
      · exact hg
    · by_cases h4 : t.kind = 4
      · obtain ⟨x, y, hxy⟩ := hg.fit.pair h4
        have hn := nodes_args2 hxy
        have h2 := (good_two hg.fit hxy).1 hg
        rw [putT_two h4 hxy]
        exact .pair _ _ (putT_good hs n x (by omega) h2.1) (putT_good hs n y (by omega) h2.2)
      · rw [putT_atom h1 h4]; exact hg
theorem putT_nodes {s : List Bd} {M : Nat} (hM : 1 ≤ M) (hs : ∀ b ∈ s, b.t.nodes ≤ M) : ∀ (n : Nat) (t : Tm), t.nodes ≤ n → Good t → (putT s t).nodes ≤ M * t.nodes
  | 0, t, h, _ => by have := nodes_pos t; omega
  | n + 1, t, h, hg => by
    have hp := nodes_pos t
    by_cases h1 : t.kind = 1
    · rw [putT_var h1]
      split
      · rename_i x hx
        obtain ⟨b, hb, _, rfl⟩ := getO_some hx
        exact Nat.le_trans (hs b hb) (Nat.le_mul_of_pos_right _ hp)
      · exact Nat.le_mul_of_pos_left _ hM
    · by_cases h4 : t.kind = 4
      · obtain ⟨x, y, hxy⟩ := hg.fit.pair h4
        have hn := nodes_args2 hxy
        have h2 := (good_two hg.fit hxy).1 hg
        have e : (Tm.mk 4 0 ⟨#[]⟩ [putT s x, putT s y]).nodes = 1 + (putT s x).nodes + (putT s y).nodes := nodes_args2 rfl
        have a := putT_nodes hM hs n x (by omega) h2.1
        have b := putT_nodes hM hs n y (by omega) h2.2
        rw [putT_two h4 hxy, e, hn, Nat.mul_add, Nat.mul_add]
        omega
      · rw [putT_atom h1 h4]; exact Nat.le_mul_of_pos_left _ hM
theorem SubstP.good {s : List Bd} (h : SubstP s) : ∀ b ∈ s, Good b.t := fun b hb => by
  obtain ⟨i, hi⟩ := List.getElem?_of_mem hb
  exact (h.1.1 i b hi).2.2
theorem SubstP.nodes {s : List Bd} (h : SubstP s) : ∀ b ∈ s, b.t.nodes ≤ 5000 := fun b hb => by
  obtain ⟨i, hi⟩ := List.getElem?_of_mem hb
  exact (h.1.1 i b hi).2.1
theorem putT_fineV {s : List Bd} {t : Tm} (hs : ∀ b ∈ s, Ok b.t) (ht : Ok t) : Good (putT s t) ∧ (putT s t).nodes ≤ 25000000 ∧ (putT s t).sz ≤ 1099511627776 := by
  have h1 := putT_good (fun b hb => (hs b hb).2) t.nodes t (Nat.le_refl _) ht.2
  have h2 := putT_nodes (by decide) (fun b hb => (hs b hb).1) t.nodes t (Nat.le_refl _) ht.2
  have h3 : 5000 * t.nodes ≤ 5000 * 5000 := Nat.mul_le_mul_left _ ht.1
  have h4 := good_sz h1
  exact ⟨h1, by omega, by omega⟩
theorem putT_fine {s : List Bd} {t : Tm} (hs : SubstP s) (ht : Ok t) : Good (putT s t) ∧ (putT s t).nodes ≤ 25000000 ∧ (putT s t).sz ≤ 1099511627776 :=
  putT_fineV (fun b hb => ⟨hs.nodes b hb, hs.good b hb⟩) ht

/-- A term, shared with what was there, and whether. -/
def OldS2 (S : Nat → Prop) (t : Tm) (b : Bool) (w : World) (e : Ending) (w' : World) : Prop :=
  ∃ u, e = .returned (.tuple #[.agg #[.int .i64 t.kind, .int .i64 t.num, .string t.name, u], .bool b]) ∧ ArgsS w' (fun k => S k ∨ (w.heap.size ≤ k ∧ k < w'.heap.size)) u t.args ∧ Below w.heap.size w w'
/-- The return of a struct of four cells that lies in the result's variable, and of a second result. -/
theorem bodyPost_row2 {P : Program} {fn : Func} {R : Ending → World → Prop} {a : Act} {w : World} {p q : Tmp} {ty e : TypeId} {b : Nat} {y0 y1 y2 y3 z : Value} {d : TypeDesc} (h : fn.results = #[.cell p ty, .tmp q]) (hp : a.tmps.getD p undef = .pointer (some ⟨b, 0, none⟩)) (hq : a.tmps.getD q undef = z) (hd : a.defers = [])
    (hu : P.underlying ty = some d) (hdd : (match d with | .struct _ | .array _ _ => true | _ => false) = true) (hi : (P.info? ty).map (·.size) = some 4) (hb : w.heap[b]? = some (Obj.cells #[y0, y1, y2, y3] e))
    (hR : R (.returned (.tuple #[.agg #[y0, y1, y2, y3], z])) w) : bodyPost P fn R .ret a w := by
  subst hq
  exact bodyPost_ret (results_cell_row2 h _ _ b e #[y0, y1, y2, y3] (0, 0) d hp hb hu hdd hi) hd hR
theorem only_store4 {w W : World} {b : Nat} (h : Only (fun k => k = b) w W) (y0 y1 y2 y3 : Value) : Only (fun k => k = b) w ((((W.setCell ⟨b, 0, none⟩ y0).setCell ⟨b, 1, none⟩ y1).setCell ⟨b, 2, none⟩ y2).setCell ⟨b, 3, none⟩ y3) := by
  have one : ∀ (W : World) (j : Nat) (u : Value), Only (fun k => k = b) W (W.setCell ⟨b, j, none⟩ u) := fun W j u => ⟨rfl, rfl, rfl, by simp, fun k _ hk => Below.heap_setCell _ _ _ _ hk⟩
  exact (((h.trans (one _ _ _)).trans (one _ _ _)).trans (one _ _ _)).trans (one _ _ _)
theorem fits_dec {n : Nat} : decide (n ≤ 5000) = true ∨ decide (n ≤ 5000) = false := by cases decide (n ≤ 5000) <;> simp

end Go.Proofs.YtnbnepeikdieaaaGreatDoor

namespace Go.Proofs.YtnbnepeikdieaaaGreatDoor
open Go.RowKit
set_option linter.unusedVariables false
set_option linter.unusedSimpArgs false

theorem ListS.lowB {w : World} {S : Nat → Prop} {V : Value} {s : List Bd} (h : ListS bdE w S V s) : ListS bdE w (fun k => k < w.heap.size) V s := by
  cases h with
  | nil a cap => exact .nil a cap
  | row g off n cap L l' hl hn hS hg hc hr => exact .row g off n cap L _ hl hn hg hg hc fun j p hj => (show ArgsS w S p.2 p.1.t.args from hr j p hj).low.sub fun k hk => hk.2

end Go.Proofs.YtnbnepeikdieaaaGreatDoor

namespace Go.Proofs.YtnbnepeikdieaaaGreatDoor
open Go.RowKit
set_option linter.unusedVariables false
set_option linter.unusedSimpArgs false

/-- The answer is a list that can be read. -/
def OldB (l : List Bd) (w : World) (e : Ending) (w' : World) : Prop := ∃ v, e = .returned v ∧ ListS bdE w' Any v l ∧ Below w.heap.size w w'
theorem rowK_start {α : Type} {E : El α} {e : TypeId} {w : World} : RowK E e (w.alloc (.cells #[] e)) w.heap.size (.slice (some ⟨w.heap.size, 0, none⟩) 0 0) [] :=
  ⟨[], rfl, ⟨by simp [cellsE], .inr ⟨w.heap.size, 0, #[], rfl, Nat.le_refl _, heap_new w _, Nat.le_refl _, Nat.zero_le _, by simp, by simp [cellsE]⟩⟩, fun j p hj => by simp at hj⟩
theorem rowK_block {α : Type} {E : El α} {e : TypeId} {w : World} {lo : Nat} {v : Value} {xs : List α} (h : RowK E e w lo v xs) : ∀ k, v.ownBlock = some k → lo ≤ k ∧ k < w.heap.size := by
  obtain ⟨L, _, hrow, _⟩ := h
  exact fun k hk => World.ownsRow.lt hrow k hk

/-- The bindings of some variables. -/
def keep (s : List Bd) (vs : List Int) : List Bd := s.filter fun b => decide (b.v ∈ vs)
open Classical in
noncomputable def rsB (s : List Bd) (vs : List Int) : List Bd := if SubstP s then keep s vs else []
open Classical in
theorem rs_yes {s : List Bd} {vs : List Int} (h : SubstP s) : rsB s vs = keep s vs := by rw [rsB, if_pos h]
open Classical in
theorem rs_no {s : List Bd} {vs : List Int} (h : ¬ SubstP s) : rsB s vs = [] := by rw [rsB, if_neg h]
theorem keep_each {s : List Bd} {vs : List Int} (h : EachB s) : EachB (keep s vs) := ⟨Nat.le_trans (List.length_filter_le _ _) h.1, fun b hb => h.2 b (List.mem_filter.1 hb).1⟩
theorem keep_yes {s : List Bd} {vs : List Int} {k : Nat} {x : Bd} (hx : s[k]? = some x) (h : decide (x.v ∈ vs) = true) : keep (s.take (k + 1)) vs = keep (s.take k) vs ++ [x] := by
  rw [keep, takeE hx, List.filter_append]
  simp only [keep, List.filter_cons, h, List.filter_nil, if_true]
theorem keep_not {s : List Bd} {vs : List Int} {k : Nat} {x : Bd} (hx : s[k]? = some x) (h : decide (x.v ∈ vs) = false) : keep (s.take (k + 1)) vs = keep (s.take k) vs := by
  rw [keep, takeE hx, List.filter_append]
  simp [keep, List.filter_cons, h]
theorem keep_len (s : List Bd) (vs : List Int) (k : Nat) : (keep (s.take k) vs).length ≤ s.length := Nat.le_trans (List.length_filter_le _ _) (by rw [List.length_take]; omega)

end Go.Proofs.YtnbnepeikdieaaaGreatDoor

