/-
  How often a variable occurs: the contracts of l02Occurs, OccursIn (model), occurrences, OccursIn (program).
  The program's head, tail, isPair of a term: their contracts.
  The order of terms: plain; the library's Compare at int and at string, Or of three; the model's sign.
  The order of terms: the contracts of the program's compare and of the model's l02Cmp, and of CompareTerms on both sides.
  The order of terms: the contract of the model's l02Cmp; CompareTerms on both sides.
-/
import Derived.Test.YtnbnepeikdieaaaDoorFits
import Derived.WalkLawsBesides
namespace Go.Proofs.YtnbnepeikdieaaaDoor
open Go.RowKit
set_option linter.unusedVariables false

mutual
def Tm.occ (v : Int) : Tm → Nat | .mk k i _ l => if k = 1 ∧ i = v then 1 else occL v l
def occL (v : Int) : List Tm → Nat | [] => 0 | t :: l => t.occ v + occL v l
end
theorem occ_eq (v : Int) (t : Tm) : t.occ v = if t.kind = 1 ∧ t.num = v then 1 else occL v t.args := by cases t; rw [Tm.occ]; rfl
theorem occL_nil (v : Int) : occL v [] = 0 := by rw [occL]
theorem occL_append (v : Int) (a b : List Tm) : occL v (a ++ b) = occL v a + occL v b := by
  induction a with
  | nil => simp [occL]
  | cons t l ih => simp only [List.cons_append, occL, ih]; omega
theorem occ_take (v : Int) {l : List Tm} {j : Nat} {t : Tm} (h : l[j]? = some t) : occL v (l.take (j + 1)) = occL v (l.take j) + t.occ v := by
  rw [take_snoc h, occL_append]; simp [occL]
mutual
theorem occ_nodes (v : Int) : ∀ t : Tm, t.occ v ≤ t.nodes
  | .mk k i _ l => by rw [Tm.occ, Tm.nodes]; have := occL_nodes v l; split <;> omega
theorem occL_nodes (v : Int) : ∀ l : List Tm, occL v l ≤ nodesL l
  | [] => by rw [occL]; omega
  | t :: l => by rw [occL, nodesL]; have := occ_nodes v t; have := occL_nodes v l; omega
end
theorem occ_take_le' (v : Int) (l : List Tm) (j : Nat) : occL v (l.take j) ≤ occL v l := by
  conv => rhs; rw [← List.take_append_drop j l]
  rw [occL_append]; omega
theorem occ_take_le (v : Int) (l : List Tm) (j : Nat) : occL v (l.take j) ≤ nodesL l := by have := occL_nodes v (l.take j); have := nodes_take_le l j; omega

noncomputable def occB (v : Int) (t : Tm) : Bool := okB t && decide (0 < t.occ v)

theorem fit_var {t : Tm} (h : Fit t) (h1 : t.kind = 1) : t.args = [] := by
  rcases h with ⟨h, _⟩ | ⟨_, _, _, h⟩ | ⟨h, _⟩ | ⟨h, _⟩ | ⟨h, _⟩
  · rw [h1] at h; cases h
  · exact h
  · rw [h1] at h; cases h
  · rw [h1] at h; cases h
  · rw [h1] at h; cases h

end Go.Proofs.YtnbnepeikdieaaaDoor

namespace Go.Proofs.YtnbnepeikdieaaaDoor
open Go.RowKit
set_option linter.unusedVariables false
set_option linter.unusedSimpArgs false

set_option maxHeartbeats 400000 in
theorem isPair_any (k i : Int) (s : ByteArray) (V : Value) (w : World) :
    Calls Tryd.prog 59 #[.agg #[.int .i64 k, .int .i64 i, .string s, V]] w fun e w' => e = .returned (.bool (decide (k = 4))) ∧ Below w.heap.size w w' := by
  by_cases h : k = 4
  · subst h
    go_enter Tryd.func59, Tryd.ntmps59
    go_wp2
    go_ret
    exact ⟨by simp, (Below.refl _ _).alloc (Nat.le_refl _) _⟩
  · go_enter Tryd.func59, Tryd.ntmps59
    go_wp2
    go_ret
    exact ⟨by simp [h], (Below.refl _ _).alloc (Nat.le_refl _) _⟩

set_option maxHeartbeats 400000 in
theorem head_any (k i : Int) (s : ByteArray) (g off n cap : Nat) (x0 x1 : Int) (x2 : ByteArray) (u1 : Option Addr) (u2 u3 : Nat) (w : World) (hg : g < w.heap.size) (hn : 0 < n) (hm : n ≤ 1048576)
    (c0 : w.cell? ⟨g, off, none⟩ = some (.int .i64 x0)) (c1 : w.cell? ⟨g, off + 1, none⟩ = some (.int .i64 x1)) (c2 : w.cell? ⟨g, off + 2, none⟩ = some (.string x2)) (c3 : w.cell? ⟨g, off + 3, none⟩ = some (.slice u1 u2 u3)) :
    Calls Tryd.prog 62 #[.agg #[.int .i64 k, .int .i64 i, .string s, .slice (some ⟨g, off, none⟩) n cap]] w fun e w' => e = .returned (.agg #[.int .i64 x0, .int .i64 x1, .string x2, .slice u1 u2 u3]) ∧ Below w.heap.size w w' := by
  go_enter Tryd.func62, Tryd.ntmps62
  go_wp2
  exact bodyPost_ret (v := .agg #[.int .i64 x0, .int .i64 x1, .string x2, .slice u1 u2 u3]) (by simp [results, Tryd.results62, go_sem]) rfl ⟨rfl, ((Below.refl _ _).alloc (Nat.le_refl _) _).alloc (by simp) _⟩

set_option maxHeartbeats 400000 in
theorem tail_any (k i : Int) (s : ByteArray) (g off n cap : Nat) (x0 x1 : Int) (x2 : ByteArray) (u1 : Option Addr) (u2 u3 : Nat) (w : World) (hg : g < w.heap.size) (hn : 1 < n) (hm : n ≤ 1048576)
    (c0 : w.cell? ⟨g, off + 4, none⟩ = some (.int .i64 x0)) (c1 : w.cell? ⟨g, off + 4 + 1, none⟩ = some (.int .i64 x1)) (c2 : w.cell? ⟨g, off + 4 + 2, none⟩ = some (.string x2)) (c3 : w.cell? ⟨g, off + 4 + 3, none⟩ = some (.slice u1 u2 u3)) :
    Calls Tryd.prog 63 #[.agg #[.int .i64 k, .int .i64 i, .string s, .slice (some ⟨g, off, none⟩) n cap]] w fun e w' => e = .returned (.agg #[.int .i64 x0, .int .i64 x1, .string x2, .slice u1 u2 u3]) ∧ Below w.heap.size w w' := by
  go_enter Tryd.func63, Tryd.ntmps63
  go_wp2
  exact bodyPost_ret (v := .agg #[.int .i64 x0, .int .i64 x1, .string x2, .slice u1 u2 u3]) (by simp [results, Tryd.results63, go_sem]) rfl ⟨rfl, ((Below.refl _ _).alloc (Nat.le_refl _) _).alloc (by simp) _⟩
end Go.Proofs.YtnbnepeikdieaaaDoor

namespace Go.Proofs.YtnbnepeikdieaaaDoor
open Go.RowKit
set_option linter.unusedVariables false

theorem bytesLess_irrefl : ∀ l : List UInt8, Op.bytesLess l l = false
  | [] => by simp [Op.bytesLess]
  | a :: l => by simp [Op.bytesLess, bytesLess_irrefl l]
theorem toList_inj {a b : ByteArray} (h : a.toList = b.toList) : a = b := by
  rw [Lib.toList_data, Lib.toList_data] at h
  exact ByteArray.ext (Array.toList_inj.1 h)

def cmpI (a b : Int) : Int := if a < b then -1 else if b < a then 1 else 0
def cmpS (a b : ByteArray) : Int := if a = b then 0 else if Op.bytesLess a.toList b.toList = true then -1 else 1
def or3 (x y z : Int) : Int := if ¬ x = 0 then x else if ¬ y = 0 then y else z
theorem cmpI_bd (a b : Int) : -1 ≤ cmpI a b ∧ cmpI a b ≤ 1 := by unfold cmpI; split <;> (try split) <;> omega
theorem cmpS_bd (a b : ByteArray) : -1 ≤ cmpS a b ∧ cmpS a b ≤ 1 := by unfold cmpS; split <;> (try split) <;> omega

mutual
def Tm.cmp : Tm → Tm → Int
  | .mk k i s l, u => if ¬ or3 (cmpI k u.kind) (cmpI i u.num) (cmpS s u.name) = 0 then or3 (cmpI k u.kind) (cmpI i u.num) (cmpS s u.name) else cmpL l u.args
def cmpL : List Tm → List Tm → Int
  | [], _ => 0
  | _ :: _, [] => 0
  | t :: l, u :: m => if ¬ t.cmp u = 0 then t.cmp u else cmpL l m
end
def cmpN (t u : Tm) : Int := or3 (cmpI t.kind u.kind) (cmpI t.num u.num) (cmpS t.name u.name)
theorem cmp_eq (t u : Tm) : t.cmp u = if ¬ cmpN t u = 0 then cmpN t u else cmpL t.args u.args := by cases t; rw [Tm.cmp]; rfl
theorem cmpN_bd (t u : Tm) : -1 ≤ cmpN t u ∧ cmpN t u ≤ 1 := by
  have h1 := cmpI_bd t.kind u.kind
  have h2 := cmpI_bd t.num u.num
  have h3 := cmpS_bd t.name u.name
  unfold cmpN or3
  split <;> (try split) <;> omega
mutual
theorem cmp_bd : ∀ t u : Tm, -1 ≤ t.cmp u ∧ t.cmp u ≤ 1
  | .mk k i s l, u => by
    rw [cmp_eq]
    have := cmpN_bd (.mk k i s l) u
    have := cmpL_bd l u.args
    split
    · omega
    · exact this
theorem cmpL_bd : ∀ l m : List Tm, -1 ≤ cmpL l m ∧ cmpL l m ≤ 1
  | [], m => by rw [cmpL]; omega
  | _ :: _, [] => by rw [cmpL]; omega
  | t :: l, u :: m => by
    rw [cmpL]
    have := cmp_bd t u
    have := cmpL_bd l m
    split <;> omega
end

end Go.Proofs.YtnbnepeikdieaaaDoor

namespace Go.Proofs.YtnbnepeikdieaaaDoor
open Go.RowKit
set_option linter.unusedVariables false
set_option linter.unusedSimpArgs false

theorem belowAlloc {w w' : World} (h : Below w.heap.size w w') (o : Obj) : Below w.heap.size w (w'.alloc o) := h.alloc h.size o
theorem cmp_of_num {t u : Tm} (h : ¬ cmpN t u = 0) : t.cmp u = cmpN t u := by rw [cmp_eq, if_pos h]
theorem cmp_of_args {t u : Tm} (h : cmpN t u = 0) : t.cmp u = cmpL t.args u.args := by rw [cmp_eq, if_neg (by omega)]
theorem cmpL_one {t u : Tm} {l m : List Tm} (h : ¬ t.cmp u = 0) : cmpL (t :: l) (u :: m) = t.cmp u := by rw [cmpL, if_pos h]
theorem cmpL_two {t u : Tm} {l m : List Tm} (h : t.cmp u = 0) : cmpL (t :: l) (u :: m) = cmpL l m := by rw [cmpL, if_neg (by omega)]
theorem cmpL_last {t u : Tm} : cmpL [t] [u] = t.cmp u := by
  rw [cmpL]
  split
  · rfl
  · rw [cmpL]; omega
theorem cmpN_kind {t u : Tm} (h : cmpN t u = 0) : t.kind = u.kind := by
  unfold cmpN or3 at h
  have : cmpI t.kind u.kind = 0 := by
    by_cases h1 : cmpI t.kind u.kind = 0
    · exact h1
    · rw [if_pos h1] at h; exact h
  unfold cmpI at this
  split at this
  · omega
  · split at this <;> omega
theorem Fit.pair {t : Tm} (h : Fit t) (hk : t.kind = 4) : ∃ a b, t.args = [a, b] := by
  rcases h with ⟨h, _⟩ | ⟨h, _⟩ | ⟨h, _⟩ | ⟨h, _⟩ | ⟨_, _, _, h⟩
  · rw [hk] at h; cases h
  · rw [hk] at h; cases h
  · rw [hk] at h; cases h
  · rw [hk] at h; cases h
  · exact two_of h
theorem Fit.atom {t : Tm} (h : Fit t) (hk : ¬ t.kind = 4) : t.args = [] := by
  rcases h with ⟨_, _, _, h⟩ | ⟨_, _, _, h⟩ | ⟨_, _, _, h⟩ | ⟨_, _, _, h⟩ | ⟨h, _⟩
  · exact h
  · exact h
  · exact h
  · exact h
  · exact absurd h hk
/-- A pair's two parts, where they lie. -/
theorem ArgsAt.two {w : World} {a : Option Addr} {n cap : Nat} {l : List Tm} {x y : Tm} (h : ArgsAt w (.slice a n cap) l) (hl : l = [x, y]) :
    ∃ g off u1 u2 v1 v2, a = some ⟨g, off, none⟩ ∧ g < w.heap.size ∧ n = 2 ∧
      (∀ W, Below w.heap.size w W → W.cell? ⟨g, off, none⟩ = some (.int .i64 x.kind) ∧ W.cell? ⟨g, off + 1, none⟩ = some (.int .i64 x.num) ∧ W.cell? ⟨g, off + 2, none⟩ = some (.string x.name) ∧ W.cell? ⟨g, off + 3, none⟩ = some (.slice u1 x.args.length u2)) ∧
      (∀ W, Below w.heap.size w W → W.cell? ⟨g, off + 4, none⟩ = some (.int .i64 y.kind) ∧ W.cell? ⟨g, off + 4 + 1, none⟩ = some (.int .i64 y.num) ∧ W.cell? ⟨g, off + 4 + 2, none⟩ = some (.string y.name) ∧ W.cell? ⟨g, off + 4 + 3, none⟩ = some (.slice v1 y.args.length v2)) ∧
      ArgsAt w (.slice u1 x.args.length u2) x.args ∧ ArgsAt w (.slice v1 y.args.length v2) y.args := by
  obtain ⟨g, off, u1, u2, rfl, hg, hn, hc, hx⟩ := h.elem (k := 0) (x := x) (by rw [hl]; rfl)
  obtain ⟨g', off', v1, v2, he, hg', hn', hc', hy⟩ := h.elem (k := 1) (x := y) (by rw [hl]; rfl)
  simp only [Option.some.injEq, Addr.mk.injEq, and_true] at he
  obtain ⟨rfl, rfl⟩ := he
  refine ⟨g, off, u1, u2, v1, v2, rfl, hg, by rw [hn, hl]; rfl, fun W hW => ?_, fun W hW => ?_, hx, hy⟩
  · have := hc W hW
    simpa using this
  · have := hc' W hW
    simpa using this

end Go.Proofs.YtnbnepeikdieaaaDoor

namespace Go.Proofs.YtnbnepeikdieaaaDoor
open Go.RowKit
set_option linter.unusedVariables false
set_option linter.unusedSimpArgs false

theorem cmpI_ne {x y : Int} (h : ¬ x = y) : cmpI x y = (if decide (x < y) = true then -1 else 1) := by
  unfold cmpI
  by_cases h1 : x < y
  · simp [h1]
  · have h2 : y < x := by omega
    simp [h1, h2]
theorem cmpI_self (x : Int) : cmpI x x = 0 := by unfold cmpI; split <;> (try split) <;> omega
theorem cmpS_self (x : ByteArray) : cmpS x x = 0 := by unfold cmpS; rw [if_pos rfl]
theorem cmpS_ne {x y : ByteArray} (h : ¬ x = y) : cmpS x y = (if Op.bytesLess x.toList y.toList = true then -1 else 1) := by unfold cmpS; rw [if_neg h]
theorem pm_ne {b : Bool} : ¬ (if b = true then (-1 : Int) else 1) = 0 := by cases b <;> simp
theorem cmp_by_kind {a b : Tm} (h : ¬ a.kind = b.kind) : a.cmp b = (if decide (a.kind < b.kind) = true then -1 else 1) := by
  have e : cmpN a b = (if decide (a.kind < b.kind) = true then -1 else 1) := by unfold cmpN or3; rw [cmpI_ne h, if_pos pm_ne]
  rw [cmp_of_num (by rw [e]; exact pm_ne), e]
theorem cmp_by_num {a b : Tm} (h0 : a.kind = b.kind) (h : ¬ a.num = b.num) : a.cmp b = (if decide (a.num < b.num) = true then -1 else 1) := by
  have e : cmpN a b = (if decide (a.num < b.num) = true then -1 else 1) := by unfold cmpN or3; rw [h0, cmpI_self, if_neg (by simp), cmpI_ne h, if_pos pm_ne]
  rw [cmp_of_num (by rw [e]; exact pm_ne), e]
theorem cmp_by_name {a b : Tm} (h0 : a.kind = b.kind) (h1 : a.num = b.num) (h : ¬ a.name = b.name) : a.cmp b = (if Op.bytesLess a.name.toList b.name.toList = true then -1 else 1) := by
  have e : cmpN a b = (if Op.bytesLess a.name.toList b.name.toList = true then -1 else 1) := by unfold cmpN or3; rw [h0, h1, cmpI_self, if_neg (by simp), cmpI_self, if_neg (by simp), cmpS_ne h]
  rw [cmp_of_num (by rw [e]; exact pm_ne), e]
theorem cmp_by_args {a b : Tm} (h0 : a.kind = b.kind) (h1 : a.num = b.num) (h2 : a.name = b.name) : a.cmp b = cmpL a.args b.args :=
  cmp_of_args (by unfold cmpN or3; rw [h0, h1, h2, cmpI_self, if_neg (by simp), cmpI_self, if_neg (by simp), cmpS_self])
theorem cmpL_drop {l m : List Tm} {k : Nat} {x y : Tm} (hx : l[k]? = some x) (hy : m[k]? = some y) : cmpL (l.drop k) (m.drop k) = if ¬ x.cmp y = 0 then x.cmp y else cmpL (l.drop (k + 1)) (m.drop (k + 1)) := by
  obtain ⟨h1, rfl⟩ := List.getElem?_eq_some_iff.1 hx
  obtain ⟨h2, rfl⟩ := List.getElem?_eq_some_iff.1 hy
  rw [List.drop_eq_getElem_cons h1, List.drop_eq_getElem_cons h2, cmpL]
theorem cmpL_end {l m : List Tm} {k : Nat} (h : l.length ≤ k ∨ m.length ≤ k) : cmpL (l.drop k) (m.drop k) = 0 := by
  rcases h with h | h
  · rw [List.drop_of_length_le h, cmpL]
  · rw [List.drop_of_length_le h]
    cases l.drop k with
    | nil => rw [cmpL]
    | cons x l => rw [cmpL]

noncomputable def cmpOf (a b : Tm) : Int := if (okB a && okB b) = true then a.cmp b else 2

end Go.Proofs.YtnbnepeikdieaaaDoor

