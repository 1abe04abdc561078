/-
  How often a variable occurs: the contracts of l02Occurs, OccursIn (model), occurrences, OccursIn (program).
  The program's head, tail, isPair of a term: their contracts.
  The order of terms: plain; the library's Compare at int and at string, Or of three; the model's sign.
  The order of terms: the contracts of the program's compare and of the model's l02Cmp, and of CompareTerms on both sides.
  The order of terms: the contract of the model's l02Cmp; CompareTerms on both sides.
-/
import Derived.Test.YtnmdnajbafpfiaaFits
import Derived.WalkLawsBesides
namespace Go.Proofs.Ytnmdnajbafpfiaa
open Go.RowKit
set_option linter.unusedVariables false

mutual
def Tm.occ (v : Int) : Tm → Nat | .mk k i _ l => if k = 1 ∧ i = v then 1 else occL v l
def occL (v : Int) : List Tm → Nat | [] => 0 | t :: l => t.occ v + occL v l
end
theorem occ_eq (v : Int) (t : Tm) : t.occ v = if t.kind = 1 ∧ t.num = v then 1 else occL v t.args := by cases t; rw [Tm.occ]; rfl
theorem occL_nil (v : Int) : occL v [] = 0 := by rw [occL]
theorem occL_append (v : Int) (a b : List Tm) : occL v (a ++ b) = occL v a + occL v b := by
  induction a with
  | nil => simp [occL]
  | cons t l ih => simp only [List.cons_append, occL, ih]; omega
theorem occ_take (v : Int) {l : List Tm} {j : Nat} {t : Tm} (h : l[j]? = some t) : occL v (l.take (j + 1)) = occL v (l.take j) + t.occ v := by
  rw [take_snoc h, occL_append]; simp [occL]
mutual
theorem occ_nodes (v : Int) : ∀ t : Tm, t.occ v ≤ t.nodes
  | .mk k i _ l => by rw [Tm.occ, Tm.nodes]; have := occL_nodes v l; split <;> omega
theorem occL_nodes (v : Int) : ∀ l : List Tm, occL v l ≤ nodesL l
  | [] => by rw [occL]; omega
  | t :: l => by rw [occL, nodesL]; have := occ_nodes v t; have := occL_nodes v l; omega
end
theorem occ_take_le' (v : Int) (l : List Tm) (j : Nat) : occL v (l.take j) ≤ occL v l := by
  conv => rhs; rw [← List.take_append_drop j l]
  rw [occL_append]; omega
theorem occ_take_le (v : Int) (l : List Tm) (j : Nat) : occL v (l.take j) ≤ nodesL l := by have := occL_nodes v (l.take j); have := nodes_take_le l j; omega

noncomputable def occB (v : Int) (t : Tm) : Bool := okB t && decide (0 < t.occ v)

theorem fit_var {t : Tm} (h : Fit t) (h1 : t.kind = 1) : t.args = [] := by
  rcases h with ⟨h, _⟩ | ⟨_, _, _, h⟩ | ⟨h, _⟩ | ⟨h, _⟩ | ⟨h, _⟩
  · rw [h1] at h; cases h
  · exact h
  · rw [h1] at h; cases h
  · rw [h1] at h; cases h
  · rw [h1] at h; cases h

end Go.Proofs.Ytnmdnajbafpfiaa

namespace Go.Proofs.Ytnmdnajbafpfiaa
open Go.RowKit
set_option linter.unusedVariables false
set_option linter.unusedSimpArgs false

set_option maxHeartbeats 400000 in
theorem isPair_any (k i : Int) (s : ByteArray) (V : Value) (w : World) :
    Calls Try.prog 92 #[.agg #[.int .i64 k, .int .i64 i, .string s, V]] w fun e w' => e = .returned (.bool (decide (k = 4))) ∧ Below w.heap.size w w' := by
  by_cases h : k = 4
  · subst h
    go_enter Try.func92, Try.ntmps92
    go_wp2
    go_ret
    exact ⟨by simp, (Below.refl _ _).alloc (Nat.le_refl _) _⟩
  · go_enter Try.func92, Try.ntmps92
    go_wp2
    go_ret
    exact ⟨by simp [h], (Below.refl _ _).alloc (Nat.le_refl _) _⟩

set_option maxHeartbeats 400000 in
theorem head_any (k i : Int) (s : ByteArray) (g off n cap : Nat) (x0 x1 : Int) (x2 : ByteArray) (u1 : Option Addr) (u2 u3 : Nat) (w : World) (hg : g < w.heap.size) (hn : 0 < n) (hm : n ≤ 1048576)
    (c0 : w.cell? ⟨g, off, none⟩ = some (.int .i64 x0)) (c1 : w.cell? ⟨g, off + 1, none⟩ = some (.int .i64 x1)) (c2 : w.cell? ⟨g, off + 2, none⟩ = some (.string x2)) (c3 : w.cell? ⟨g, off + 3, none⟩ = some (.slice u1 u2 u3)) :
    Calls Try.prog 94 #[.agg #[.int .i64 k, .int .i64 i, .string s, .slice (some ⟨g, off, none⟩) n cap]] w fun e w' => e = .returned (.agg #[.int .i64 x0, .int .i64 x1, .string x2, .slice u1 u2 u3]) ∧ Below w.heap.size w w' := by
  go_enter Try.func94, Try.ntmps94
  go_wp2
  exact bodyPost_ret (v := .agg #[.int .i64 x0, .int .i64 x1, .string x2, .slice u1 u2 u3]) (by simp [results, Try.results94, go_sem]) rfl ⟨rfl, ((Below.refl _ _).alloc (Nat.le_refl _) _).alloc (by simp) _⟩

set_option maxHeartbeats 400000 in
theorem tail_any (k i : Int) (s : ByteArray) (g off n cap : Nat) (x0 x1 : Int) (x2 : ByteArray) (u1 : Option Addr) (u2 u3 : Nat) (w : World) (hg : g < w.heap.size) (hn : 1 < n) (hm : n ≤ 1048576)
    (c0 : w.cell? ⟨g, off + 4, none⟩ = some (.int .i64 x0)) (c1 : w.cell? ⟨g, off + 4 + 1, none⟩ = some (.int .i64 x1)) (c2 : w.cell? ⟨g, off + 4 + 2, none⟩ = some (.string x2)) (c3 : w.cell? ⟨g, off + 4 + 3, none⟩ = some (.slice u1 u2 u3)) :
    Calls Try.prog 95 #[.agg #[.int .i64 k, .int .i64 i, .string s, .slice (some ⟨g, off, none⟩) n cap]] w fun e w' => e = .returned (.agg #[.int .i64 x0, .int .i64 x1, .string x2, .slice u1 u2 u3]) ∧ Below w.heap.size w w' := by
  go_enter Try.func95, Try.ntmps95
  go_wp2
  exact bodyPost_ret (v := .agg #[.int .i64 x0, .int .i64 x1, .string x2, .slice u1 u2 u3]) (by simp [results, Try.results95, go_sem]) rfl ⟨rfl, ((Below.refl _ _).alloc (Nat.le_refl _) _).alloc (by simp) _⟩
end Go.Proofs.Ytnmdnajbafpfiaa

namespace Go.Proofs.Ytnmdnajbafpfiaa
open Go.RowKit
set_option linter.unusedVariables false

theorem bytesLess_irrefl : ∀ l : List UInt8, Op.bytesLess l l = false
  | [] => by simp [Op.bytesLess]
  | a :: l => by simp [Op.bytesLess, bytesLess_irrefl l]
theorem toList_inj {a b : ByteArray} (h : a.toList = b.toList) : a = b := by
  rw [Lib.toList_data, Lib.toList_data] at h
  exact ByteArray.ext (Array.toList_inj.1 h)

def cmpI (a b : Int) : Int := if a < b then -1 else if b < a then 1 else 0
def cmpS (a b : ByteArray) : Int := if a = b then 0 else if Op.bytesLess a.toList b.toList = true then -1 else 1
def or3 (x y z : Int) : Int := if ¬ x = 0 then x else if ¬ y = 0 then y else z
theorem cmpI_bd (a b : Int) : -1 ≤ cmpI a b ∧ cmpI a b ≤ 1 := by unfold cmpI; split <;> (try split) <;> omega
theorem cmpS_bd (a b : ByteArray) : -1 ≤ cmpS a b ∧ cmpS a b ≤ 1 := by unfold cmpS; split <;> (try split) <;> omega

mutual
def Tm.cmp : Tm → Tm → Int
  | .mk k i s l, u => if ¬ or3 (cmpI k u.kind) (cmpI i u.num) (cmpS s u.name) = 0 then or3 (cmpI k u.kind) (cmpI i u.num) (cmpS s u.name) else cmpL l u.args
def cmpL : List Tm → List Tm → Int
  | [], _ => 0
  | _ :: _, [] => 0
  | t :: l, u :: m => if ¬ t.cmp u = 0 then t.cmp u else cmpL l m
end
def cmpN (t u : Tm) : Int := or3 (cmpI t.kind u.kind) (cmpI t.num u.num) (cmpS t.name u.name)
theorem cmp_eq (t u : Tm) : t.cmp u = if ¬ cmpN t u = 0 then cmpN t u else cmpL t.args u.args := by cases t; rw [Tm.cmp]; rfl
theorem cmpN_bd (t u : Tm) : -1 ≤ cmpN t u ∧ cmpN t u ≤ 1 := by
  have h1 := cmpI_bd t.kind u.kind
  have h2 := cmpI_bd t.num u.num
  have h3 := cmpS_bd t.name u.name
  unfold cmpN or3
  split <;> (try split) <;> omega
mutual
theorem cmp_bd : ∀ t u : Tm, -1 ≤ t.cmp u ∧ t.cmp u ≤ 1
  | .mk k i s l, u => by
    rw [cmp_eq]
    have := cmpN_bd (.mk k i s l) u
    have := cmpL_bd l u.args
    split
    · omega
    · exact this
theorem cmpL_bd : ∀ l m : List Tm, -1 ≤ cmpL l m ∧ cmpL l m ≤ 1
  | [], m => by rw [cmpL]; omega
  | _ :: _, [] => by rw [cmpL]; omega
  | t :: l, u :: m => by
    rw [cmpL]
    have := cmp_bd t u
    have := cmpL_bd l m
    split <;> omega
end

set_option maxHeartbeats 400000 in
theorem cmpInt_any (x y : Int) (w : World) : Calls Try.prog 145 #[.int .i64 x, .int .i64 y] w fun e w' => e = .returned (.int .i64 (cmpI x y)) ∧ w = w' := by
  by_cases h : x < y
  · have HE : Hid (cmpI x y = -1) := Lib.hid (by rw [cmpI, if_pos h])
    go_enter Try.func145, Try.ntmps145
    go_wp2
    go_ret
    exact ⟨by rw [HE.out]; rfl, rfl⟩
  · by_cases h' : y < x
    · have HE : Hid (cmpI x y = 1) := Lib.hid (by rw [cmpI, if_neg h, if_pos h'])
      go_enter Try.func145, Try.ntmps145
      go_wp2
      go_ret
      exact ⟨by rw [HE.out]; rfl, rfl⟩
    · have HE : Hid (cmpI x y = 0) := Lib.hid (by rw [cmpI, if_neg h, if_neg h'])
      go_enter Try.func145, Try.ntmps145
      go_wp2
      go_ret
      exact ⟨by rw [HE.out]; rfl, rfl⟩
set_option maxHeartbeats 400000 in
theorem cmpStr_any (x y : ByteArray) (w : World) : Calls Try.prog 146 #[.string x, .string y] w fun e w' => e = .returned (.int .i64 (cmpS x y)) ∧ w = w' := by
  by_cases he : x = y
  · subst he
    have h1 := bytesLess_irrefl x.toList
    go_enter Try.func146, Try.ntmps146
    go_wp2
    go_ret
    exact ⟨by rw [cmpS, if_pos rfl]; rfl, rfl⟩
  · have he2 : (x.toList == y.toList) = false := by
      rw [beq_eq_false_iff_ne]; exact fun h => he (toList_inj h)
    cases hl : Op.bytesLess x.toList y.toList with
    | true =>
      have HE := Lib.hid he
      clear he
      go_enter Try.func146, Try.ntmps146
      go_wp2
      go_ret
      exact ⟨by rw [cmpS, if_neg HE.out, if_pos hl]; rfl, rfl⟩
    | false =>
      have HE := Lib.hid he
      clear he
      go_enter Try.func146, Try.ntmps146
      go_wp2
      go_ret
      exact ⟨by rw [cmpS, if_neg HE.out, if_neg (by rw [hl]; simp)]; rfl, rfl⟩

set_option maxHeartbeats 800000 in
theorem or3_at (x y z : Int) (g : Nat) (w : World) (c0 : w.cell? ⟨g, 0, none⟩ = some (.int .i64 x)) (c1 : w.cell? ⟨g, 1, none⟩ = some (.int .i64 y)) (c2 : w.cell? ⟨g, 2, none⟩ = some (.int .i64 z)) :
    Calls Try.prog 144 #[.slice (some ⟨g, 0, none⟩) 3 3] w fun e w' => e = .returned (.int .i64 (or3 x y z)) ∧ w = w' := by
  by_cases h1 : x = 0
  · by_cases h2 : y = 0
    · by_cases h3 : z = 0
      · go_enter Try.func144, Try.ntmps144
        go_wp2
        refine wp_loop_rounds 4 ?_
        rw [rounds_succ]; go_wp2; rw [rounds_succ]; go_wp2; rw [rounds_succ]; go_wp2; rw [rounds_succ]; go_wp2
        go_ret
        exact ⟨by simp [or3, *], rfl⟩
      · go_enter Try.func144, Try.ntmps144
        go_wp2
        refine wp_loop_rounds 3 ?_
        rw [rounds_succ]; go_wp2; rw [rounds_succ]; go_wp2; rw [rounds_succ]; go_wp2
        go_ret
        exact ⟨by simp [or3, *], rfl⟩
    · go_enter Try.func144, Try.ntmps144
      go_wp2
      refine wp_loop_rounds 2 ?_
      rw [rounds_succ]; go_wp2; rw [rounds_succ]; go_wp2
      go_ret
      exact ⟨by simp [or3, *], rfl⟩
  · go_enter Try.func144, Try.ntmps144
    go_wp2
    refine wp_loop_rounds 1 ?_
    rw [rounds_succ]; go_wp2
    go_ret
    exact ⟨by simp [or3, *], rfl⟩

end Go.Proofs.Ytnmdnajbafpfiaa

namespace Go.Proofs.Ytnmdnajbafpfiaa
open Go.RowKit
set_option linter.unusedVariables false
set_option linter.unusedSimpArgs false

theorem belowAlloc {w w' : World} (h : Below w.heap.size w w') (o : Obj) : Below w.heap.size w (w'.alloc o) := h.alloc h.size o
theorem cmp_of_num {t u : Tm} (h : ¬ cmpN t u = 0) : t.cmp u = cmpN t u := by rw [cmp_eq, if_pos h]
theorem cmp_of_args {t u : Tm} (h : cmpN t u = 0) : t.cmp u = cmpL t.args u.args := by rw [cmp_eq, if_neg (by omega)]
theorem cmpL_one {t u : Tm} {l m : List Tm} (h : ¬ t.cmp u = 0) : cmpL (t :: l) (u :: m) = t.cmp u := by rw [cmpL, if_pos h]
theorem cmpL_two {t u : Tm} {l m : List Tm} (h : t.cmp u = 0) : cmpL (t :: l) (u :: m) = cmpL l m := by rw [cmpL, if_neg (by omega)]
theorem cmpL_last {t u : Tm} : cmpL [t] [u] = t.cmp u := by
  rw [cmpL]
  split
  · rfl
  · rw [cmpL]; omega
theorem cmpN_kind {t u : Tm} (h : cmpN t u = 0) : t.kind = u.kind := by
  unfold cmpN or3 at h
  have : cmpI t.kind u.kind = 0 := by
    by_cases h1 : cmpI t.kind u.kind = 0
    · exact h1
    · rw [if_pos h1] at h; exact h
  unfold cmpI at this
  split at this
  · omega
  · split at this <;> omega
theorem Fit.pair {t : Tm} (h : Fit t) (hk : t.kind = 4) : ∃ a b, t.args = [a, b] := by
  rcases h with ⟨h, _⟩ | ⟨h, _⟩ | ⟨h, _⟩ | ⟨h, _⟩ | ⟨_, _, _, h⟩
  · rw [hk] at h; cases h
  · rw [hk] at h; cases h
  · rw [hk] at h; cases h
  · rw [hk] at h; cases h
  · exact two_of h
theorem Fit.atom {t : Tm} (h : Fit t) (hk : ¬ t.kind = 4) : t.args = [] := by
  rcases h with ⟨_, _, _, h⟩ | ⟨_, _, _, h⟩ | ⟨_, _, _, h⟩ | ⟨_, _, _, h⟩ | ⟨h, _⟩
  · exact h
  · exact h
  · exact h
  · exact h
  · exact absurd h hk
/-- A pair's two parts, where they lie. -/
theorem ArgsAt.two {w : World} {a : Option Addr} {n cap : Nat} {l : List Tm} {x y : Tm} (h : ArgsAt w (.slice a n cap) l) (hl : l = [x, y]) :
    ∃ g off u1 u2 v1 v2, a = some ⟨g, off, none⟩ ∧ g < w.heap.size ∧ n = 2 ∧
      (∀ W, Below w.heap.size w W → W.cell? ⟨g, off, none⟩ = some (.int .i64 x.kind) ∧ W.cell? ⟨g, off + 1, none⟩ = some (.int .i64 x.num) ∧ W.cell? ⟨g, off + 2, none⟩ = some (.string x.name) ∧ W.cell? ⟨g, off + 3, none⟩ = some (.slice u1 x.args.length u2)) ∧
      (∀ W, Below w.heap.size w W → W.cell? ⟨g, off + 4, none⟩ = some (.int .i64 y.kind) ∧ W.cell? ⟨g, off + 4 + 1, none⟩ = some (.int .i64 y.num) ∧ W.cell? ⟨g, off + 4 + 2, none⟩ = some (.string y.name) ∧ W.cell? ⟨g, off + 4 + 3, none⟩ = some (.slice v1 y.args.length v2)) ∧
      ArgsAt w (.slice u1 x.args.length u2) x.args ∧ ArgsAt w (.slice v1 y.args.length v2) y.args := by
  obtain ⟨g, off, u1, u2, rfl, hg, hn, hc, hx⟩ := h.elem (k := 0) (x := x) (by rw [hl]; rfl)
  obtain ⟨g', off', v1, v2, he, hg', hn', hc', hy⟩ := h.elem (k := 1) (x := y) (by rw [hl]; rfl)
  simp only [Option.some.injEq, Addr.mk.injEq, and_true] at he
  obtain ⟨rfl, rfl⟩ := he
  refine ⟨g, off, u1, u2, v1, v2, rfl, hg, by rw [hn, hl]; rfl, fun W hW => ?_, fun W hW => ?_, hx, hy⟩
  · have := hc W hW
    simpa using this
  · have := hc' W hW
    simpa using this

set_option maxRecDepth 100000 in
set_option maxHeartbeats 4000000 in
theorem compare_any (N : Nat) : ∀ (a b : Tm) (Va Vb : Value) (w : World), a.nodes < N → ArgsAt w Va a.args → ArgsAt w Vb b.args → a.sz ≤ 1048576 → b.sz ≤ 1048576 → Good a → Good b →
    Calls Try.prog 143 #[.agg #[.int .i64 a.kind, .int .i64 a.num, .string a.name, Va], .agg #[.int .i64 b.kind, .int .i64 b.num, .string b.name, Vb]] w fun e w' => e = .returned (.int .i64 (a.cmp b)) ∧ Below w.heap.size w w' := by
  induction N with
  | zero => intro a b Va Vb w hN; omega
  | succ N ih =>
    intro a b Va Vb w hN hA hB hZa hZb hGa hGb
    obtain ⟨aa, ca, rfl⟩ := hA.slice
    obtain ⟨ab, cb, rfl⟩ := hB.slice
    have HI := Lib.hid ih
    have HGa := Lib.hid hGa
    have HGb := Lib.hid hGb
    have HSa := Lib.hid (sz_eq a)
    have HSb := Lib.hid (sz_eq b)
    have HNE := Lib.hid (nodes_eq a)
    have HA := Lib.hid (at_args hA)
    have HB := Lib.hid (at_args hB)
    clear hA hB ih hGa hGb
    have HW : Hid (Below w.heap.size w w) := Lib.hid (Below.refl _ _)
    have hal : Below w.heap.size w (w.alloc (.cells #[.int .i64 a.kind, .int .i64 a.num, .string a.name, .slice aa a.args.length ca] 28)) := (Below.refl _ _).alloc (Nat.le_refl _) _
    replace HA := Lib.hid (HA.out.read hal)
    replace HB := Lib.hid (HB.out.read hal)
    replace HW := Lib.hid (belowOn HW.out (Nat.le_refl _) hal)
    have HX := Lib.hid (at_box_of w #[.int .i64 a.kind, .int .i64 a.num, .string a.name, .slice aa a.args.length ca] 28 (w.heap.size) rfl)
    have hal2 := (Below.refl (w.alloc (.cells #[.int .i64 a.kind, .int .i64 a.num, .string a.name, .slice aa a.args.length ca] 28)).heap.size (w.alloc (.cells #[.int .i64 a.kind, .int .i64 a.num, .string a.name, .slice aa a.args.length ca] 28))).alloc (Nat.le_refl _) (.cells #[.int .i64 b.kind, .int .i64 b.num, .string b.name, .slice ab b.args.length cb] 28)
    replace HA := Lib.hid (HA.out.read hal2)
    replace HB := Lib.hid (HB.out.read hal2)
    replace HX := Lib.hid (HX.out.read hal2)
    replace HW := Lib.hid (belowOn HW.out (Nat.le_refl _) hal2)
    have HY := Lib.hid (at_box_of (w.alloc (.cells #[.int .i64 a.kind, .int .i64 a.num, .string a.name, .slice aa a.args.length ca] 28)) #[.int .i64 b.kind, .int .i64 b.num, .string b.name, .slice ab b.args.length cb] 28 (w.heap.size + 1) (by simp))
    clear hal hal2
    go_enter Try.func143, Try.ntmps143
    go_upto_region 1 with (fail)
    generalize hw0 : (w.alloc (.cells #[.int .i64 a.kind, .int .i64 a.num, .string a.name, .slice aa a.args.length ca] 28)).alloc (.cells #[.int .i64 b.kind, .int .i64 b.num, .string b.name, .slice ab b.args.length cb] 28) = w0 at HA HB HX HY HW ⊢
    clear hw0
    go_cut [5] from 6 (fun c wx => c = .int .i64 (cmpN a b) ∧ Below w0.heap.size w0 wx)
    case first =>
      have hself : Below w0.heap.size w0 w0 := Below.refl _ _
      have hdrew : Below w0.heap.size w0 w0.drew := hself.drew
      obtain ⟨c0a, c0b, c0c, c0d⟩ := HX.out.cells
      obtain ⟨c1a, c1b, c1c, c1d⟩ := HY.out.cells
      have z0 := HX.out.le
      have z1 := HY.out.le
      have HCE : Hid (∀ W, Below w0.heap.size w0 W → W.cell? ⟨w.heap.size, 0, none⟩ = some (.int .i64 a.kind) ∧ W.cell? ⟨w.heap.size, 1, none⟩ = some (.int .i64 a.num) ∧ W.cell? ⟨w.heap.size, 2, none⟩ = some (.string a.name) ∧ W.cell? ⟨w.heap.size + 1, 0, none⟩ = some (.int .i64 b.kind) ∧ W.cell? ⟨w.heap.size + 1, 1, none⟩ = some (.int .i64 b.num) ∧ W.cell? ⟨w.heap.size + 1, 2, none⟩ = some (.string b.name)) := Lib.hid fun W hW => by
        obtain ⟨y0a, y0b, y0c, y0d⟩ := (HX.out.read hW).cells
        obtain ⟨y1a, y1b, y1c, y1d⟩ := (HY.out.read hW).cells
        exact ⟨y0a, y0b, y0c, y1a, y1b, y1c⟩
      have HTR : Hid (∀ a b, Below w0.heap.size w0 a → Below a.heap.size a b → Below w0.heap.size w0 b) := Lib.hid fun a b h1 h2 => belowOn h1 (Nat.le_refl _) h2
      clear HA HB HX HY HW HI
      go_region_held3 (fun w' => Below w0.heap.size w0 w' ∧ w'.cell? ⟨w.heap.size, 0, none⟩ = some (.int .i64 a.kind) ∧ w'.cell? ⟨w.heap.size, 1, none⟩ = some (.int .i64 a.num) ∧ w'.cell? ⟨w.heap.size, 2, none⟩ = some (.string a.name) ∧ w'.cell? ⟨w.heap.size + 1, 0, none⟩ = some (.int .i64 b.kind) ∧ w'.cell? ⟨w.heap.size + 1, 1, none⟩ = some (.int .i64 b.num) ∧ w'.cell? ⟨w.heap.size + 1, 2, none⟩ = some (.string b.name))
        (((try dsimp only); (repeat' apply And.intro) <;> first | go_keep | exact belowAlloc (by assumption) _))
        (first
          | (go_at_call 145; refine (cmpInt_any _ _ _).mono ?_; rintro e w' ⟨rfl, rfl⟩)
          | (go_at_call 146; refine (cmpStr_any _ _ _).mono ?_; rintro e w' ⟨rfl, rfl⟩)
          | (go_at_call 144; refine (or3_at (cmpI a.kind b.kind) (cmpI a.num b.num) (cmpS a.name b.name) _ _ ?_ ?_ ?_).mono ?_; (simp); (simp); (simp); rintro e w' ⟨rfl, rfl⟩))
      all_goals (go_wp2_with fail; go_meet; refine ⟨rfl, ?_⟩; first | assumption | exact (belowAlloc hself _).drew | exact belowAlloc hself _)
    case rest =>
      obtain ⟨rfl, hb⟩ := hcut
      obtain ⟨w1, rfl⟩ : ∃ x : World, x = wc := ⟨_, rfl⟩
      replace HA := Lib.hid (HA.out.read hb)
      replace HB := Lib.hid (HB.out.read hb)
      replace HX := Lib.hid (HX.out.read hb)
      replace HY := Lib.hid (HY.out.read hb)
      replace HW := Lib.hid (belowOn HW.out (Nat.le_refl _) hb)
      clear hb
      by_cases hc : cmpN a b = 0
      · have HCN := Lib.hid hc
        rw [hc]
        clear hc
        have HIP := Lib.hid (isPair_any a.kind a.num a.name (.slice aa a.args.length ca) w1)
        obtain ⟨c0a, c0b, c0c, c0d⟩ := HX.out.cells
        have z0 := HX.out.le
        go_wp2_with fail
        refine HIP.out.mono ?_
        rintro e w2 ⟨rfl, hb⟩
        clear c0a c0b c0c c0d z0 HIP
        replace HA := Lib.hid (HA.out.read hb)
        replace HB := Lib.hid (HB.out.read hb)
        replace HX := Lib.hid (HX.out.read hb)
        replace HY := Lib.hid (HY.out.read hb)
        replace HW := Lib.hid (belowOn HW.out (Nat.le_refl _) hb)
        clear hb
        by_cases hk : a.kind = 4
        · have hd : decide (a.kind = 4) = true := decide_eq_true hk
          rw [hd]
          obtain ⟨x, y, hxy⟩ := HGa.out.fit.pair hk
          obtain ⟨x2, y2, hxy2⟩ := HGb.out.fit.pair ((cmpN_kind HCN.out).symm.trans hk)
          obtain ⟨ga, offa, u1, u2, v1, v2, rfl, hga, hla, hcx, hcy, hax, hay⟩ := HA.out.argsAt.two hxy
          obtain ⟨gb, offb, s1, s2, r1, r2, rfl, hgb, hlb, hcx2, hcy2, hax2, hay2⟩ := HB.out.argsAt.two hxy2
          have HGA := Lib.hid hga
          have HGB := Lib.hid hgb
          have HLA := Lib.hid hla
          have HLB := Lib.hid hlb
          have HPA := Lib.hid (And.intro hcx (And.intro hcy (And.intro hax hay)))
          have HPB := Lib.hid (And.intro hcx2 (And.intro hcy2 (And.intro hax2 hay2)))
          have HGX := Lib.hid (And.intro ((good_two HGa.out.fit hxy).1 HGa.out).1 (And.intro ((good_two HGa.out.fit hxy).1 HGa.out).2 ((good_two HGb.out.fit hxy2).1 HGb.out)))
          have HNX : Hid (nodesL a.args = x.nodes + y.nodes ∧ szL a.args = 2 + x.sz + y.sz ∧ szL b.args = 2 + x2.sz + y2.sz ∧ 1 ≤ x.nodes ∧ 1 ≤ y.nodes) := Lib.hid (by
            rw [hxy, hxy2]; simp only [nodesL, szL]; have := nodes_pos x; have := nodes_pos y; omega)
          have HCA : Hid (a.cmp b = cmpL [x, y] [x2, y2]) := Lib.hid (by rw [cmp_of_args HCN.out, hxy, hxy2])
          have HCW : Hid (∀ W, Below w2.heap.size w2 W → Below w2.heap.size w2 W) := Lib.hid fun W h => h
          clear hd hxy hxy2 hga hgb hla hlb hcx hcy hax hay hcx2 hcy2 hax2 hay2 hk
          go_upto_region 4 with (fail)
          go_cut [5] from 31 (fun c wx => c = .int .i64 (x.cmp x2) ∧ Below w2.heap.size w2 wx)
          case first =>
            have hself : Below w2.heap.size w2 w2 := Below.refl _ _
            have hdrew : Below w2.heap.size w2 w2.drew := hself.drew
            obtain ⟨c0a, c0b, c0c, c0d⟩ := HX.out.cells
            obtain ⟨c1a, c1b, c1c, c1d⟩ := HY.out.cells
            have z0 := HX.out.le
            have z1 := HY.out.le
            have HCE : Hid (∀ W, Below w2.heap.size w2 W → W.cell? ⟨w.heap.size, 0, none⟩ = some (.int .i64 a.kind) ∧ W.cell? ⟨w.heap.size, 1, none⟩ = some (.int .i64 a.num) ∧ W.cell? ⟨w.heap.size, 2, none⟩ = some (.string a.name) ∧ W.cell? ⟨w.heap.size, 3, none⟩ = some (.slice (some ⟨ga, offa, none⟩) a.args.length ca) ∧ W.cell? ⟨w.heap.size + 1, 0, none⟩ = some (.int .i64 b.kind) ∧ W.cell? ⟨w.heap.size + 1, 1, none⟩ = some (.int .i64 b.num) ∧ W.cell? ⟨w.heap.size + 1, 2, none⟩ = some (.string b.name) ∧ W.cell? ⟨w.heap.size + 1, 3, none⟩ = some (.slice (some ⟨gb, offb, none⟩) b.args.length cb)) := Lib.hid fun W hW => by
              obtain ⟨y0a, y0b, y0c, y0d⟩ := (HX.out.read hW).cells
              obtain ⟨y1a, y1b, y1c, y1d⟩ := (HY.out.read hW).cells
              exact ⟨y0a, y0b, y0c, y0d, y1a, y1b, y1c, y1d⟩
            have HTR : Hid (∀ a b, Below w2.heap.size w2 a → Below a.heap.size a b → Below w2.heap.size w2 b) := Lib.hid fun a b h1 h2 => belowOn h1 (Nat.le_refl _) h2
            have HH0 : Hid (∀ W, Below w2.heap.size w2 W → Calls Try.prog 94 #[.agg #[.int .i64 a.kind, .int .i64 a.num, .string a.name, .slice (some ⟨ga, offa, none⟩) a.args.length ca]] W fun e w' => e = .returned (.agg #[.int .i64 x.kind, .int .i64 x.num, .string x.name, .slice u1 x.args.length u2]) ∧ Below W.heap.size W w') := Lib.hid fun W hW => by
              obtain ⟨q0, q1, q2, q3⟩ := HPA.out.1 W (HCW.out W hW)
              exact head_any a.kind a.num a.name ga offa a.args.length ca _ _ _ _ _ _ W (Nat.lt_of_lt_of_le HGA.out (HCW.out W hW).size) (by have := HLA.out; omega) (by have := HLA.out; omega) q0 q1 q2 q3
            have HH1 : Hid (∀ W, Below w2.heap.size w2 W → Calls Try.prog 94 #[.agg #[.int .i64 b.kind, .int .i64 b.num, .string b.name, .slice (some ⟨gb, offb, none⟩) b.args.length cb]] W fun e w' => e = .returned (.agg #[.int .i64 x2.kind, .int .i64 x2.num, .string x2.name, .slice s1 x2.args.length s2]) ∧ Below W.heap.size W w') := Lib.hid fun W hW => by
              obtain ⟨q0, q1, q2, q3⟩ := HPB.out.1 W (HCW.out W hW)
              exact head_any b.kind b.num b.name gb offb b.args.length cb _ _ _ _ _ _ W (Nat.lt_of_lt_of_le HGB.out (HCW.out W hW).size) (by have := HLB.out; omega) (by have := HLB.out; omega) q0 q1 q2 q3
            have HCM : Hid (∀ W, Below w2.heap.size w2 W → Calls Try.prog 143 #[.agg #[.int .i64 x.kind, .int .i64 x.num, .string x.name, .slice u1 x.args.length u2], .agg #[.int .i64 x2.kind, .int .i64 x2.num, .string x2.name, .slice s1 x2.args.length s2]] W fun e w' => e = .returned (.int .i64 (x.cmp x2)) ∧ Below W.heap.size W w') := Lib.hid fun W hW =>
              HI.out x x2 _ _ W (by have := HNX.out; have := HNE.out; omega) (HPA.out.2.2.1.kept (HCW.out W hW)) (HPB.out.2.2.1.kept (HCW.out W hW)) (by have := HNX.out; have := HSa.out; omega) (by have := HNX.out; have := HSb.out; omega) HGX.out.1 HGX.out.2.2.1
            clear HX HY HW HI HPA HPB
            try clear HA HB
            go_region_held3 (fun w' => Below w2.heap.size w2 w' ∧ w'.cell? ⟨w.heap.size, 0, none⟩ = some (.int .i64 a.kind) ∧ w'.cell? ⟨w.heap.size, 1, none⟩ = some (.int .i64 a.num) ∧ w'.cell? ⟨w.heap.size, 2, none⟩ = some (.string a.name) ∧ w'.cell? ⟨w.heap.size, 3, none⟩ = some (.slice (some ⟨ga, offa, none⟩) a.args.length ca) ∧ w'.cell? ⟨w.heap.size + 1, 0, none⟩ = some (.int .i64 b.kind) ∧ w'.cell? ⟨w.heap.size + 1, 1, none⟩ = some (.int .i64 b.num) ∧ w'.cell? ⟨w.heap.size + 1, 2, none⟩ = some (.string b.name) ∧ w'.cell? ⟨w.heap.size + 1, 3, none⟩ = some (.slice (some ⟨gb, offb, none⟩) b.args.length cb)) (go_keep)
              (first
                | (go_at_call 94; refine Calls.mono (HH0.out _ ?_) ?_; (assumption); rintro e w' ⟨rfl, hb⟩; have hB' := HTR.out _ _ (by assumption) hb; obtain ⟨k0, k1, k2, k3, k4, k5, k6, k7⟩ := HCE.out _ hB')
                | (go_at_call 94; refine Calls.mono (HH1.out _ ?_) ?_; (assumption); rintro e w' ⟨rfl, hb⟩; have hB' := HTR.out _ _ (by assumption) hb; obtain ⟨k0, k1, k2, k3, k4, k5, k6, k7⟩ := HCE.out _ hB')
                | (go_at_call 143; refine Calls.mono (HCM.out _ ?_) ?_; (assumption); rintro e w' ⟨rfl, hb⟩; have hB' := HTR.out _ _ (by assumption) hb; obtain ⟨k0, k1, k2, k3, k4, k5, k6, k7⟩ := HCE.out _ hB'))
            all_goals (go_wp2_with fail; go_meet; exact ⟨rfl, by assumption⟩)
          case rest =>
            obtain ⟨rfl, hb⟩ := hcut
            obtain ⟨w3, rfl⟩ : ∃ x : World, x = wc := ⟨_, rfl⟩
            replace HX := Lib.hid (HX.out.read hb)
            replace HY := Lib.hid (HY.out.read hb)
            replace HW := Lib.hid (belowOn HW.out (Nat.le_refl _) hb)
            have HCW3 : Hid (∀ W, Below w3.heap.size w3 W → Below w2.heap.size w2 W) := Lib.hid fun W h => belowOn hb (Nat.le_refl _) h
            clear HA HB HCW
            have HCW := HCW3
            clear HCW3 hb
            by_cases hz : x.cmp x2 = 0
            · rw [hz]
              have HZ := Lib.hid hz
              clear hz
              go_upto_region 7 with (fail)
              go_cut [4] from 39 (fun c wx => c = .int .i64 (y.cmp y2) ∧ Below w3.heap.size w3 wx)
              case first =>
                have hself : Below w3.heap.size w3 w3 := Below.refl _ _
                have hdrew : Below w3.heap.size w3 w3.drew := hself.drew
                obtain ⟨c0a, c0b, c0c, c0d⟩ := HX.out.cells
                obtain ⟨c1a, c1b, c1c, c1d⟩ := HY.out.cells
                have z0 := HX.out.le
                have z1 := HY.out.le
                have HCE : Hid (∀ W, Below w3.heap.size w3 W → W.cell? ⟨w.heap.size, 0, none⟩ = some (.int .i64 a.kind) ∧ W.cell? ⟨w.heap.size, 1, none⟩ = some (.int .i64 a.num) ∧ W.cell? ⟨w.heap.size, 2, none⟩ = some (.string a.name) ∧ W.cell? ⟨w.heap.size, 3, none⟩ = some (.slice (some ⟨ga, offa, none⟩) a.args.length ca) ∧ W.cell? ⟨w.heap.size + 1, 0, none⟩ = some (.int .i64 b.kind) ∧ W.cell? ⟨w.heap.size + 1, 1, none⟩ = some (.int .i64 b.num) ∧ W.cell? ⟨w.heap.size + 1, 2, none⟩ = some (.string b.name) ∧ W.cell? ⟨w.heap.size + 1, 3, none⟩ = some (.slice (some ⟨gb, offb, none⟩) b.args.length cb)) := Lib.hid fun W hW => by
                  obtain ⟨y0a, y0b, y0c, y0d⟩ := (HX.out.read hW).cells
                  obtain ⟨y1a, y1b, y1c, y1d⟩ := (HY.out.read hW).cells
                  exact ⟨y0a, y0b, y0c, y0d, y1a, y1b, y1c, y1d⟩
                have HTR : Hid (∀ a b, Below w3.heap.size w3 a → Below a.heap.size a b → Below w3.heap.size w3 b) := Lib.hid fun a b h1 h2 => belowOn h1 (Nat.le_refl _) h2
                have HH0 : Hid (∀ W, Below w3.heap.size w3 W → Calls Try.prog 95 #[.agg #[.int .i64 a.kind, .int .i64 a.num, .string a.name, .slice (some ⟨ga, offa, none⟩) a.args.length ca]] W fun e w' => e = .returned (.agg #[.int .i64 y.kind, .int .i64 y.num, .string y.name, .slice v1 y.args.length v2]) ∧ Below W.heap.size W w') := Lib.hid fun W hW => by
                  obtain ⟨q0, q1, q2, q3⟩ := HPA.out.2.1 W (HCW.out W hW)
                  exact tail_any a.kind a.num a.name ga offa a.args.length ca _ _ _ _ _ _ W (Nat.lt_of_lt_of_le HGA.out (HCW.out W hW).size) (by have := HLA.out; omega) (by have := HLA.out; omega) q0 q1 q2 q3
                have HH1 : Hid (∀ W, Below w3.heap.size w3 W → Calls Try.prog 95 #[.agg #[.int .i64 b.kind, .int .i64 b.num, .string b.name, .slice (some ⟨gb, offb, none⟩) b.args.length cb]] W fun e w' => e = .returned (.agg #[.int .i64 y2.kind, .int .i64 y2.num, .string y2.name, .slice r1 y2.args.length r2]) ∧ Below W.heap.size W w') := Lib.hid fun W hW => by
                  obtain ⟨q0, q1, q2, q3⟩ := HPB.out.2.1 W (HCW.out W hW)
                  exact tail_any b.kind b.num b.name gb offb b.args.length cb _ _ _ _ _ _ W (Nat.lt_of_lt_of_le HGB.out (HCW.out W hW).size) (by have := HLB.out; omega) (by have := HLB.out; omega) q0 q1 q2 q3
                have HCM : Hid (∀ W, Below w3.heap.size w3 W → Calls Try.prog 143 #[.agg #[.int .i64 y.kind, .int .i64 y.num, .string y.name, .slice v1 y.args.length v2], .agg #[.int .i64 y2.kind, .int .i64 y2.num, .string y2.name, .slice r1 y2.args.length r2]] W fun e w' => e = .returned (.int .i64 (y.cmp y2)) ∧ Below W.heap.size W w') := Lib.hid fun W hW =>
                  HI.out y y2 _ _ W (by have := HNX.out; have := HNE.out; omega) (HPA.out.2.2.2.kept (HCW.out W hW)) (HPB.out.2.2.2.kept (HCW.out W hW)) (by have := HNX.out; have := HSa.out; omega) (by have := HNX.out; have := HSb.out; omega) HGX.out.2.1 HGX.out.2.2.2
                clear HX HY HW HI HPA HPB
                try clear HA HB
                go_region_held3 (fun w' => Below w3.heap.size w3 w' ∧ w'.cell? ⟨w.heap.size, 0, none⟩ = some (.int .i64 a.kind) ∧ w'.cell? ⟨w.heap.size, 1, none⟩ = some (.int .i64 a.num) ∧ w'.cell? ⟨w.heap.size, 2, none⟩ = some (.string a.name) ∧ w'.cell? ⟨w.heap.size, 3, none⟩ = some (.slice (some ⟨ga, offa, none⟩) a.args.length ca) ∧ w'.cell? ⟨w.heap.size + 1, 0, none⟩ = some (.int .i64 b.kind) ∧ w'.cell? ⟨w.heap.size + 1, 1, none⟩ = some (.int .i64 b.num) ∧ w'.cell? ⟨w.heap.size + 1, 2, none⟩ = some (.string b.name) ∧ w'.cell? ⟨w.heap.size + 1, 3, none⟩ = some (.slice (some ⟨gb, offb, none⟩) b.args.length cb)) (go_keep)
                  (first
                    | (go_at_call 95; refine Calls.mono (HH0.out _ ?_) ?_; (assumption); rintro e w' ⟨rfl, hb⟩; have hB' := HTR.out _ _ (by assumption) hb; obtain ⟨k0, k1, k2, k3, k4, k5, k6, k7⟩ := HCE.out _ hB')
                    | (go_at_call 95; refine Calls.mono (HH1.out _ ?_) ?_; (assumption); rintro e w' ⟨rfl, hb⟩; have hB' := HTR.out _ _ (by assumption) hb; obtain ⟨k0, k1, k2, k3, k4, k5, k6, k7⟩ := HCE.out _ hB')
                    | (go_at_call 143; refine Calls.mono (HCM.out _ ?_) ?_; (assumption); rintro e w' ⟨rfl, hb⟩; have hB' := HTR.out _ _ (by assumption) hb; obtain ⟨k0, k1, k2, k3, k4, k5, k6, k7⟩ := HCE.out _ hB'))
                all_goals (go_wp2_with fail; go_meet; exact ⟨rfl, by assumption⟩)
              case rest =>
                obtain ⟨rfl, hb⟩ := hcut
                obtain ⟨w4, rfl⟩ : ∃ x : World, x = wc := ⟨_, rfl⟩
                replace HW := Lib.hid (belowOn HW.out (Nat.le_refl _) hb)
                clear hb
                go_wp2
                go_ret
                exact ⟨by rw [HCA.out, cmpL_two HZ.out, cmpL_last]; rfl, HW.out⟩
            · have HZ := Lib.hid hz
              go_wp2
              go_ret
              exact ⟨by rw [HCA.out, cmpL_one HZ.out]; rfl, HW.out⟩
        · have hd : decide (a.kind = 4) = false := decide_eq_false hk
          rw [hd]
          have HAT := Lib.hid (HGa.out.fit.atom hk)
          clear hd hk
          go_wp2
          go_ret
          exact ⟨by rw [cmp_of_args HCN.out, HAT.out, cmpL]; rfl, HW.out⟩
      · have HCN := Lib.hid (cmp_of_num hc)
        go_wp2
        go_ret
        exact ⟨by rw [HCN.out]; rfl, HW.out⟩
end Go.Proofs.Ytnmdnajbafpfiaa

namespace Go.Proofs.Ytnmdnajbafpfiaa
open Go.RowKit
set_option linter.unusedVariables false
set_option linter.unusedSimpArgs false

theorem cmpI_ne {x y : Int} (h : ¬ x = y) : cmpI x y = (if decide (x < y) = true then -1 else 1) := by
  unfold cmpI
  by_cases h1 : x < y
  · simp [h1]
  · have h2 : y < x := by omega
    simp [h1, h2]
theorem cmpI_self (x : Int) : cmpI x x = 0 := by unfold cmpI; split <;> (try split) <;> omega
theorem cmpS_self (x : ByteArray) : cmpS x x = 0 := by unfold cmpS; rw [if_pos rfl]
theorem cmpS_ne {x y : ByteArray} (h : ¬ x = y) : cmpS x y = (if Op.bytesLess x.toList y.toList = true then -1 else 1) := by unfold cmpS; rw [if_neg h]
theorem pm_ne {b : Bool} : ¬ (if b = true then (-1 : Int) else 1) = 0 := by cases b <;> simp
theorem cmp_by_kind {a b : Tm} (h : ¬ a.kind = b.kind) : a.cmp b = (if decide (a.kind < b.kind) = true then -1 else 1) := by
  have e : cmpN a b = (if decide (a.kind < b.kind) = true then -1 else 1) := by unfold cmpN or3; rw [cmpI_ne h, if_pos pm_ne]
  rw [cmp_of_num (by rw [e]; exact pm_ne), e]
theorem cmp_by_num {a b : Tm} (h0 : a.kind = b.kind) (h : ¬ a.num = b.num) : a.cmp b = (if decide (a.num < b.num) = true then -1 else 1) := by
  have e : cmpN a b = (if decide (a.num < b.num) = true then -1 else 1) := by unfold cmpN or3; rw [h0, cmpI_self, if_neg (by simp), cmpI_ne h, if_pos pm_ne]
  rw [cmp_of_num (by rw [e]; exact pm_ne), e]
theorem cmp_by_name {a b : Tm} (h0 : a.kind = b.kind) (h1 : a.num = b.num) (h : ¬ a.name = b.name) : a.cmp b = (if Op.bytesLess a.name.toList b.name.toList = true then -1 else 1) := by
  have e : cmpN a b = (if Op.bytesLess a.name.toList b.name.toList = true then -1 else 1) := by unfold cmpN or3; rw [h0, h1, cmpI_self, if_neg (by simp), cmpI_self, if_neg (by simp), cmpS_ne h]
  rw [cmp_of_num (by rw [e]; exact pm_ne), e]
theorem cmp_by_args {a b : Tm} (h0 : a.kind = b.kind) (h1 : a.num = b.num) (h2 : a.name = b.name) : a.cmp b = cmpL a.args b.args :=
  cmp_of_args (by unfold cmpN or3; rw [h0, h1, h2, cmpI_self, if_neg (by simp), cmpI_self, if_neg (by simp), cmpS_self])
theorem cmpL_drop {l m : List Tm} {k : Nat} {x y : Tm} (hx : l[k]? = some x) (hy : m[k]? = some y) : cmpL (l.drop k) (m.drop k) = if ¬ x.cmp y = 0 then x.cmp y else cmpL (l.drop (k + 1)) (m.drop (k + 1)) := by
  obtain ⟨h1, rfl⟩ := List.getElem?_eq_some_iff.1 hx
  obtain ⟨h2, rfl⟩ := List.getElem?_eq_some_iff.1 hy
  rw [List.drop_eq_getElem_cons h1, List.drop_eq_getElem_cons h2, cmpL]
theorem cmpL_end {l m : List Tm} {k : Nat} (h : l.length ≤ k ∨ m.length ≤ k) : cmpL (l.drop k) (m.drop k) = 0 := by
  rcases h with h | h
  · rw [List.drop_of_length_le h, cmpL]
  · rw [List.drop_of_length_le h]
    cases l.drop k with
    | nil => rw [cmpL]
    | cons x l => rw [cmpL]

noncomputable def cmpOf (a b : Tm) : Int := if (okB a && okB b) = true then a.cmp b else 2

end Go.Proofs.Ytnmdnajbafpfiaa

