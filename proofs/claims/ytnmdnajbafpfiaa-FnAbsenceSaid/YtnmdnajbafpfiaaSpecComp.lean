/-
  The model's l04Insert. (Written by wip/tools/gen_insertb.py.)
  The model's ComposeSubst.
  The model's l02Same, MoreGeneral.
-/
import Derived.Test.YtnmdnajbafpfiaaSubstT
import Derived.Laws.AppendOwnNone
import Derived.Deep.RegionHeld3
import Derived.IntWalk
namespace Go.Proofs.Ytnmdnajbafpfiaa
open Go.RowKit
set_option linter.unusedVariables false
set_option linter.unusedSimpArgs false

/-! ### A row of the call's own whose elements hold what lies below it -/
def RowB {α : Type} (E : El α) (e : TypeId) (w : World) (lo : Nat) (v : Value) (xs : List α) : Prop :=
  ∃ L : List (α × Value), xs = L.map Prod.fst ∧ w.ownsRow lo e E.n v L.length (cellsE E L) ∧ ∀ (j : Nat) (p : α × Value), L[j]? = some p → E.kid w (fun b => b < lo) p.2 p.1
theorem RowB.kept {α : Type} {E : El α} {e : TypeId} {w w' : World} {lo : Nat} {v : Value} {xs : List α} (h : RowB E e w lo v xs) (hb : Below w.heap.size w w') : RowB E e w' lo v xs := by
  obtain ⟨L, hL, hrow, hch⟩ := h
  exact ⟨L, hL, rowE_moved hrow fun k hk => hb.block k (World.ownsRow.lt hrow k hk).2, fun j p hj => E.kidFrame (hch j p hj) hb.size fun k _ hk => hb.block k hk⟩
theorem RowB.rowK {α : Type} {E : El α} {e : TypeId} {w : World} {lo lo' : Nat} {v : Value} {xs : List α} (h : RowB E e w lo' v xs) (hl : lo ≤ lo') (hs : lo' ≤ w.heap.size) : RowK E e w lo v xs := by
  obtain ⟨L, hL, hrow, hch⟩ := h
  refine ⟨L, hL, ?_, fun j p hj => ⟨_, hch j p hj, fun b hb => ⟨Nat.lt_of_lt_of_le hb hs, fun e => by have := (World.ownsRow.lt hrow b e).1; omega⟩⟩⟩
  refine ⟨hrow.1, ?_⟩
  rcases hrow.2 with hn | ⟨g', cap', cur, he, h1, h2⟩
  · exact .inl hn
  · exact .inr ⟨g', cap', cur, he, Nat.le_trans hl h1, h2⟩
theorem RowB.some {α : Type} {E : El α} {e : TypeId} {w : World} {lo : Nat} {v : Value} {xs : List α} (h : RowB E e w lo v xs) (hp : 0 < xs.length) : ∃ g cap, v = .slice (some ⟨g, 0, none⟩) xs.length cap := by
  obtain ⟨L, rfl, hrow, hch⟩ := h
  rw [List.length_map] at hp ⊢
  rcases hrow.2 with ⟨_, hn⟩ | ⟨g', cap', cur, he, h1, h2⟩
  · omega
  · exact ⟨g', cap', he⟩
theorem rowB_start {α : Type} {E : El α} {e : TypeId} {w : World} {lo : Nat} (hl : lo ≤ w.heap.size) : RowB E e (w.alloc (.cells #[] e)) lo (.slice (some ⟨w.heap.size, 0, none⟩) 0 0) [] :=
  ⟨[], rfl, ⟨by simp [cellsE], .inr ⟨w.heap.size, 0, #[], rfl, hl, heap_new w _, Nat.le_refl _, Nat.zero_le _, by simp, by simp [cellsE]⟩⟩, fun j p hj => by simp at hj⟩
/-- 'append(v, t...)' on such a row: t nil, empty or structs that can be read. -/
theorem append_rowB {P : Program} {W : World} {ops : Array Oper} {rest : List Oper} {o : Oper} {a : Act} {Q : Exit → Act → World → Prop} (hgd : o.guard = none) (s x : Operand) (t : TypeId)
    (ho : o.op = .call { callee := .builtin .append, args := #[s, x], argTypes := #[t, t] }) {α : Type} (E : El α)
    (lo : Nat) (e : TypeId) (i : TypeInfo) (z : Value) (bytes : Nat) (ht : P.underlying t = some (.slice e)) (hi : P.info? e = some i) (hz : i.zero = some z)
    (hsize : i.size = E.n) (hby : i.bytes = bytes) (hzs : z.cells.size = E.n) (hb128 : bytes ≤ 128)
    (v : Value) (xs : List α) (hs : a.eval s = v) (hown : RowB E e W lo v xs) (A : Option Addr) (m c : Nat) (hx : a.eval x = .slice A m c) (M : List (α × Value)) (hl : M.length = m)
    (hA : A = none → m = 0 ∧ c = 0) (hc : ∀ ad, A = some ad → ∀ j u, (cellsE E M)[j]? = some u → W.cell? (ad.add j) = some u) (h1 : ∀ u ∈ cellsE E M, u.oneCell' = true)
    (hk : ∀ (j : Nat) (p : α × Value), M[j]? = some p → E.kid W (fun b => b < lo) p.2 p.1) (hn : xs.length + m ≤ 1073741824) (hbase : lo ≤ W.heap.size)
    (h : ∀ v' w', RowB E e w' lo v' (xs ++ M.map Prod.fst) → Below lo W w' → wpList P ops Q rest (a.put o.dst v') w') : wpList P ops Q (o :: rest) a W := by
  obtain ⟨L, hL, hrow, hch⟩ := hown
  have hxl : xs.length = L.length := by rw [hL, List.length_map]
  cases A with
  | none =>
    obtain ⟨rfl, rfl⟩ := hA rfl
    have hM : M = [] := List.length_eq_zero_iff.1 hl
    subst hM
    refine wpList_append_own_none hgd s x t ho lo e i E.n ht hi v L.length _ hs hrow hx ?_
    exact h v W (by rw [List.map_nil, List.append_nil]; exact ⟨L, hL, hrow, hch⟩) (Below.refl _ _)
  | some ad =>
    refine wpList_append_own W hgd s x t ho lo e i z E.n bytes ht hi hz hsize hby hzs E.pos v L.length _ hs hrow ad m c (cellsE E M) hx (by rw [cellsE_length, hl]) (hc ad rfl) h1 (by unfold maxLen; omega) ?_ hbase ?_
    · have : (L.length + m) * bytes ≤ (L.length + m) * 128 := Nat.mul_le_mul_left _ hb128
      omega
    · intro v' w' hown' hg _
      have hB : Below lo W w' := below_of_grown hg hbase (fun k hk => (World.ownsRow.lt hrow k hk).1)
      refine h v' w' ⟨L ++ M, by rw [hL, List.map_append], by rw [List.length_append, hl, cellsE_append]; exact hown', fun j p hj => ?_⟩ hB
      have hW : E.kid W (fun b => b < lo) p.2 p.1 := by
        by_cases hjl : j < L.length
        · rw [List.getElem?_append_left hjl] at hj
          exact hch j p hj
        · rw [List.getElem?_append_right (by omega)] at hj
          exact hk _ p hj
      exact E.kidFrame hW hB.size fun k hk _ => hB.block k hk

/-! ### Where a binding goes -/
def scanB (s : List Bd) (v : Int) : Nat → Nat
  | 0 => 0
  | k + 1 => if v < ((s[k]?).map Bd.v).getD 0 then scanB s v k else k + 1
theorem scanB_le (s : List Bd) (v : Int) : ∀ k, scanB s v k ≤ k
  | 0 => Nat.le_refl _
  | k + 1 => by
    rw [scanB]
    split
    · have := scanB_le s v k; omega
    · exact Nat.le_refl _
def insB (s : List Bd) (b : Bd) : List Bd := s.take (scanB s b.v s.length) ++ b :: s.drop (scanB s b.v s.length)
theorem insB_length (s : List Bd) (b : Bd) : (insB s b).length = s.length + 1 := by
  have := scanB_le s b.v s.length
  unfold insB
  rw [List.length_append, List.length_cons, List.length_take, List.length_drop]
  omega
theorem bd_one {L : List (Bd × Value)} (h : ∀ (j : Nat) (p : Bd × Value), L[j]? = some p → p.2.oneCell' = true) : ∀ u ∈ cellsE bdE L, u.oneCell' = true := by
  intro u hu
  obtain ⟨p, hp, hu⟩ := List.mem_flatMap.1 hu
  obtain ⟨j, hj⟩ := List.getElem?_of_mem hp
  have h2 := h j p hj
  simp only [bdE, List.mem_cons, List.not_mem_nil, or_false] at hu
  rcases hu with rfl | rfl | rfl | rfl | rfl
  · rfl
  · rfl
  · rfl
  · rfl
  · exact h2
theorem add_at5 {g off i : Nat} : (⟨g, off, none⟩ : Addr).add i = ⟨g, off + i, none⟩ := by unfold Addr.add; split <;> simp_all
theorem argsS_one {w : World} {S : Nat → Prop} {v : Value} {l : List Tm} (h : ArgsS w S v l) : v.oneCell' = true := by
  obtain ⟨a, c, rfl⟩ := h.at.slice
  rfl

end Go.Proofs.Ytnmdnajbafpfiaa

namespace Go.Proofs.Ytnmdnajbafpfiaa
open Go.RowKit
set_option linter.unusedVariables false
set_option linter.unusedSimpArgs false

/-- A list, and whether. -/
def OldB2 (l : List Bd) (b : Bool) (w : World) (e : Ending) (w' : World) : Prop := ∃ v, e = .returned (.tuple #[v, .bool b]) ∧ ListS bdE w' Any v l ∧ Below w.heap.size w w'
theorem RowB.size {α : Type} {E : El α} {e : TypeId} {w : World} {lo : Nat} {v : Value} {xs : List α} (h : RowB E e w lo v xs) (hp : 0 < xs.length) : lo < w.heap.size := by
  obtain ⟨L, rfl, hrow, hch⟩ := h
  rw [List.length_map] at hp
  rcases hrow.2 with ⟨_, hn⟩ | ⟨g', cap', cur, rfl, h1, h2⟩
  · omega
  · have := (World.ownsRow.lt hrow g' rfl); omega

/-! ### The composition, plain -/
def mapped (t : List Bd) (b : Bd) : Bd := ⟨b.v, putT t b.t⟩
def selfB (b : Bd) : Bool := decide (b.t.kind = 1 ∧ b.t.num = b.v)
def cmpA (s t : List Bd) : List Bd := (s.map (mapped t)).filter fun b => !selfB b
def rest (s t : List Bd) : List Bd := t.filter fun b => !getB s b.v
def cmpB (s t : List Bd) : List Bd := (rest s t).foldl insB (cmpA s t)
def CompP (s t : List Bd) : Prop := SubstP s ∧ SubstP t ∧ (∀ b ∈ s, (putT t b.t).nodes ≤ 5000) ∧ SubstP (cmpB s t)
open Classical in
noncomputable def coL (s t : List Bd) : List Bd := if CompP s t then cmpB s t else []
open Classical in
noncomputable def coB (s t : List Bd) : Bool := decide (CompP s t)
open Classical in
theorem co_yes {s t : List Bd} (h : CompP s t) : coL s t = cmpB s t ∧ coB s t = true := ⟨by rw [coL, if_pos h], by rw [coB, decide_eq_true h]⟩
open Classical in
theorem co_no {s t : List Bd} (h : ¬ CompP s t) : coL s t = [] ∧ coB s t = false := ⟨by rw [coL, if_neg h], by rw [coB, decide_eq_false h]⟩
theorem insB_mem {s : List Bd} {b x : Bd} : x ∈ insB s b ↔ x = b ∨ x ∈ s := by
  unfold insB
  rw [List.mem_append, List.mem_cons]
  constructor
  · rintro (h | h | h)
    · exact .inr (List.mem_of_mem_take h)
    · exact .inl h
    · exact .inr (List.mem_of_mem_drop h)
  · rintro (h | h)
    · exact .inr (.inl h)
    · rw [← List.take_append_drop (scanB s b.v s.length) s, List.mem_append] at h
      rcases h with h | h
      · exact .inl h
      · exact .inr (.inr h)
theorem foldB_mem {x : Bd} : ∀ (r s : List Bd), x ∈ r.foldl insB s ↔ x ∈ r ∨ x ∈ s
  | [], s => by simp
  | b :: r, s => by
    rw [List.foldl_cons, foldB_mem r, insB_mem, List.mem_cons]
    constructor
    · rintro (h | h | h)
      · exact .inl (.inr h)
      · exact .inl (.inl h)
      · exact .inr h
    · rintro ((h | h) | h)
      · exact .inr (.inl h)
      · exact .inl h
      · exact .inr (.inr h)
theorem foldB_length : ∀ (r s : List Bd), (r.foldl insB s).length = r.length + s.length
  | [], s => by simp
  | b :: r, s => by rw [List.foldl_cons, foldB_length r, insB_length, List.length_cons]; omega
theorem cmpA_yes {s t : List Bd} {k : Nat} {x : Bd} (hx : s[k]? = some x) (h : selfB (mapped t x) = false) : cmpA (s.take (k + 1)) t = cmpA (s.take k) t ++ [mapped t x] := by
  rw [cmpA, takeE hx, List.map_append, List.filter_append]
  simp [cmpA, List.filter_cons, h]
theorem cmpA_not {s t : List Bd} {k : Nat} {x : Bd} (hx : s[k]? = some x) (h : selfB (mapped t x) = true) : cmpA (s.take (k + 1)) t = cmpA (s.take k) t := by
  rw [cmpA, takeE hx, List.map_append, List.filter_append]
  simp [cmpA, List.filter_cons, h]
theorem cmpA_len (s t : List Bd) (k : Nat) : (cmpA (s.take k) t).length ≤ s.length := by
  unfold cmpA
  refine Nat.le_trans (List.length_filter_le _ _) ?_
  rw [List.length_map, List.length_take]; omega
theorem restB_yes {s t : List Bd} {k : Nat} {x : Bd} (hx : t[k]? = some x) (h : getB s x.v = false) (a : List Bd) : (rest s (t.take (k + 1))).foldl insB a = insB ((rest s (t.take k)).foldl insB a) x := by
  have : rest s (t.take (k + 1)) = rest s (t.take k) ++ [x] := by
    rw [rest, takeE hx, List.filter_append]
    simp [rest, List.filter_cons, h]
  rw [this, List.foldl_append]
  rfl
theorem rest_not {s t : List Bd} {k : Nat} {x : Bd} (hx : t[k]? = some x) (h : getB s x.v = true) (a : List Bd) : (rest s (t.take (k + 1))).foldl insB a = (rest s (t.take k)).foldl insB a := by
  have : rest s (t.take (k + 1)) = rest s (t.take k) := by
    rw [rest, takeE hx, List.filter_append]
    simp [rest, List.filter_cons, h]
  rw [this]
theorem rest_len (s t : List Bd) (k : Nat) : (rest s (t.take k)).length ≤ t.length := by
  unfold rest
  refine Nat.le_trans (List.length_filter_le _ _) ?_
  rw [List.length_take]; omega
theorem cmpB_each {s t : List Bd} (hs : SubstP s) (ht : SubstP t) (hf : ∀ b ∈ s, (putT t b.t).nodes ≤ 5000) : EachB (cmpB s t) := by
  have ls := hs.1.2.2
  have lt := ht.1.2.2
  refine ⟨?_, fun b hb => ?_⟩
  · rw [cmpB, foldB_length]
    have h1 := rest_len s t t.length
    have h2 := cmpA_len s t s.length
    rw [List.take_length] at h1 h2
    omega
  · rw [cmpB, foldB_mem] at hb
    rcases hb with hb | hb
    · have hb' := (List.mem_filter.1 hb).1
      have h1 := good_sz (ht.good b hb')
      have h2 := ht.nodes b hb'
      omega
    · obtain ⟨hb, _⟩ := List.mem_filter.1 hb
      obtain ⟨x, hx, rfl⟩ := List.mem_map.1 hb
      have h1 := good_sz (putT_good ht.good x.t.nodes x.t (Nat.le_refl _) (hs.good x hx))
      have h2 := hf x hx
      show (putT t x.t).sz ≤ 1048575
      omega

end Go.Proofs.Ytnmdnajbafpfiaa

namespace Go.Proofs.Ytnmdnajbafpfiaa
open Go.RowKit
set_option linter.unusedVariables false
set_option linter.unusedSimpArgs false

def varTm (v : Int) : Tm := .mk 1 v ⟨#[]⟩ []
/-- The equation of one binding holds under t. -/
def EqnP (t : List Bd) (b : Bd) : Prop := (putT t (varTm b.v)).nodes ≤ 5000 ∧ (putT t b.t).nodes ≤ 5000 ∧ ((putT t (varTm b.v)).cmp (putT t b.t) == 0) = true
def MoreP (s t : List Bd) : Prop := SubstP s ∧ SubstP t ∧ ∀ b ∈ s, EqnP t b
open Classical in
noncomputable def moreB (s t : List Bd) : Bool := decide (MoreP s t)
open Classical in
theorem more_true {s t : List Bd} : moreB s t = true ↔ MoreP s t := by simp [moreB]
open Classical in
theorem more_false {s t : List Bd} : moreB s t = false ↔ ¬ MoreP s t := by simp [moreB]
theorem varTm_ok {v : Int} (h : 0 ≤ v ∧ v ≤ 100000) : Ok (varTm v) := ⟨by rw [nodes_eq]; show 1 + nodesL [] ≤ 5000; rw [nodesL_nil]; decide, .var v h.1 h.2⟩

end Go.Proofs.Ytnmdnajbafpfiaa

