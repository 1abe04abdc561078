/-
  Substitutions drawn: l01Once, l04Draw, l04Low, MakeSubst, MakeLow; what is drawn is a substitution.
-/
import Derived.Test.YtoihimdfmncdoaaDraws
import Derived.Test.YtoihimdfmncdoaaSubstT
import Derived.Test.YtoihimdfmncdoaaSpecComp
import Derived.Test.YtoihimdfmncdoaaUnifT
namespace Go.Proofs.Ytoihimdfmncdoaa
open Go.RowKit
set_option linter.unusedVariables false
set_option linter.unusedSimpArgs false

/-- A row of the call's own whose elements hold what has come since. -/
def RowN {α : Type} (E : El α) (e : TypeId) (w : World) (lo : Nat) (v : Value) (xs : List α) : Prop :=
  ∃ L : List (α × Value), xs = L.map Prod.fst ∧ w.ownsRow lo e E.n v L.length (cellsE E L) ∧ ∀ (j : Nat) (p : α × Value), L[j]? = some p → ∃ C : Nat → Prop, E.kid w C p.2 p.1 ∧ ∀ b, C b → lo ≤ b ∧ b < w.heap.size ∧ v.ownBlock ≠ some b
theorem RowN.toK {α : Type} {E : El α} {e : TypeId} {w : World} {lo : Nat} {v : Value} {xs : List α} (h : RowN E e w lo v xs) : RowK E e w lo v xs := by
  obtain ⟨L, hL, hrow, hch⟩ := h
  exact ⟨L, hL, hrow, fun j p hj => by obtain ⟨C, c1, c2⟩ := hch j p hj; exact ⟨C, c1, fun b hb => (c2 b hb).2⟩⟩
theorem RowN.slice {α : Type} {E : El α} {e : TypeId} {w : World} {lo : Nat} {v : Value} {xs : List α} (h : RowN E e w lo v xs) : ∃ a c, v = .slice a xs.length c := h.toK.slice
theorem RowN.only {α : Type} {E : El α} {e : TypeId} {w w' : World} {lo p : Nat} {v : Value} {xs : List α} (h : RowN E e w lo v xs) (ho : Only (iv p (p + 1)) w w') (hp : p < lo) : RowN E e w' lo v xs := by
  obtain ⟨L, hL, hrow, hch⟩ := h
  have far : ∀ k, lo ≤ k → ¬ iv p (p + 1) k := fun k hk hh => by have := hh.2; omega
  refine ⟨L, hL, rowE_moved hrow fun k hk => ho.block k (World.ownsRow.lt hrow k hk).2 (far k (World.ownsRow.lt hrow k hk).1), fun j q hj => ?_⟩
  obtain ⟨C, c1, c2⟩ := hch j q hj
  exact ⟨C, E.kidFrame c1 ho.size fun k hk hks => ho.block k hks (far k (c2 k hk).1), fun b hb => ⟨(c2 b hb).1, Nat.lt_of_lt_of_le (c2 b hb).2.1 ho.size, (c2 b hb).2.2⟩⟩
theorem RowN.base {α : Type} {E : El α} {e : TypeId} {w : World} {lo lo' : Nat} {v : Value} {xs : List α} (h : RowN E e w lo v xs) (hb : lo' ≤ lo) : RowN E e w lo' v xs := by
  obtain ⟨L, hL, hrow, hch⟩ := h
  refine ⟨L, hL, ⟨hrow.1, ?_⟩, fun j p hj => by obtain ⟨C, c1, c2⟩ := hch j p hj; exact ⟨C, c1, fun b hb' => ⟨Nat.le_trans hb (c2 b hb').1, (c2 b hb').2⟩⟩⟩
  rcases hrow.2 with h | ⟨g, cap, cur, h0, h1, h2⟩
  · exact .inl h
  · exact .inr ⟨g, cap, cur, h0, Nat.le_trans hb h1, h2⟩
theorem rowN_start {α : Type} {E : El α} {e : TypeId} {w : World} : RowN E e (w.alloc (.cells #[] e)) w.heap.size (.slice (some ⟨w.heap.size, 0, none⟩) 0 0) [] :=
  ⟨[], rfl, ⟨by simp [cellsE], .inr ⟨w.heap.size, 0, #[], rfl, Nat.le_refl _, heap_new w _, Nat.le_refl _, Nat.zero_le _, by simp, by simp [cellsE]⟩⟩, fun j p hj => by simp at hj⟩
theorem rowN_append {α : Type} {E : El α} {e : TypeId} {w W1 w1 : World} {lo : Nat} {v u : Value} {L : List (α × Value)} {x : α} {gg cap n : Nat} (hn : n = L.length)
    (hch : ∀ (j : Nat) (p : α × Value), L[j]? = some p → ∃ C : Nat → Prop, E.kid w C p.2 p.1 ∧ ∀ b, C b → lo ≤ b ∧ b < w.heap.size ∧ v.ownBlock ≠ some b)
    {C : Nat → Prop} (hu : E.kid w C u x) (hC : ∀ b, C b → lo ≤ b ∧ b < w.heap.size ∧ v.ownBlock ≠ some b) (hW : Below w.heap.size w W1)
    (hown : w1.ownsRow lo e E.n (.slice (some ⟨gg, 0, none⟩) (n + 1) cap) (n + 1) (cellsE E L ++ E.cells x u)) (hgr : W1.grownBy w1 v.ownBlock) (hat : v.ownBlock = some gg ∨ w.heap.size ≤ gg) :
    RowN E e w1 lo (.slice (some ⟨gg, 0, none⟩) (n + 1) cap) (L.map Prod.fst ++ [x]) := by
  subst hn
  have hs : w.heap.size ≤ w1.heap.size := Nat.le_trans hW.size hgr.size
  have same : ∀ j, j < w.heap.size → v.ownBlock ≠ some j → w1.heap[j]? = w.heap[j]? := fun j hj hne => (hgr.block j (Nat.lt_of_lt_of_le hj hW.size) (fun e => hne e.symm)).trans (hW.block j hj)
  have e1 : cellsE E (L ++ [(x, u)]) = cellsE E L ++ E.cells x u := by rw [cellsE_append, cellsE_one]
  rw [← e1] at hown
  have one : ∀ (C : Nat → Prop) (U : Value) (y : α), E.kid w C U y → (∀ b, C b → lo ≤ b ∧ b < w.heap.size ∧ v.ownBlock ≠ some b) → ∃ C : Nat → Prop, E.kid w1 C U y ∧ ∀ b, C b → lo ≤ b ∧ b < w1.heap.size ∧ (Value.slice (some ⟨gg, 0, none⟩) (L.length + 1) cap).ownBlock ≠ some b := by
    intro C U y c1 c2
    refine ⟨C, E.kidFrame c1 hs fun k hk hks => same k hks (c2 k hk).2.2, fun b hb => ⟨(c2 b hb).1, Nat.lt_of_lt_of_le (c2 b hb).2.1 hs, fun e => ?_⟩⟩
    simp only [Value.ownBlock, Option.some.injEq] at e
    subst e
    rcases hat with h | h
    · exact (c2 _ hb).2.2 h
    · have := (c2 _ hb).2.1; omega
  refine ⟨L ++ [(x, u)], by simp, by simpa using hown, fun j p hj => ?_⟩
  by_cases hjl : j < L.length
  · rw [List.getElem?_append_left hjl] at hj
    obtain ⟨C, c1, c2⟩ := hch j p hj
    exact one C p.2 p.1 c1 c2
  · have hj' : j = L.length := by
      have := (List.getElem?_eq_some_iff.1 hj).1
      simp at this
      omega
    subst hj'
    rw [List.getElem?_append_right (Nat.le_refl _), Nat.sub_self] at hj
    simp at hj
    subst hj
    exact one C u x hu hC

/-- A term of the right form whose variables are below v. -/
def GV (v : Int) (t : Tm) : Prop := Good t ∧ ∀ u ∈ t.vl, u < v
theorem closed_gv {v : Int} (h : v ≤ 256) : Closed v (GV v) where
  nil := ⟨.nil, fun u hu => by simp [Tm.vl, vlL] at hu⟩
  sym := fun s hs => ⟨.sym s hs, fun u hu => by simp [Tm.vl, vlL] at hu⟩
  int := fun r h0 h1 => ⟨.int r (by omega) (by omega), fun u hu => by simp [Tm.vl, vlL] at hu⟩
  var := fun i h0 h1 => ⟨.var i (by omega) (by omega), fun u hu => by simp [Tm.vl] at hu; omega⟩
  pair := fun x y hx hy => ⟨.pair x y hx.1 hy.1, fun u hu => by
    simp [Tm.vl, vlL] at hu
    rcases hu with h | h
    · exact hx.2 u h
    · exact hy.2 u h⟩
/-- Bindings drawn: ascending, from lo to hi, terms of variables below v, so many nodes at most. -/
def SubD (lo hi v : Int) (n : Int) (l : List Bd) : Prop := (∀ b ∈ l, lo ≤ b.v ∧ b.v < hi ∧ GV v b.t ∧ (b.t.nodes : Int) ≤ n) ∧ l.Pairwise (fun a b => a.v < b.v)
theorem subD_nil (lo hi v n : Int) : SubD lo hi v n [] := ⟨fun b hb => (nomatch hb), List.Pairwise.nil⟩
theorem SubD.more {lo hi v n : Int} {l : List Bd} (h : SubD lo hi v n l) : SubD lo (hi + 1) v n l := ⟨fun b hb => ⟨(h.1 b hb).1, by have := (h.1 b hb).2.1; omega, (h.1 b hb).2.2⟩, h.2⟩
theorem SubD.put {lo hi v n : Int} {l : List Bd} {t : Tm} (h : SubD lo hi v n l) (hl : lo ≤ hi) (hg : GV v t) (hn : (t.nodes : Int) ≤ n) : SubD lo (hi + 1) v n (l ++ [⟨hi, t⟩]) := by
  refine ⟨fun b hb => ?_, List.pairwise_append.2 ⟨h.2, by simp, fun a ha b hb => ?_⟩⟩
  · rcases List.mem_append.1 hb with hb | hb
    · exact h.more.1 b hb
    · obtain rfl := List.mem_singleton.1 hb
      exact ⟨hl, by show hi < hi + 1; omega, hg, hn⟩
  · obtain rfl := List.mem_singleton.1 hb
    exact (h.1 a ha).2.1

theorem Ready.later {w0 w w' : World} {p B : Nat} {a : Option Addr} {len cap : Nat} (h : Ready w0 p a len cap w) (hb : Below B w w') (hp : p < B) : Ready w0 p a len cap w' := by
  obtain ⟨i, x, hi, hh⟩ := h.cur
  exact ⟨h.bytes, h.most, h.lo, Nat.lt_of_lt_of_le h.hi hb.size, h.old.trans (hb.mono (Nat.le_of_lt (Nat.lt_of_le_of_lt h.lo hp))), i, x, hi, (hb.block p hp).trans hh⟩
theorem only_later {S : Nat → Prop} {w w1 w2 : World} (h : Only S w w1) (hb : Below w.heap.size w1 w2) : Only S w w2 :=
  ⟨hb.os.trans h.os, hb.tape.trans h.tape, hb.output.trans h.output, Nat.le_trans h.size hb.size, fun k hk hn => (hb.block k hk).trans (h.block k hk hn)⟩
/-- A substitution drawn. -/
def DrawS (w0 : World) (p : Nat) (a : Option Addr) (len cap : Nat) (lo hi v n : Int) (w : World) (e : Ending) (w' : World) : Prop :=
  ∃ (l : List Bd) (u : Value), e = .returned u ∧ RowN bdE 118 w' w.heap.size u l ∧ SubD lo hi v n l ∧ Ready w0 p a len cap w' ∧ Only (iv p (p + 1)) w w'

/-- The answer is a list of bindings. -/
def MadeS (lo hi v n : Int) (w : World) (e : Ending) (w' : World) : Prop :=
  ∃ (l : List Bd) (u : Value), e = .returned u ∧ ListS bdE w' Any u l ∧ SubD lo hi v n l ∧ Below w.heap.size w w'

end Go.Proofs.Ytoihimdfmncdoaa

namespace Go.Proofs.Ytoihimdfmncdoaa
open Go.RowKit
set_option linter.unusedVariables false
set_option linter.unusedSimpArgs false
set_option linter.unusedSectionVars false

theorem asc_len {hi : Int} : ∀ (l : List Bd) (lo : Int), lo ≤ hi → l.Pairwise (fun a b => a.v < b.v) → (∀ b ∈ l, lo ≤ b.v ∧ b.v < hi) → (l.length : Int) ≤ hi - lo
  | [], lo, h, _, _ => by simp; omega
  | b :: l, lo, h, hp, hb => by
    obtain ⟨h1, h2⟩ := List.pairwise_cons.1 hp
    have hb0 := hb b (by simp)
    have := asc_len l (b.v + 1) (by omega) h2 fun x hx => ⟨by have := h1 x hx; omega, (hb x (List.mem_cons_of_mem _ hx)).2⟩
    rw [List.length_cons]
    omega
/-- Ascending variables, valid terms whose variables are not bound: a substitution. -/
theorem substP_of {l : List Bd} {hi : Int} (hhi : 0 ≤ hi) (hh : hi ≤ 400) (hp : l.Pairwise (fun a b => a.v < b.v)) (hb : ∀ b ∈ l, 0 ≤ b.v ∧ b.v < hi ∧ Ok b.t ∧ ∀ u ∈ b.t.vl, u < b.v ∧ getO l u = none) : SubstP l := by
  have hl := asc_len l 0 hhi hp fun b h => ⟨(hb b h).1, (hb b h).2.1⟩
  refine ⟨⟨fun k x hx => ?_, fun k x y hx hy => ?_, by omega⟩, fun b h => ⟨fun hk => ?_, fun v hv => ((hb b h).2.2.2 v hv).2⟩⟩
  · have := hb x (List.mem_of_getElem? hx)
    exact ⟨⟨this.1, by omega⟩, this.2.2.1⟩
  · obtain ⟨h1, e1⟩ := List.getElem?_eq_some_iff.1 hx
    obtain ⟨h2, e2⟩ := List.getElem?_eq_some_iff.1 hy
    have := List.pairwise_iff_getElem.1 hp k (k + 1) h1 h2 (by omega)
    rwa [e1, e2] at this
  · have := ((hb b h).2.2.2 b.t.num (by rw [vl_of_var hk.1]; simp)).1
    omega
theorem SubD.subst {lo hi v n : Int} {l : List Bd} (h : SubD lo hi v n l) (h0 : 0 ≤ lo) (h1 : lo ≤ hi) (h2 : hi ≤ 400) (hv : v ≤ lo) (hn : n ≤ 5000) : SubstP l :=
  substP_of (by omega) h2 h.2 fun b hb => by
    obtain ⟨b0, b1, bg, bn⟩ := h.1 b hb
    refine ⟨by omega, b1, ⟨by omega, bg.1⟩, fun u hu => ⟨by have := bg.2 u hu; omega, getO_none.2 fun c hc e => ?_⟩⟩
    have h3 := (h.1 c hc).1
    have h4 := bg.2 u hu
    omega
end Go.Proofs.Ytoihimdfmncdoaa

