/-
  Substitutions drawn: l01Once, l04Draw, l04Low, MakeSubst, MakeLow; what is drawn is a substitution.
-/
import Derived.Test.YtnmdnajbafpfiaaDraws
import Derived.Test.YtnmdnajbafpfiaaSubstT
import Derived.Test.YtnmdnajbafpfiaaSpecComp
import Derived.Test.YtnmdnajbafpfiaaUnifT
namespace Go.Proofs.Ytnmdnajbafpfiaa
open Go.RowKit
set_option linter.unusedVariables false
set_option linter.unusedSimpArgs false

/-- A row of the call's own whose elements hold what has come since. -/
def RowN {α : Type} (E : El α) (e : TypeId) (w : World) (lo : Nat) (v : Value) (xs : List α) : Prop :=
  ∃ L : List (α × Value), xs = L.map Prod.fst ∧ w.ownsRow lo e E.n v L.length (cellsE E L) ∧ ∀ (j : Nat) (p : α × Value), L[j]? = some p → ∃ C : Nat → Prop, E.kid w C p.2 p.1 ∧ ∀ b, C b → lo ≤ b ∧ b < w.heap.size ∧ v.ownBlock ≠ some b
theorem RowN.toK {α : Type} {E : El α} {e : TypeId} {w : World} {lo : Nat} {v : Value} {xs : List α} (h : RowN E e w lo v xs) : RowK E e w lo v xs := by
  obtain ⟨L, hL, hrow, hch⟩ := h
  exact ⟨L, hL, hrow, fun j p hj => by obtain ⟨C, c1, c2⟩ := hch j p hj; exact ⟨C, c1, fun b hb => (c2 b hb).2⟩⟩
theorem RowN.slice {α : Type} {E : El α} {e : TypeId} {w : World} {lo : Nat} {v : Value} {xs : List α} (h : RowN E e w lo v xs) : ∃ a c, v = .slice a xs.length c := h.toK.slice
theorem RowN.only {α : Type} {E : El α} {e : TypeId} {w w' : World} {lo p : Nat} {v : Value} {xs : List α} (h : RowN E e w lo v xs) (ho : Only (iv p (p + 1)) w w') (hp : p < lo) : RowN E e w' lo v xs := by
  obtain ⟨L, hL, hrow, hch⟩ := h
  have far : ∀ k, lo ≤ k → ¬ iv p (p + 1) k := fun k hk hh => by have := hh.2; omega
  refine ⟨L, hL, rowE_moved hrow fun k hk => ho.block k (World.ownsRow.lt hrow k hk).2 (far k (World.ownsRow.lt hrow k hk).1), fun j q hj => ?_⟩
  obtain ⟨C, c1, c2⟩ := hch j q hj
  exact ⟨C, E.kidFrame c1 ho.size fun k hk hks => ho.block k hks (far k (c2 k hk).1), fun b hb => ⟨(c2 b hb).1, Nat.lt_of_lt_of_le (c2 b hb).2.1 ho.size, (c2 b hb).2.2⟩⟩
theorem RowN.base {α : Type} {E : El α} {e : TypeId} {w : World} {lo lo' : Nat} {v : Value} {xs : List α} (h : RowN E e w lo v xs) (hb : lo' ≤ lo) : RowN E e w lo' v xs := by
  obtain ⟨L, hL, hrow, hch⟩ := h
  refine ⟨L, hL, ⟨hrow.1, ?_⟩, fun j p hj => by obtain ⟨C, c1, c2⟩ := hch j p hj; exact ⟨C, c1, fun b hb' => ⟨Nat.le_trans hb (c2 b hb').1, (c2 b hb').2⟩⟩⟩
  rcases hrow.2 with h | ⟨g, cap, cur, h0, h1, h2⟩
  · exact .inl h
  · exact .inr ⟨g, cap, cur, h0, Nat.le_trans hb h1, h2⟩
theorem rowN_start {α : Type} {E : El α} {e : TypeId} {w : World} : RowN E e (w.alloc (.cells #[] e)) w.heap.size (.slice (some ⟨w.heap.size, 0, none⟩) 0 0) [] :=
  ⟨[], rfl, ⟨by simp [cellsE], .inr ⟨w.heap.size, 0, #[], rfl, Nat.le_refl _, heap_new w _, Nat.le_refl _, Nat.zero_le _, by simp, by simp [cellsE]⟩⟩, fun j p hj => by simp at hj⟩
theorem rowN_append {α : Type} {E : El α} {e : TypeId} {w W1 w1 : World} {lo : Nat} {v u : Value} {L : List (α × Value)} {x : α} {gg cap n : Nat} (hn : n = L.length)
    (hch : ∀ (j : Nat) (p : α × Value), L[j]? = some p → ∃ C : Nat → Prop, E.kid w C p.2 p.1 ∧ ∀ b, C b → lo ≤ b ∧ b < w.heap.size ∧ v.ownBlock ≠ some b)
    {C : Nat → Prop} (hu : E.kid w C u x) (hC : ∀ b, C b → lo ≤ b ∧ b < w.heap.size ∧ v.ownBlock ≠ some b) (hW : Below w.heap.size w W1)
    (hown : w1.ownsRow lo e E.n (.slice (some ⟨gg, 0, none⟩) (n + 1) cap) (n + 1) (cellsE E L ++ E.cells x u)) (hgr : W1.grownBy w1 v.ownBlock) (hat : v.ownBlock = some gg ∨ w.heap.size ≤ gg) :
    RowN E e w1 lo (.slice (some ⟨gg, 0, none⟩) (n + 1) cap) (L.map Prod.fst ++ [x]) := by
  subst hn
  have hs : w.heap.size ≤ w1.heap.size := Nat.le_trans hW.size hgr.size
  have same : ∀ j, j < w.heap.size → v.ownBlock ≠ some j → w1.heap[j]? = w.heap[j]? := fun j hj hne => (hgr.block j (Nat.lt_of_lt_of_le hj hW.size) (fun e => hne e.symm)).trans (hW.block j hj)
  have e1 : cellsE E (L ++ [(x, u)]) = cellsE E L ++ E.cells x u := by rw [cellsE_append, cellsE_one]
  rw [← e1] at hown
  have one : ∀ (C : Nat → Prop) (U : Value) (y : α), E.kid w C U y → (∀ b, C b → lo ≤ b ∧ b < w.heap.size ∧ v.ownBlock ≠ some b) → ∃ C : Nat → Prop, E.kid w1 C U y ∧ ∀ b, C b → lo ≤ b ∧ b < w1.heap.size ∧ (Value.slice (some ⟨gg, 0, none⟩) (L.length + 1) cap).ownBlock ≠ some b := by
    intro C U y c1 c2
    refine ⟨C, E.kidFrame c1 hs fun k hk hks => same k hks (c2 k hk).2.2, fun b hb => ⟨(c2 b hb).1, Nat.lt_of_lt_of_le (c2 b hb).2.1 hs, fun e => ?_⟩⟩
    simp only [Value.ownBlock, Option.some.injEq] at e
    subst e
    rcases hat with h | h
    · exact (c2 _ hb).2.2 h
    · have := (c2 _ hb).2.1; omega
  refine ⟨L ++ [(x, u)], by simp, by simpa using hown, fun j p hj => ?_⟩
  by_cases hjl : j < L.length
  · rw [List.getElem?_append_left hjl] at hj
    obtain ⟨C, c1, c2⟩ := hch j p hj
    exact one C p.2 p.1 c1 c2
  · have hj' : j = L.length := by
      have := (List.getElem?_eq_some_iff.1 hj).1
      simp at this
      omega
    subst hj'
    rw [List.getElem?_append_right (Nat.le_refl _), Nat.sub_self] at hj
    simp at hj
    subst hj
    exact one C u x hu hC

/-- A term of the right form whose variables are below v. -/
def GV (v : Int) (t : Tm) : Prop := Good t ∧ ∀ u ∈ t.vl, u < v
theorem closed_gv {v : Int} (h : v ≤ 256) : Closed v (GV v) where
  nil := ⟨.nil, fun u hu => by simp [Tm.vl, vlL] at hu⟩
  sym := fun s hs => ⟨.sym s hs, fun u hu => by simp [Tm.vl, vlL] at hu⟩
  int := fun r h0 h1 => ⟨.int r (by omega) (by omega), fun u hu => by simp [Tm.vl, vlL] at hu⟩
  var := fun i h0 h1 => ⟨.var i (by omega) (by omega), fun u hu => by simp [Tm.vl] at hu; omega⟩
  pair := fun x y hx hy => ⟨.pair x y hx.1 hy.1, fun u hu => by
    simp [Tm.vl, vlL] at hu
    rcases hu with h | h
    · exact hx.2 u h
    · exact hy.2 u h⟩
/-- Bindings drawn: ascending, from lo to hi, terms of variables below v, so many nodes at most. -/
def SubD (lo hi v : Int) (n : Int) (l : List Bd) : Prop := (∀ b ∈ l, lo ≤ b.v ∧ b.v < hi ∧ GV v b.t ∧ (b.t.nodes : Int) ≤ n) ∧ l.Pairwise (fun a b => a.v < b.v)
theorem subD_nil (lo hi v n : Int) : SubD lo hi v n [] := ⟨fun b hb => (nomatch hb), List.Pairwise.nil⟩
theorem SubD.more {lo hi v n : Int} {l : List Bd} (h : SubD lo hi v n l) : SubD lo (hi + 1) v n l := ⟨fun b hb => ⟨(h.1 b hb).1, by have := (h.1 b hb).2.1; omega, (h.1 b hb).2.2⟩, h.2⟩
theorem SubD.put {lo hi v n : Int} {l : List Bd} {t : Tm} (h : SubD lo hi v n l) (hl : lo ≤ hi) (hg : GV v t) (hn : (t.nodes : Int) ≤ n) : SubD lo (hi + 1) v n (l ++ [⟨hi, t⟩]) := by
  refine ⟨fun b hb => ?_, List.pairwise_append.2 ⟨h.2, by simp, fun a ha b hb => ?_⟩⟩
  · rcases List.mem_append.1 hb with hb | hb
    · exact h.more.1 b hb
    · obtain rfl := List.mem_singleton.1 hb
      exact ⟨hl, by show hi < hi + 1; omega, hg, hn⟩
  · obtain rfl := List.mem_singleton.1 hb
    exact (h.1 a ha).2.1

set_option maxHeartbeats 400000 in
theorem once_any (n : Int) (w0 : World) (p : Nat) (a : Option Addr) (len cap : Nat) (w : World) (h : Ready w0 p a len cap w) (h0 : 0 < n) (h1 : n ≤ 256) :
    Calls Try.prog 65 #[.pointer (some ⟨p, 0, none⟩), .int .i64 n] w fun e w' => ∃ b, e = .returned (.bool b) ∧ Ready w0 p a len cap w' ∧ Only (iv p (p + 1)) w w' := by
  have HC := Lib.hid (below_any n w0 p a len cap w h h0 h1)
  clear h
  go_enter Try.func65, Try.ntmps65
  go_wp2_with fail
  refine HC.out.mono ?_
  rintro e w1 ⟨r, rfl, r0, r1, hg, ho⟩
  have HG := Lib.hid (And.intro hg ho)
  clear hg ho
  go_wp2
  go_ret
  exact ⟨_, rfl, HG.out⟩

theorem Ready.later {w0 w w' : World} {p B : Nat} {a : Option Addr} {len cap : Nat} (h : Ready w0 p a len cap w) (hb : Below B w w') (hp : p < B) : Ready w0 p a len cap w' := by
  obtain ⟨i, x, hi, hh⟩ := h.cur
  exact ⟨h.bytes, h.most, h.lo, Nat.lt_of_lt_of_le h.hi hb.size, h.old.trans (hb.mono (Nat.le_of_lt (Nat.lt_of_le_of_lt h.lo hp))), i, x, hi, (hb.block p hp).trans hh⟩
theorem only_later {S : Nat → Prop} {w w1 w2 : World} (h : Only S w w1) (hb : Below w.heap.size w1 w2) : Only S w w2 :=
  ⟨hb.os.trans h.os, hb.tape.trans h.tape, hb.output.trans h.output, Nat.le_trans h.size hb.size, fun k hk hn => (hb.block k hk).trans (h.block k hk hn)⟩
/-- A substitution drawn. -/
def DrawS (w0 : World) (p : Nat) (a : Option Addr) (len cap : Nat) (lo hi v n : Int) (w : World) (e : Ending) (w' : World) : Prop :=
  ∃ (l : List Bd) (u : Value), e = .returned u ∧ RowN bdE 73 w' w.heap.size u l ∧ SubD lo hi v n l ∧ Ready w0 p a len cap w' ∧ Only (iv p (p + 1)) w w'

set_option maxRecDepth 100000 in
set_option maxHeartbeats 2000000 in
theorem drawSubst_any (w0 : World) (p : Nat) (a : Option Addr) (len cap : Nat) (w : World) (h : Ready w0 p a len cap w) :
    Calls Try.prog 35 #[.pointer (some ⟨p, 0, none⟩)] w (DrawS w0 p a len cap 4 8 4 11 w) := by
  obtain ⟨i0, hi, hz0, hz1, hz2⟩ := info_parts infoBinding
  have HII := Lib.hid (And.intro hi (And.intro hz0 (And.intro hz1 hz2)))
  have hp := h.hi
  have HR0 := Lib.hid (rowN_start (E := bdE) (e := 73) (w := w))
  have HG0 := Lib.hid (h.below (belowAlloc (Below.refl _ _) (.cells #[] 73)))
  have HW0 : Hid (Only (iv p (p + 1)) w (w.alloc (.cells #[] 73))) := Lib.hid (Only.of_below (belowAlloc (Below.refl _ _) _))
  clear h hi hz0 hz1 hz2
  go_enter Try.func35, Try.ntmps35
  go_wp2
  go_loopw [3, 4] (fun lv iv' wr => ∃ (k : Nat) (l : List Bd), 4 ≤ k ∧ k ≤ 8 ∧ l.length ≤ k ∧ iv' = .int .i64 k ∧ Hid (RowN bdE 73 wr w.heap.size lv l) ∧ Hid (SubD 4 k 4 11 l) ∧ Hid (Ready w0 p a len cap wr) ∧ Hid (Only (iv p (p + 1)) w wr)) (fun _ iv' _ => 8 - (intOf iv').toNat)
  case atStart => exact ⟨4, [], Nat.le_refl _, by omega, Nat.zero_le _, rfl, HR0, Lib.hid (subD_nil _ _ _ _), HG0, HW0⟩
  case round =>
    obtain ⟨k, l, hk4, hk8, hlk, rfl, HO, HS, HG, HW⟩ := hrel
    clear HR0 HG0 HW0
    obtain ⟨oa, oc, rfl⟩ := HO.out.slice
    by_cases hlt : k < 8
    · have hltI : (k : Int) < 8 := by omega
      have HC := Lib.hid (once_any 2 w0 p a len cap wr HG.out (by omega) (by omega))
      go_wp2_with fail
      refine HC.out.mono ?_
      rintro e w1 ⟨b, rfl, hg, ho⟩
      have HG1 := Lib.hid hg
      have HO1 := Lib.hid (HO.out.only ho (by omega))
      have HW1 := Lib.hid (HW.out.trans ho)
      clear hg ho HC HO HG HW
      cases b with
      | false =>
        go_wp2
        go_roundw
        case rel => exact ⟨k + 1, l, by omega, by omega, by omega, by go_num, HO1, Lib.hid (by have := HS.out.more; simpa using this), HG1, HW1⟩
        case measure => simp [intOf]; omega
      | true =>
        have HD := Lib.hid (drawTerm_any w0 p a len cap 4 (closed_gv (by omega)) (by omega) (by omega) 7 6 w1 (by omega) (by omega) (by omega) HG1.out)
        go_wp2_with fail
        refine HD.out.mono ?_
        rintro e w2 ⟨t, x, c, rfl, ht, hgt, hn, hg, ho⟩
        have HG2 := Lib.hid hg
        have hs1 : w.heap.size ≤ w1.heap.size := HW1.out.size
        have hs2 : w1.heap.size ≤ w2.heap.size := ho.size
        have HU := Lib.hid ht
        have HS2 := Lib.hid (HS.out.put (by omega) hgt hn)
        have HLT := Lib.hid (fun k' (h : (Value.slice oa l.length oc).ownBlock = some k') => (rowK_block HO1.out.toK k' h))
        have HO2 := HO1.out.only ho (by omega)
        have HW2 := Lib.hid (HW1.out.trans ho)
        obtain ⟨L, hL1, hrow, hch⟩ := HO2
        have hLn : l.length = L.length := by have := congrArg List.length hL1; rwa [List.length_map] at this
        rw [← hLn] at hrow
        have HROW := Lib.hid hrow
        have HPA := Lib.hid (And.intro hL1 (And.intro hLn hch))
        clear hg ho ht hgt hn hL1 hrow hch HD HS HO1 HG1 HW1 hLn
        have HMB := Lib.hid hlk
        generalize hmm : l.length = m at HROW HPA HLT hlk ⊢
        go_wp2_with (at_builtin; refine wpList_append_lies _ rfl _ _ 23 rfl w.heap.size 73 i0 _ 5 64 Try.underlying23 HII.out.1 HII.out.2.1 HII.out.2.2.1 HII.out.2.2.2 rfl (by omega) (.slice oa m oc) m (cellsE bdE L) rfl (HROW.out.alloc _) ⟨w2.heap.size, 0, none⟩ 1 1 (bdE.cells ⟨k, t⟩ (.slice x t.args.length c)) rfl rfl (World.news_of_block (heap_alloc_new w2 _)) (by simp [bdE, Value.oneCell']) (by omega) (by unfold maxLen; omega) (by omega) (by simp; omega) (w2.heap.size + 1) (by simp) ?_; intro gg cap' w3 hown1 hgrow hat hlt1; have HAP := Lib.hid (And.intro hown1 (And.intro hgrow (And.intro hat hlt1))); clear hown1 hgrow hat hlt1)
        have HB3 : Hid (Below w.heap.size w2 w3) := Lib.hid (((belowAlloc (Below.refl _ _) (.cells #[.int .i64 k, .int .i64 t.kind, .int .i64 t.num, .string t.name, .slice x t.args.length c] 73)).mono (by omega)).trans (below_of_grown HAP.out.2.1 (by simp; omega) (fun j hj => (HLT.out j hj).1)))
        have HN : Hid (RowN bdE 73 w3 w.heap.size (.slice (some ⟨gg, 0, none⟩) (m + 1) cap') (l ++ [⟨k, t⟩])) := Lib.hid (by
          have h := rowN_append (E := bdE) (x := ⟨k, t⟩) HPA.out.2.1 HPA.out.2.2 (C := iv w1.heap.size w2.heap.size) HU.out (fun b hb => ⟨by have := hb.1; omega, hb.2, fun e => by have h1 := (HLT.out b e).2; have h2 := hb.1; omega⟩) (belowAlloc (Below.refl _ _) _) HAP.out.1 HAP.out.2.1 (HAP.out.2.2.1.imp id (fun h => by omega))
          rw [← HPA.out.1] at h
          exact h)
        have HG3 := Lib.hid (HG2.out.later HB3.out hp)
        have HW3 := Lib.hid (only_later HW2.out HB3.out)
        clear HAP HPA HROW HLT HU HB3 HG2 HW2
        go_wp2
        go_roundw
        case rel => exact ⟨k + 1, l ++ [⟨k, t⟩], by omega, by omega, by simp; omega, by go_num, HN, Lib.hid (by have := HS2.out; simpa using this), HG3, HW3⟩
        case measure => simp [intOf]; omega
    · obtain rfl : k = 8 := by omega
      go_wp2
      go_ret
      exact ⟨l, _, rfl, HO.out, HS.out, HG.out, HW.out⟩

/-- The answer is a list of bindings. -/
def MadeS (lo hi v n : Int) (w : World) (e : Ending) (w' : World) : Prop :=
  ∃ (l : List Bd) (u : Value), e = .returned u ∧ ListS bdE w' Any u l ∧ SubD lo hi v n l ∧ Below w.heap.size w w'

end Go.Proofs.Ytnmdnajbafpfiaa

namespace Go.Proofs.Ytnmdnajbafpfiaa
open Go.RowKit
set_option linter.unusedVariables false
set_option linter.unusedSimpArgs false
set_option linter.unusedSectionVars false

theorem asc_len {hi : Int} : ∀ (l : List Bd) (lo : Int), lo ≤ hi → l.Pairwise (fun a b => a.v < b.v) → (∀ b ∈ l, lo ≤ b.v ∧ b.v < hi) → (l.length : Int) ≤ hi - lo
  | [], lo, h, _, _ => by simp; omega
  | b :: l, lo, h, hp, hb => by
    obtain ⟨h1, h2⟩ := List.pairwise_cons.1 hp
    have hb0 := hb b (by simp)
    have := asc_len l (b.v + 1) (by omega) h2 fun x hx => ⟨by have := h1 x hx; omega, (hb x (List.mem_cons_of_mem _ hx)).2⟩
    rw [List.length_cons]
    omega
/-- Ascending variables, valid terms whose variables are not bound: a substitution. -/
theorem substP_of {l : List Bd} {hi : Int} (hhi : 0 ≤ hi) (hh : hi ≤ 400) (hp : l.Pairwise (fun a b => a.v < b.v)) (hb : ∀ b ∈ l, 0 ≤ b.v ∧ b.v < hi ∧ Ok b.t ∧ ∀ u ∈ b.t.vl, u < b.v ∧ getO l u = none) : SubstP l := by
  have hl := asc_len l 0 hhi hp fun b h => ⟨(hb b h).1, (hb b h).2.1⟩
  refine ⟨⟨fun k x hx => ?_, fun k x y hx hy => ?_, by omega⟩, fun b h => ⟨fun hk => ?_, fun v hv => ((hb b h).2.2.2 v hv).2⟩⟩
  · have := hb x (List.mem_of_getElem? hx)
    exact ⟨⟨this.1, by omega⟩, this.2.2.1⟩
  · obtain ⟨h1, e1⟩ := List.getElem?_eq_some_iff.1 hx
    obtain ⟨h2, e2⟩ := List.getElem?_eq_some_iff.1 hy
    have := List.pairwise_iff_getElem.1 hp k (k + 1) h1 h2 (by omega)
    rwa [e1, e2] at this
  · have := ((hb b h).2.2.2 b.t.num (by rw [vl_of_var hk.1]; simp)).1
    omega
theorem SubD.subst {lo hi v n : Int} {l : List Bd} (h : SubD lo hi v n l) (h0 : 0 ≤ lo) (h1 : lo ≤ hi) (h2 : hi ≤ 400) (hv : v ≤ lo) (hn : n ≤ 5000) : SubstP l :=
  substP_of (by omega) h2 h.2 fun b hb => by
    obtain ⟨b0, b1, bg, bn⟩ := h.1 b hb
    refine ⟨by omega, b1, ⟨by omega, bg.1⟩, fun u hu => ⟨by have := bg.2 u hu; omega, getO_none.2 fun c hc e => ?_⟩⟩
    have h3 := (h.1 c hc).1
    have h4 := bg.2 u hu
    omega
end Go.Proofs.Ytnmdnajbafpfiaa

