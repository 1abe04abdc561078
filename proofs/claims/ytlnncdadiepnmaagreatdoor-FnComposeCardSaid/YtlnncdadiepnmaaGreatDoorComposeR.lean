/-
  Substitutions drawn: l01Once, l04Draw.
  Plain: a composition of drawn substitutions has the effect of one after the other.
  Plain: what FormatSubst writes is read back by ParseSubst.
-/
import Derived.Test.YtlnncdadiepnmaaGreatDoorDraws
import Derived.Test.YtlnncdadiepnmaaGreatDoorSubstT
import Derived.Test.YtlnncdadiepnmaaGreatDoorSpecComp
import Derived.Test.YtlnncdadiepnmaaGreatDoorPutP
import Derived.Test.YtlnncdadiepnmaaGreatDoorTextRead
import Derived.Test.YtlnncdadiepnmaaGreatDoorParseB
import Derived.Test.YtlnncdadiepnmaaGreatDoorFormatB
namespace Go.Proofs.YtlnncdadiepnmaaGreatDoor
open Go.RowKit
set_option linter.unusedVariables false
set_option linter.unusedSimpArgs false

/-- A row of the call's own whose elements hold what has come since. -/
def RowN {α : Type} (E : El α) (e : TypeId) (w : World) (lo : Nat) (v : Value) (xs : List α) : Prop :=
  ∃ L : List (α × Value), xs = L.map Prod.fst ∧ w.ownsRow lo e E.n v L.length (cellsE E L) ∧ ∀ (j : Nat) (p : α × Value), L[j]? = some p → ∃ C : Nat → Prop, E.kid w C p.2 p.1 ∧ ∀ b, C b → lo ≤ b ∧ b < w.heap.size ∧ v.ownBlock ≠ some b
theorem RowN.toK {α : Type} {E : El α} {e : TypeId} {w : World} {lo : Nat} {v : Value} {xs : List α} (h : RowN E e w lo v xs) : RowK E e w lo v xs := by
  obtain ⟨L, hL, hrow, hch⟩ := h
  exact ⟨L, hL, hrow, fun j p hj => by obtain ⟨C, c1, c2⟩ := hch j p hj; exact ⟨C, c1, fun b hb => (c2 b hb).2⟩⟩
theorem RowN.slice {α : Type} {E : El α} {e : TypeId} {w : World} {lo : Nat} {v : Value} {xs : List α} (h : RowN E e w lo v xs) : ∃ a c, v = .slice a xs.length c := h.toK.slice
theorem RowN.only {α : Type} {E : El α} {e : TypeId} {w w' : World} {lo p : Nat} {v : Value} {xs : List α} (h : RowN E e w lo v xs) (ho : Only (iv p (p + 1)) w w') (hp : p < lo) : RowN E e w' lo v xs := by
  obtain ⟨L, hL, hrow, hch⟩ := h
  have far : ∀ k, lo ≤ k → ¬ iv p (p + 1) k := fun k hk hh => by have := hh.2; omega
  refine ⟨L, hL, rowE_moved hrow fun k hk => ho.block k (World.ownsRow.lt hrow k hk).2 (far k (World.ownsRow.lt hrow k hk).1), fun j q hj => ?_⟩
  obtain ⟨C, c1, c2⟩ := hch j q hj
  exact ⟨C, E.kidFrame c1 ho.size fun k hk hks => ho.block k hks (far k (c2 k hk).1), fun b hb => ⟨(c2 b hb).1, Nat.lt_of_lt_of_le (c2 b hb).2.1 ho.size, (c2 b hb).2.2⟩⟩
theorem RowN.base {α : Type} {E : El α} {e : TypeId} {w : World} {lo lo' : Nat} {v : Value} {xs : List α} (h : RowN E e w lo v xs) (hb : lo' ≤ lo) : RowN E e w lo' v xs := by
  obtain ⟨L, hL, hrow, hch⟩ := h
  refine ⟨L, hL, ⟨hrow.1, ?_⟩, fun j p hj => by obtain ⟨C, c1, c2⟩ := hch j p hj; exact ⟨C, c1, fun b hb' => ⟨Nat.le_trans hb (c2 b hb').1, (c2 b hb').2⟩⟩⟩
  rcases hrow.2 with h | ⟨g, cap, cur, h0, h1, h2⟩
  · exact .inl h
  · exact .inr ⟨g, cap, cur, h0, Nat.le_trans hb h1, h2⟩
theorem rowN_start {α : Type} {E : El α} {e : TypeId} {w : World} : RowN E e (w.alloc (.cells #[] e)) w.heap.size (.slice (some ⟨w.heap.size, 0, none⟩) 0 0) [] :=
  ⟨[], rfl, ⟨by simp [cellsE], .inr ⟨w.heap.size, 0, #[], rfl, Nat.le_refl _, heap_new w _, Nat.le_refl _, Nat.zero_le _, by simp, by simp [cellsE]⟩⟩, fun j p hj => by simp at hj⟩
theorem rowN_append {α : Type} {E : El α} {e : TypeId} {w W1 w1 : World} {lo : Nat} {v u : Value} {L : List (α × Value)} {x : α} {gg cap n : Nat} (hn : n = L.length)
    (hch : ∀ (j : Nat) (p : α × Value), L[j]? = some p → ∃ C : Nat → Prop, E.kid w C p.2 p.1 ∧ ∀ b, C b → lo ≤ b ∧ b < w.heap.size ∧ v.ownBlock ≠ some b)
    {C : Nat → Prop} (hu : E.kid w C u x) (hC : ∀ b, C b → lo ≤ b ∧ b < w.heap.size ∧ v.ownBlock ≠ some b) (hW : Below w.heap.size w W1)
    (hown : w1.ownsRow lo e E.n (.slice (some ⟨gg, 0, none⟩) (n + 1) cap) (n + 1) (cellsE E L ++ E.cells x u)) (hgr : W1.grownBy w1 v.ownBlock) (hat : v.ownBlock = some gg ∨ w.heap.size ≤ gg) :
    RowN E e w1 lo (.slice (some ⟨gg, 0, none⟩) (n + 1) cap) (L.map Prod.fst ++ [x]) := by
  subst hn
  have hs : w.heap.size ≤ w1.heap.size := Nat.le_trans hW.size hgr.size
  have same : ∀ j, j < w.heap.size → v.ownBlock ≠ some j → w1.heap[j]? = w.heap[j]? := fun j hj hne => (hgr.block j (Nat.lt_of_lt_of_le hj hW.size) (fun e => hne e.symm)).trans (hW.block j hj)
  have e1 : cellsE E (L ++ [(x, u)]) = cellsE E L ++ E.cells x u := by rw [cellsE_append, cellsE_one]
  rw [← e1] at hown
  have one : ∀ (C : Nat → Prop) (U : Value) (y : α), E.kid w C U y → (∀ b, C b → lo ≤ b ∧ b < w.heap.size ∧ v.ownBlock ≠ some b) → ∃ C : Nat → Prop, E.kid w1 C U y ∧ ∀ b, C b → lo ≤ b ∧ b < w1.heap.size ∧ (Value.slice (some ⟨gg, 0, none⟩) (L.length + 1) cap).ownBlock ≠ some b := by
    intro C U y c1 c2
    refine ⟨C, E.kidFrame c1 hs fun k hk hks => same k hks (c2 k hk).2.2, fun b hb => ⟨(c2 b hb).1, Nat.lt_of_lt_of_le (c2 b hb).2.1 hs, fun e => ?_⟩⟩
    simp only [Value.ownBlock, Option.some.injEq] at e
    subst e
    rcases hat with h | h
    · exact (c2 _ hb).2.2 h
    · have := (c2 _ hb).2.1; omega
  refine ⟨L ++ [(x, u)], by simp, by simpa using hown, fun j p hj => ?_⟩
  by_cases hjl : j < L.length
  · rw [List.getElem?_append_left hjl] at hj
    obtain ⟨C, c1, c2⟩ := hch j p hj
    exact one C p.2 p.1 c1 c2
  · have hj' : j = L.length := by
      have := (List.getElem?_eq_some_iff.1 hj).1
      simp at this
      omega
    subst hj'
    rw [List.getElem?_append_right (Nat.le_refl _), Nat.sub_self] at hj
    simp at hj
    subst hj
    exact one C u x hu hC

/-- A term of the right form whose variables are below v. -/
def GV (v : Int) (t : Tm) : Prop := Good t ∧ ∀ u ∈ t.vl, u < v
theorem closed_gv {v : Int} (h : v ≤ 256) : Closed v (GV v) where
  nil := ⟨.nil, fun u hu => by simp [Tm.vl, vlL] at hu⟩
  sym := fun s hs => ⟨.sym s hs, fun u hu => by simp [Tm.vl, vlL] at hu⟩
  int := fun r h0 h1 => ⟨.int r (by omega) (by omega), fun u hu => by simp [Tm.vl, vlL] at hu⟩
  var := fun i h0 h1 => ⟨.var i (by omega) (by omega), fun u hu => by simp [Tm.vl] at hu; omega⟩
  pair := fun x y hx hy => ⟨.pair x y hx.1 hy.1, fun u hu => by
    simp [Tm.vl, vlL] at hu
    rcases hu with h | h
    · exact hx.2 u h
    · exact hy.2 u h⟩
/-- Bindings drawn: ascending, from lo to hi, terms of variables below v, so many nodes at most. -/
def SubD (lo hi v : Int) (n : Int) (l : List Bd) : Prop := (∀ b ∈ l, lo ≤ b.v ∧ b.v < hi ∧ GV v b.t ∧ (b.t.nodes : Int) ≤ n) ∧ l.Pairwise (fun a b => a.v < b.v)
theorem subD_nil (lo hi v n : Int) : SubD lo hi v n [] := ⟨fun b hb => (nomatch hb), List.Pairwise.nil⟩
theorem SubD.more {lo hi v n : Int} {l : List Bd} (h : SubD lo hi v n l) : SubD lo (hi + 1) v n l := ⟨fun b hb => ⟨(h.1 b hb).1, by have := (h.1 b hb).2.1; omega, (h.1 b hb).2.2⟩, h.2⟩
theorem SubD.put {lo hi v n : Int} {l : List Bd} {t : Tm} (h : SubD lo hi v n l) (hl : lo ≤ hi) (hg : GV v t) (hn : (t.nodes : Int) ≤ n) : SubD lo (hi + 1) v n (l ++ [⟨hi, t⟩]) := by
  refine ⟨fun b hb => ?_, List.pairwise_append.2 ⟨h.2, by simp, fun a ha b hb => ?_⟩⟩
  · rcases List.mem_append.1 hb with hb | hb
    · exact h.more.1 b hb
    · obtain rfl := List.mem_singleton.1 hb
      exact ⟨hl, by show hi < hi + 1; omega, hg, hn⟩
  · obtain rfl := List.mem_singleton.1 hb
    exact (h.1 a ha).2.1

set_option maxHeartbeats 400000 in
theorem once_any (n : Int) (w0 : World) (p : Nat) (a : Option Addr) (len cap : Nat) (w : World) (h : Ready w0 p a len cap w) (h0 : 0 < n) (h1 : n ≤ 256) :
    Calls Tryz.prog 34 #[.pointer (some ⟨p, 0, none⟩), .int .i64 n] w fun e w' => ∃ b, e = .returned (.bool b) ∧ Ready w0 p a len cap w' ∧ Only (iv p (p + 1)) w w' := by
  have HC := Lib.hid (below_any n w0 p a len cap w h h0 h1)
  clear h
  go_enter Tryz.func34, Tryz.ntmps34
  go_wp2_with fail
  refine HC.out.mono ?_
  rintro e w1 ⟨r, rfl, r0, r1, hg, ho⟩
  have HG := Lib.hid (And.intro hg ho)
  clear hg ho
  go_wp2
  go_ret
  exact ⟨_, rfl, HG.out⟩

theorem Ready.later {w0 w w' : World} {p B : Nat} {a : Option Addr} {len cap : Nat} (h : Ready w0 p a len cap w) (hb : Below B w w') (hp : p < B) : Ready w0 p a len cap w' := by
  obtain ⟨i, x, hi, hh⟩ := h.cur
  exact ⟨h.bytes, h.most, h.lo, Nat.lt_of_lt_of_le h.hi hb.size, h.old.trans (hb.mono (Nat.le_of_lt (Nat.lt_of_le_of_lt h.lo hp))), i, x, hi, (hb.block p hp).trans hh⟩
theorem only_later {S : Nat → Prop} {w w1 w2 : World} (h : Only S w w1) (hb : Below w.heap.size w1 w2) : Only S w w2 :=
  ⟨hb.os.trans h.os, hb.tape.trans h.tape, hb.output.trans h.output, Nat.le_trans h.size hb.size, fun k hk hn => (hb.block k hk).trans (h.block k hk hn)⟩
/-- A substitution drawn. -/
def DrawS (w0 : World) (p : Nat) (a : Option Addr) (len cap : Nat) (lo hi v n : Int) (w : World) (e : Ending) (w' : World) : Prop :=
  ∃ (l : List Bd) (u : Value), e = .returned u ∧ RowN bdE 47 w' w.heap.size u l ∧ SubD lo hi v n l ∧ Ready w0 p a len cap w' ∧ Only (iv p (p + 1)) w w'

set_option maxRecDepth 100000 in
set_option maxHeartbeats 2000000 in
theorem drawSubst_any (w0 : World) (p : Nat) (a : Option Addr) (len cap : Nat) (w : World) (h : Ready w0 p a len cap w) :
    Calls Tryz.prog 15 #[.pointer (some ⟨p, 0, none⟩)] w (DrawS w0 p a len cap 4 8 4 11 w) := by
  obtain ⟨i0, hi, hz0, hz1, hz2⟩ := info_parts infoBinding
  have HII := Lib.hid (And.intro hi (And.intro hz0 (And.intro hz1 hz2)))
  have hp := h.hi
  have HR0 := Lib.hid (rowN_start (E := bdE) (e := 47) (w := w))
  have HG0 := Lib.hid (h.below (belowAlloc (Below.refl _ _) (.cells #[] 47)))
  have HW0 : Hid (Only (iv p (p + 1)) w (w.alloc (.cells #[] 47))) := Lib.hid (Only.of_below (belowAlloc (Below.refl _ _) _))
  clear h hi hz0 hz1 hz2
  go_enter Tryz.func15, Tryz.ntmps15
  go_wp2
  go_loopw [3, 4] (fun lv iv' wr => ∃ (k : Nat) (l : List Bd), 4 ≤ k ∧ k ≤ 8 ∧ l.length ≤ k ∧ iv' = .int .i64 k ∧ Hid (RowN bdE 47 wr w.heap.size lv l) ∧ Hid (SubD 4 k 4 11 l) ∧ Hid (Ready w0 p a len cap wr) ∧ Hid (Only (iv p (p + 1)) w wr)) (fun _ iv' _ => 8 - (intOf iv').toNat)
  case atStart => exact ⟨4, [], Nat.le_refl _, by omega, Nat.zero_le _, rfl, HR0, Lib.hid (subD_nil _ _ _ _), HG0, HW0⟩
  case round =>
    obtain ⟨k, l, hk4, hk8, hlk, rfl, HO, HS, HG, HW⟩ := hrel
    clear HR0 HG0 HW0
    obtain ⟨oa, oc, rfl⟩ := HO.out.slice
    by_cases hlt : k < 8
    · have hltI : (k : Int) < 8 := by omega
      have HC := Lib.hid (once_any 2 w0 p a len cap wr HG.out (by omega) (by omega))
      go_wp2_with fail
      refine HC.out.mono ?_
      rintro e w1 ⟨b, rfl, hg, ho⟩
      have HG1 := Lib.hid hg
      have HO1 := Lib.hid (HO.out.only ho (by omega))
      have HW1 := Lib.hid (HW.out.trans ho)
      clear hg ho HC HO HG HW
      cases b with
      | false =>
        go_wp2
        go_roundw
        case rel => exact ⟨k + 1, l, by omega, by omega, by omega, by go_num, HO1, Lib.hid (by have := HS.out.more; simpa using this), HG1, HW1⟩
        case measure => simp [intOf]; omega
      | true =>
        have HD := Lib.hid (drawTerm_any w0 p a len cap 4 (closed_gv (by omega)) (by omega) (by omega) 7 6 w1 (by omega) (by omega) (by omega) HG1.out)
        go_wp2_with fail
        refine HD.out.mono ?_
        rintro e w2 ⟨t, x, c, rfl, ht, hgt, hn, hg, ho⟩
        have HG2 := Lib.hid hg
        have hs1 : w.heap.size ≤ w1.heap.size := HW1.out.size
        have hs2 : w1.heap.size ≤ w2.heap.size := ho.size
        have HU := Lib.hid ht
        have HS2 := Lib.hid (HS.out.put (by omega) hgt hn)
        have HLT := Lib.hid (fun k' (h : (Value.slice oa l.length oc).ownBlock = some k') => (rowK_block HO1.out.toK k' h))
        have HO2 := HO1.out.only ho (by omega)
        have HW2 := Lib.hid (HW1.out.trans ho)
        obtain ⟨L, hL1, hrow, hch⟩ := HO2
        have hLn : l.length = L.length := by have := congrArg List.length hL1; rwa [List.length_map] at this
        rw [← hLn] at hrow
        have HROW := Lib.hid hrow
        have HPA := Lib.hid (And.intro hL1 (And.intro hLn hch))
        clear hg ho ht hgt hn hL1 hrow hch HD HS HO1 HG1 HW1 hLn
        have HMB := Lib.hid hlk
        generalize hmm : l.length = m at HROW HPA HLT hlk ⊢
        go_wp2_with (at_builtin; refine wpList_append_lies _ rfl _ _ 23 rfl w.heap.size 47 i0 _ 5 64 Tryz.underlying23 HII.out.1 HII.out.2.1 HII.out.2.2.1 HII.out.2.2.2 rfl (by omega) (.slice oa m oc) m (cellsE bdE L) rfl (HROW.out.alloc _) ⟨w2.heap.size, 0, none⟩ 1 1 (bdE.cells ⟨k, t⟩ (.slice x t.args.length c)) rfl rfl (World.news_of_block (heap_alloc_new w2 _)) (by simp [bdE, Value.oneCell']) (by omega) (by unfold maxLen; omega) (by omega) (by simp; omega) (w2.heap.size + 1) (by simp) ?_; intro gg cap' w3 hown1 hgrow hat hlt1; have HAP := Lib.hid (And.intro hown1 (And.intro hgrow (And.intro hat hlt1))); clear hown1 hgrow hat hlt1)
        have HB3 : Hid (Below w.heap.size w2 w3) := Lib.hid (((belowAlloc (Below.refl _ _) (.cells #[.int .i64 k, .int .i64 t.kind, .int .i64 t.num, .string t.name, .slice x t.args.length c] 47)).mono (by omega)).trans (below_of_grown HAP.out.2.1 (by simp; omega) (fun j hj => (HLT.out j hj).1)))
        have HN : Hid (RowN bdE 47 w3 w.heap.size (.slice (some ⟨gg, 0, none⟩) (m + 1) cap') (l ++ [⟨k, t⟩])) := Lib.hid (by
          have h := rowN_append (E := bdE) (x := ⟨k, t⟩) HPA.out.2.1 HPA.out.2.2 (C := iv w1.heap.size w2.heap.size) HU.out (fun b hb => ⟨by have := hb.1; omega, hb.2, fun e => by have h1 := (HLT.out b e).2; have h2 := hb.1; omega⟩) (belowAlloc (Below.refl _ _) _) HAP.out.1 HAP.out.2.1 (HAP.out.2.2.1.imp id (fun h => by omega))
          rw [← HPA.out.1] at h
          exact h)
        have HG3 := Lib.hid (HG2.out.later HB3.out hp)
        have HW3 := Lib.hid (only_later HW2.out HB3.out)
        clear HAP HPA HROW HLT HU HB3 HG2 HW2
        go_wp2
        go_roundw
        case rel => exact ⟨k + 1, l ++ [⟨k, t⟩], by omega, by omega, by simp; omega, by go_num, HN, Lib.hid (by have := HS2.out; simpa using this), HG3, HW3⟩
        case measure => simp [intOf]; omega
    · obtain rfl : k = 8 := by omega
      go_wp2
      go_ret
      exact ⟨l, _, rfl, HO.out, HS.out, HG.out, HW.out⟩

set_option maxRecDepth 100000 in
set_option maxHeartbeats 2000000 in
theorem drawLow_any (w0 : World) (p : Nat) (a : Option Addr) (len cap : Nat) (w : World) (h : Ready w0 p a len cap w) :
    Calls Tryz.prog 17 #[.pointer (some ⟨p, 0, none⟩)] w (fun e w' => ∃ r : Nat, r < 4 ∧ DrawS w0 p a len cap r 4 r 9 w e w') := by
  obtain ⟨i0, hi, hz0, hz1, hz2⟩ := info_parts infoBinding
  have HII := Lib.hid (And.intro hi (And.intro hz0 (And.intro hz1 hz2)))
  have hp := h.hi
  have HB0 := Lib.hid (below_any 4 w0 p a len cap w h (by omega) (by omega))
  clear h hi hz0 hz1 hz2
  go_enter Tryz.func17, Tryz.ntmps17
  go_wp2_with fail
  refine HB0.out.mono ?_
  rintro e w9 ⟨r0, rfl, r1, r2, hg, ho⟩
  obtain ⟨r, rfl⟩ : ∃ r : Nat, r0 = (r : Int) := ⟨r0.toNat, by omega⟩
  have hr4 : r < 4 := by omega
  have HR0 := Lib.hid (rowN_start (E := bdE) (e := 47) (w := w9))
  have hws : w.heap.size ≤ w9.heap.size := ho.size
  have HG0 := Lib.hid (hg.below (belowAlloc (Below.refl _ _) (.cells #[] 47)))
  have HW0 : Hid (Only (iv p (p + 1)) w (w9.alloc (.cells #[] 47))) := Lib.hid (ho.trans (Only.of_below (belowAlloc (Below.refl _ _) _)))
  have HRW0 : Hid (RowN bdE 47 (w9.alloc (.cells #[] 47)) w.heap.size (.slice (some ⟨w9.heap.size, 0, none⟩) 0 0) []) := Lib.hid (HR0.out.base hws)
  clear hg ho HB0 HR0 r1 r2
  go_wp2
  go_loopw [4, 5] (fun lv iv' wr => ∃ (k : Nat) (l : List Bd), r ≤ k ∧ k ≤ 4 ∧ l.length ≤ k ∧ iv' = .int .i64 k ∧ Hid (RowN bdE 47 wr w.heap.size lv l) ∧ Hid (SubD r k r 9 l) ∧ Hid (Ready w0 p a len cap wr) ∧ Hid (Only (iv p (p + 1)) w wr)) (fun _ iv' _ => 4 - (intOf iv').toNat)
  case atStart => exact ⟨r, [], Nat.le_refl _, by omega, Nat.zero_le _, rfl, HRW0, Lib.hid (subD_nil _ _ _ _), HG0, HW0⟩
  case round =>
    obtain ⟨k, l, hk4, hk8, hlk, rfl, HO, HS, HG, HW⟩ := hrel
    clear HRW0 HG0 HW0
    obtain ⟨oa, oc, rfl⟩ := HO.out.slice
    by_cases hlt : k < 4
    · have hltI : (k : Int) < 4 := by omega
      have HC := Lib.hid (once_any 2 w0 p a len cap wr HG.out (by omega) (by omega))
      go_wp2_with fail
      refine HC.out.mono ?_
      rintro e w1 ⟨b, rfl, hg, ho⟩
      have HG1 := Lib.hid hg
      have HO1 := Lib.hid (HO.out.only ho (by omega))
      have HW1 := Lib.hid (HW.out.trans ho)
      clear hg ho HC HO HG HW
      cases b with
      | false =>
        go_wp2
        go_roundw
        case rel => exact ⟨k + 1, l, by omega, by omega, by omega, by go_num, HO1, Lib.hid (by have := HS.out.more; simpa using this), HG1, HW1⟩
        case measure => simp [intOf]; omega
      | true =>
        have HD := Lib.hid (drawTerm_any w0 p a len cap r (closed_gv (by omega)) (by omega) (by omega) 6 5 w1 (by omega) (by omega) (by omega) HG1.out)
        go_wp2_with fail
        refine HD.out.mono ?_
        rintro e w2 ⟨t, x, c, rfl, ht, hgt, hn, hg, ho⟩
        have HG2 := Lib.hid hg
        have hs1 : w.heap.size ≤ w1.heap.size := HW1.out.size
        have hs2 : w1.heap.size ≤ w2.heap.size := ho.size
        have HU := Lib.hid ht
        have HS2 := Lib.hid (HS.out.put (by omega) hgt hn)
        have HLT := Lib.hid (fun k' (h : (Value.slice oa l.length oc).ownBlock = some k') => (rowK_block HO1.out.toK k' h))
        have HO2 := HO1.out.only ho (by omega)
        have HW2 := Lib.hid (HW1.out.trans ho)
        obtain ⟨L, hL1, hrow, hch⟩ := HO2
        have hLn : l.length = L.length := by have := congrArg List.length hL1; rwa [List.length_map] at this
        rw [← hLn] at hrow
        have HROW := Lib.hid hrow
        have HPA := Lib.hid (And.intro hL1 (And.intro hLn hch))
        clear hg ho ht hgt hn hL1 hrow hch HD HS HO1 HG1 HW1 hLn
        have HMB := Lib.hid hlk
        generalize hmm : l.length = m at HROW HPA HLT hlk ⊢
        go_wp2_with (at_builtin; refine wpList_append_lies _ rfl _ _ 23 rfl w.heap.size 47 i0 _ 5 64 Tryz.underlying23 HII.out.1 HII.out.2.1 HII.out.2.2.1 HII.out.2.2.2 rfl (by omega) (.slice oa m oc) m (cellsE bdE L) rfl (HROW.out.alloc _) ⟨w2.heap.size, 0, none⟩ 1 1 (bdE.cells ⟨k, t⟩ (.slice x t.args.length c)) rfl rfl (World.news_of_block (heap_alloc_new w2 _)) (by simp [bdE, Value.oneCell']) (by omega) (by unfold maxLen; omega) (by omega) (by simp; omega) (w2.heap.size + 1) (by simp) ?_; intro gg cap' w3 hown1 hgrow hat hlt1; have HAP := Lib.hid (And.intro hown1 (And.intro hgrow (And.intro hat hlt1))); clear hown1 hgrow hat hlt1)
        have HB3 : Hid (Below w.heap.size w2 w3) := Lib.hid (((belowAlloc (Below.refl _ _) (.cells #[.int .i64 k, .int .i64 t.kind, .int .i64 t.num, .string t.name, .slice x t.args.length c] 47)).mono (by omega)).trans (below_of_grown HAP.out.2.1 (by simp; omega) (fun j hj => (HLT.out j hj).1)))
        have HN : Hid (RowN bdE 47 w3 w.heap.size (.slice (some ⟨gg, 0, none⟩) (m + 1) cap') (l ++ [⟨k, t⟩])) := Lib.hid (by
          have h := rowN_append (E := bdE) (x := ⟨k, t⟩) HPA.out.2.1 HPA.out.2.2 (C := iv w1.heap.size w2.heap.size) HU.out (fun b hb => ⟨by have := hb.1; omega, hb.2, fun e => by have h1 := (HLT.out b e).2; have h2 := hb.1; omega⟩) (belowAlloc (Below.refl _ _) _) HAP.out.1 HAP.out.2.1 (HAP.out.2.2.1.imp id (fun h => by omega))
          rw [← HPA.out.1] at h
          exact h)
        have HG3 := Lib.hid (HG2.out.later HB3.out hp)
        have HW3 := Lib.hid (only_later HW2.out HB3.out)
        clear HAP HPA HROW HLT HU HB3 HG2 HW2
        go_wp2
        go_roundw
        case rel => exact ⟨k + 1, l ++ [⟨k, t⟩], by omega, by omega, by simp; omega, by go_num, HN, Lib.hid (by have := HS2.out; simpa using this), HG3, HW3⟩
        case measure => simp [intOf]; omega
    · obtain rfl : k = 4 := by omega
      go_wp2
      go_ret
      exact ⟨r, hr4, l, _, rfl, HO.out, HS.out, HG.out, HW.out⟩

/-- The answer is a list of bindings. -/
def MadeS (lo hi v n : Int) (w : World) (e : Ending) (w' : World) : Prop :=
  ∃ (l : List Bd) (u : Value), e = .returned u ∧ ListS bdE w' Any u l ∧ SubD lo hi v n l ∧ Below w.heap.size w w'

set_option maxHeartbeats 1000000 in
theorem makeSubst_any (a : Option Addr) (len cap n : Nat) (w : World) (hb : Bytes w a len) (hl : len ≤ 1048576) (hn : n ≤ 1000000) :
    Calls Tryz.prog 4 #[.slice a len cap, .int .i64 n] w (MadeS 4 8 4 11 w) := by
  have HB := Lib.hid hb
  clear hb
  go_enter Tryz.func4, Tryz.ntmps4
  go_wp2_with fail
  refine (newAt_any a len cap n w HB.out hl hn).mono ?_
  rintro e w2 ⟨p, rfl, hcur, hp1, hp2, hb1⟩
  have HD := Lib.hid (drawSubst_any w p a len cap w2 (ready_new HB.out hl hcur hp1 hp2 hb1))
  have HW := Lib.hid hb1
  clear hcur hb1
  go_wp2_with fail
  refine HD.out.mono ?_
  rintro e w3 ⟨l, u, rfl, hrow, hsd, hr, ho⟩
  have HX := Lib.hid (And.intro hrow.toK.inS (And.intro hsd (HW.out.trans (ho.below (fun k hk => by have := hk.1; omega) HW.out.size))))
  clear hrow hsd hr ho HD
  go_wp2
  go_ret
  exact ⟨l, _, rfl, HX.out⟩

set_option maxHeartbeats 1000000 in
theorem makeLow_any (a : Option Addr) (len cap n : Nat) (w : World) (hb : Bytes w a len) (hl : len ≤ 1048576) (hn : n ≤ 1000000) :
    Calls Tryz.prog 5 #[.slice a len cap, .int .i64 n] w (fun e w' => ∃ r : Nat, r < 4 ∧ MadeS r 4 r 9 w e w') := by
  have HB := Lib.hid hb
  clear hb
  go_enter Tryz.func5, Tryz.ntmps5
  go_wp2_with fail
  refine (newAt_any a len cap n w HB.out hl hn).mono ?_
  rintro e w2 ⟨p, rfl, hcur, hp1, hp2, hb1⟩
  have HD := Lib.hid (drawLow_any w p a len cap w2 (ready_new HB.out hl hcur hp1 hp2 hb1))
  have HW := Lib.hid hb1
  clear hcur hb1
  go_wp2_with fail
  refine HD.out.mono ?_
  rintro e w3 ⟨r, hr4, l, u, rfl, hrow, hsd, hr, ho⟩
  have HX := Lib.hid (And.intro hrow.toK.inS (And.intro hsd (HW.out.trans (ho.below (fun k hk => by have := hk.1; omega) HW.out.size))))
  clear hrow hsd hr ho HD
  go_wp2
  go_ret
  exact ⟨r, hr4, l, _, rfl, HX.out⟩
end Go.Proofs.YtlnncdadiepnmaaGreatDoor

namespace Go.Proofs.YtlnncdadiepnmaaGreatDoor
open Go.RowKit
set_option linter.unusedVariables false
set_option linter.unusedSimpArgs false
set_option linter.unusedSectionVars false

theorem asc_len {hi : Int} : ∀ (l : List Bd) (lo : Int), lo ≤ hi → l.Pairwise (fun a b => a.v < b.v) → (∀ b ∈ l, lo ≤ b.v ∧ b.v < hi) → (l.length : Int) ≤ hi - lo
  | [], lo, h, _, _ => by simp; omega
  | b :: l, lo, h, hp, hb => by
    obtain ⟨h1, h2⟩ := List.pairwise_cons.1 hp
    have hb0 := hb b (by simp)
    have := asc_len l (b.v + 1) (by omega) h2 fun x hx => ⟨by have := h1 x hx; omega, (hb x (List.mem_cons_of_mem _ hx)).2⟩
    rw [List.length_cons]
    omega
/-- Ascending variables, valid terms whose variables are not bound: a substitution. -/
theorem substP_of {l : List Bd} {hi : Int} (hhi : 0 ≤ hi) (hh : hi ≤ 400) (hp : l.Pairwise (fun a b => a.v < b.v)) (hb : ∀ b ∈ l, 0 ≤ b.v ∧ b.v < hi ∧ Ok b.t ∧ ∀ u ∈ b.t.vl, u < b.v ∧ getO l u = none) : SubstP l := by
  have hl := asc_len l 0 hhi hp fun b h => ⟨(hb b h).1, (hb b h).2.1⟩
  refine ⟨⟨fun k x hx => ?_, fun k x y hx hy => ?_, by omega⟩, fun b h => ⟨fun hk => ?_, fun v hv => ((hb b h).2.2.2 v hv).2⟩⟩
  · have := hb x (List.mem_of_getElem? hx)
    exact ⟨⟨this.1, by omega⟩, this.2.2.1⟩
  · obtain ⟨h1, e1⟩ := List.getElem?_eq_some_iff.1 hx
    obtain ⟨h2, e2⟩ := List.getElem?_eq_some_iff.1 hy
    have := List.pairwise_iff_getElem.1 hp k (k + 1) h1 h2 (by omega)
    rwa [e1, e2] at this
  · have := ((hb b h).2.2.2 b.t.num (by rw [vl_of_var hk.1]; simp)).1
    omega
theorem SubD.subst {lo hi v n : Int} {l : List Bd} (h : SubD lo hi v n l) (h0 : 0 ≤ lo) (h1 : lo ≤ hi) (h2 : hi ≤ 400) (hv : v ≤ lo) (hn : n ≤ 5000) : SubstP l :=
  substP_of (by omega) h2 h.2 fun b hb => by
    obtain ⟨b0, b1, bg, bn⟩ := h.1 b hb
    refine ⟨by omega, b1, ⟨by omega, bg.1⟩, fun u hu => ⟨by have := bg.2 u hu; omega, getO_none.2 fun c hc e => ?_⟩⟩
    have h3 := (h.1 c hc).1
    have h4 := bg.2 u hu
    omega

/-! ### The composition of drawn substitutions -/
theorem scanB_mid {P A : List Bd} {v : Int} (hP : ∀ b ∈ P, b.v < v) (hA : ∀ b ∈ A, v < b.v) : ∀ k, P.length ≤ k → k ≤ (P ++ A).length → scanB (P ++ A) v k = P.length
  | 0, h, _ => by rw [scanB]; omega
  | k + 1, h, hk => by
    rw [scanB]
    have hlt : k < (P ++ A).length := by omega
    rw [List.getElem?_eq_getElem hlt]
    show (if v < ((P ++ A)[k]).v then scanB (P ++ A) v k else k + 1) = P.length
    by_cases hc : P.length ≤ k
    · have : v < ((P ++ A)[k]).v := by
        rw [List.getElem_append_right hc]
        exact hA _ (List.getElem_mem _)
      rw [if_pos this]
      exact scanB_mid hP hA k hc (by omega)
    · have hl : k < P.length := by omega
      have : ¬ v < ((P ++ A)[k]).v := by
        rw [List.getElem_append_left hl]
        have := hP _ (List.getElem_mem hl)
        omega
      rw [if_neg this]
      omega
theorem insB_mid {P A : List Bd} {b : Bd} (hP : ∀ c ∈ P, c.v < b.v) (hA : ∀ c ∈ A, b.v < c.v) : insB (P ++ A) b = P ++ b :: A := by
  rw [insB, scanB_mid hP hA _ (by simp) (Nat.le_refl _), List.take_left', List.drop_left'] <;> rfl
theorem foldB_mid : ∀ (t P A : List Bd), t.Pairwise (fun a b => a.v < b.v) → (∀ c ∈ P, ∀ b ∈ t, c.v < b.v) → (∀ b ∈ t, ∀ c ∈ A, b.v < c.v) → t.foldl insB (P ++ A) = P ++ t ++ A
  | [], P, A, _, _, _ => by simp
  | b :: t, P, A, hp, hP, hA => by
    obtain ⟨h1, h2⟩ := List.pairwise_cons.1 hp
    rw [List.foldl_cons, insB_mid (fun c hc => hP c hc b (by simp)) (fun c hc => hA b (by simp) c hc)]
    have := foldB_mid t (P ++ [b]) A h2 (fun c hc x hx => by
      rcases List.mem_append.1 hc with hc | hc
      · exact hP c hc x (List.mem_cons_of_mem _ hx)
      · obtain rfl := List.mem_singleton.1 hc
        exact h1 x hx) fun x hx => hA x (List.mem_cons_of_mem _ hx)
    simpa using this
theorem getO_append (a b : List Bd) (v : Int) : getO (a ++ b) v = (match getO a v with | some t => some t | none => getO b v) := by
  induction a with
  | nil => rfl
  | cons x a ih =>
    rw [List.cons_append, getO, getO]
    split
    · rfl
    · exact ih
theorem getO_mapped (t : List Bd) : ∀ (s : List Bd) (v : Int), getO (s.map (mapped t)) v = (getO s v).map (putT t)
  | [], v => rfl
  | b :: s, v => by
    rw [List.map_cons, getO, getO]
    show (if b.v = v then some (putT t b.t) else _) = _
    split
    · rfl
    · exact getO_mapped t s v
section
variable {s t : List Bd} {r : Int} (hs : SubD 4 8 4 11 s) (ht : SubD r 4 r 9 t) (h0 : 0 ≤ r) (h4 : r < 4)
include hs ht h0 h4
theorem com_vl {b : Bd} (hb : b ∈ s) : ∀ u ∈ (putT t b.t).vl, u < 4 ∧ getO t u = none := by
  intro u hu
  obtain ⟨_, _, bg, _⟩ := hs.1 b hb
  rcases putT_vl bg.1 u hu with ⟨h1, h2⟩ | ⟨v, _, y, hy, h2⟩
  · exact ⟨bg.2 u h1, h2⟩
  · obtain ⟨c, hc, _, rfl⟩ := getO_some hy
    have := (ht.1 c hc).2.2.1.2 u h2
    exact ⟨by omega, getO_none.2 fun d hd e => by have := (ht.1 d hd).1; omega⟩
theorem com_is : cmpB s t = t ++ s.map (mapped t) := by
  have hA : cmpA s t = s.map (mapped t) := by
    rw [cmpA, List.filter_eq_self]
    intro b hb
    obtain ⟨x, hx, rfl⟩ := List.mem_map.1 hb
    have h1 := (hs.1 x hx).1
    have : selfB (mapped t x) = false := decide_eq_false fun hc => by
      have hk : (putT t x.t).kind = 1 := hc.1
      have hn : (putT t x.t).num = x.v := hc.2
      have := (com_vl hs ht h0 h4 hx (putT t x.t).num (by rw [vl_of_var hk]; simp)).1
      omega
    rw [this]; rfl
  have hR : rest s t = t := by
    rw [rest, List.filter_eq_self]
    intro b hb
    have h1 := (ht.1 b hb).2.1
    have : getB s b.v = false := getB_none.2 (getO_none.2 fun c hc e => by have := (hs.1 c hc).1; omega)
    rw [this]; rfl
  rw [cmpB, hA, hR]
  have := foldB_mid t [] (s.map (mapped t)) ht.2 (fun c hc => by cases hc) fun b hb c hc => by
    obtain ⟨x, hx, rfl⟩ := List.mem_map.1 hc
    have h1 := (hs.1 x hx).1
    have h2 := (ht.1 b hb).2.1
    show b.v < x.v
    omega
  simpa using this
theorem com_nodes {b : Bd} (hb : b ∈ s) : (putT t b.t).nodes ≤ 99 := by
  obtain ⟨_, _, bg, bn⟩ := hs.1 b hb
  have := putT_nodes (s := t) (M := 9) (by omega) (fun c hc => by have := (ht.1 c hc).2.2.2; omega) b.t.nodes b.t (Nat.le_refl _) bg.1
  omega
theorem com_free {u : Int} (h : u < 4) (hn : getO t u = none) : getO (cmpB s t) u = none := by
  rw [com_is hs ht h0 h4, getO_append, hn]
  show getO (s.map (mapped t)) u = none
  rw [getO_mapped, getO_none.2 fun c hc e => by have := (hs.1 c hc).1; omega]
  rfl
theorem com_subst : SubstP (cmpB s t) := by
  have hgt : ∀ c ∈ t, Good c.t := fun c hc => (ht.1 c hc).2.2.1.1
  have e := com_is hs ht h0 h4
  refine substP_of (hi := 8) (by omega) (by omega) ?_ fun b hb => ?_
  · rw [e]
    refine List.pairwise_append.2 ⟨ht.2, List.pairwise_map.2 hs.2, fun a ha b hb => ?_⟩
    obtain ⟨x, hx, rfl⟩ := List.mem_map.1 hb
    have h1 := (hs.1 x hx).1
    have h2 := (ht.1 a ha).2.1
    show a.v < x.v
    omega
  · rw [e, List.mem_append] at hb
    rcases hb with hb | hb
    · obtain ⟨b0, b1, bg, bn⟩ := ht.1 b hb
      refine ⟨by omega, by omega, ⟨by omega, bg.1⟩, fun u hu => ?_⟩
      have h1 := bg.2 u hu
      exact ⟨by omega, com_free hs ht h0 h4 (by omega) (getO_none.2 fun c hc e => by have := (ht.1 c hc).1; omega)⟩
    · obtain ⟨x, hx, rfl⟩ := List.mem_map.1 hb
      obtain ⟨b0, b1, bg, bn⟩ := hs.1 x hx
      have hn := com_nodes hs ht h0 h4 hx
      refine ⟨by show 0 ≤ x.v; omega, b1, ⟨by show (putT t x.t).nodes ≤ 5000; omega, putT_good hgt x.t.nodes x.t (Nat.le_refl _) bg.1⟩, fun u hu => ?_⟩
      have h1 := com_vl hs ht h0 h4 hx u hu
      exact ⟨by show u < x.v; omega, com_free hs ht h0 h4 h1.1 h1.2⟩
theorem com_yes : CompP s t := ⟨hs.subst (by omega) (by omega) (by omega) (by omega) (by omega), ht.subst h0 (by omega) (by omega) (by omega) (by omega), fun b hb => by have := com_nodes hs ht h0 h4 hb; omega, com_subst hs ht h0 h4⟩
theorem com_var (v : Int) : putT t (putT s (varTm v)) = putT (cmpB s t) (varTm v) := by
  cases hv : getO s v with
  | none =>
    rw [putT_free hv]
    cases hw : getO t v with
    | none =>
      rw [putT_free hw, putT_free]
      rw [com_is hs ht h0 h4, getO_append, hw]
      show getO (s.map (mapped t)) v = none
      rw [getO_mapped, hv]; rfl
    | some y =>
      rw [putT_of hw, putT_of]
      rw [com_is hs ht h0 h4, getO_append, hw]
  | some y =>
    obtain ⟨c, hc, rfl, rfl⟩ := getO_some hv
    have h1 := (hs.1 c hc).1
    rw [putT_of hv, putT_of]
    rw [com_is hs ht h0 h4, getO_append, getO_none.2 fun d hd e => by have := (ht.1 d hd).2.1; omega]
    show getO (s.map (mapped t)) c.v = _
    rw [getO_mapped, hv]; rfl
theorem com_all {x : Tm} (hx : Good x) : putT t (putT s x) = putT (cmpB s t) x := putT_comp hx fun v _ => com_var hs ht h0 h4 v
theorem com_eqn {b : Bd} (hb : b ∈ s) (hg : getO s b.v = some b.t) : putT (cmpB s t) (varTm b.v) = putT t b.t ∧ putT (cmpB s t) b.t = putT t b.t := by
  obtain ⟨_, _, bg, _⟩ := hs.1 b hb
  refine ⟨by rw [← com_var hs ht h0 h4, putT_of hg], ?_⟩
  rw [← com_all hs ht h0 h4 bg.1, putT_same bg.1 fun v hv => getO_none.2 fun c hc e => by have h1 := (hs.1 c hc).1; have h2 := bg.2 v hv; omega]
end
end Go.Proofs.YtlnncdadiepnmaaGreatDoor

namespace Go.Proofs.YtlnncdadiepnmaaGreatDoor
open Go.RowKit
set_option linter.unusedVariables false
set_option linter.unusedSimpArgs false

theorem Each.snoc {l : List Tm} {L : List (List ByteArray)} {t : Tm} {X : List ByteArray} (h : Each l L) (k : TextOf t X) : Each (l ++ [t]) (L ++ [X]) := by
  induction h with
  | nil => exact .cons k .nil
  | cons h1 _ ih => exact .cons h1 ih
theorem joinTo_app (L : List ByteArray) (sep x : ByteArray) : ∀ k, k ≤ L.length → joinTo (L ++ [x]) sep k = joinTo L sep k
  | 0, _ => rfl
  | k + 1, h => by
    have e : (L ++ [x]).getD k ⟨#[]⟩ = L.getD k ⟨#[]⟩ := by rw [List.getD_eq_getElem?_getD, List.getD_eq_getElem?_getD, List.getElem?_append_left (by omega)]
    rw [joinTo, joinTo, e, joinTo_app L sep x k (by omega)]
/-- A row of texts with spaces between: its tokens. -/
theorem join_scan (l : List Tm) (h : ∀ t ∈ l, Good t) : ∃ L, Each l L ∧ ScanS (joinTo (l.map Tm.text) spB l.length).data.toList L.flatten ∧ PlainL (joinTo (l.map Tm.text) spB l.length).data.toList := by
  rcases List.eq_nil_or_concat l with rfl | ⟨l', t, rfl⟩
  · exact ⟨[], .nil, fun s A R out hs _ hi => by simpa [joinTo] using hi, fun c hc => by simp [joinTo] at hc⟩
  · rw [List.concat_eq_append] at h ⊢
    obtain ⟨L, h1, h2, h3⟩ := join_scan l' fun x hx => h x (by simp [hx])
    have ht := h t (by simp)
    obtain ⟨X, hX⟩ := (text_of t.nodes t (Nat.le_refl _) ht).1
    refine ⟨L ++ [X], h1.snoc hX, ?_⟩
    have e : joinTo ((l' ++ [t]).map Tm.text) spB (l' ++ [t]).length = (if l'.length = 0 then joinTo (l'.map Tm.text) spB l'.length else joinTo (l'.map Tm.text) spB l'.length ++ spB) ++ t.text := by
      rw [List.length_append, List.length_singleton, joinTo, List.map_append, List.map_singleton, joinTo_app _ _ _ _ (by simp)]
      congr 1
      rw [List.getD_eq_getElem?_getD, List.getElem?_append_right (by simp)]
      simp
    rw [e, data_app]
    by_cases h0 : l'.length = 0
    · rw [if_pos h0]
      obtain rfl := List.length_eq_zero_iff.1 h0
      cases h1
      have ej : (joinTo (([] : List Tm).map Tm.text) spB ([] : List Tm).length).data.toList = [] := rfl
      rw [ej]
      simp only [List.nil_append, List.flatten_cons, List.flatten_nil, List.append_nil]
      exact ⟨hX.scan, hX.plain⟩
    · rw [if_neg h0, data_app]
      have es : spB.data.toList = [32] := rfl
      rw [es, List.flatten_append, List.flatten_cons, List.flatten_nil, List.append_nil]
      refine ⟨?_, PlainL.app (PlainL.app h3 (by intro c hc; simp at hc; subst hc; rfl)) hX.plain⟩
      have := (h2.andN ⟨32, [], rfl, rfl⟩ scan_space).andS hX.scan
      simpa using this
termination_by l.length
/-- All terms of such a row are read. -/
theorem rd_join {l : List Tm} (h : ∀ t ∈ l, Ok t) (hs : (joinTo (l.map Tm.text) spB l.length).size ≤ 20000) : rdO (joinTo (l.map Tm.text) spB l.length) = some l := by
  obtain ⟨L, h1, h2, h3⟩ := join_scan l fun t ht => (h t ht).2
  generalize joinTo (l.map Tm.text) spB l.length = s at h2 h3 hs
  have hT := tokens_of (toks_scan h2) h3 hs
  rw [rdO, hT]
  exact all_of h1 [] L.flatten.length 0 rfl rfl (fun t ht => okB_true.2 (h t ht)) (by show 2 * L.flatten.length ≤ 3 * L.flatten.length + 1; omega) h1.len
end Go.Proofs.YtlnncdadiepnmaaGreatDoor

