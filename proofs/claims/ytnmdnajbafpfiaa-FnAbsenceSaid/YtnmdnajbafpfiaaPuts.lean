/-
  The model's l02Put: a variable replaced, what it is replaced by shared.
  The model's l02Copy: a term copied.
  ReplaceVar: what it answers; its contracts on both sides.
-/
import Derived.Test.YtnmdnajbafpfiaaNews
import Derived.Maps.AppendAt
import Derived.Deep.AppendLies
import Derived.Deep.RegionLaw
import Derived.IntWalk
namespace Go.Proofs.Ytnmdnajbafpfiaa
open Go.RowKit
set_option linter.unusedVariables false
set_option linter.unusedSimpArgs false

end Go.Proofs.Ytnmdnajbafpfiaa

namespace Go.Proofs.Ytnmdnajbafpfiaa
open Go.RowKit
set_option linter.unusedVariables false
set_option linter.unusedSimpArgs false

theorem row_slice {w : World} {b : Nat} {e : TypeId} {size n : Nat} {v : Value} {xs : List Value} (h : w.ownsRow b e size v n xs) : ∃ a c, v = .slice a n c := by
  rcases h.2 with ⟨rfl, rfl⟩ | ⟨g, cap, cur, rfl, _⟩
  · exact ⟨_, _, rfl⟩
  · exact ⟨_, _, rfl⟩
theorem row_kept {w w' : World} {b : Nat} {e : TypeId} {size n : Nat} {v : Value} {xs : List Value} (h : w.ownsRow b e size v n xs) (hb : Below w.heap.size w w') : w'.ownsRow b e size v n xs :=
  h.kept (grown_of_below hb none) (by cases Value.ownBlock v <;> simp)
theorem argsS_row {w : World} {S : Nat → Prop} {b : Nat} {e : TypeId} {v : Value} {L : List (Tm × Value)} (h : w.ownsRow b e 4 v L.length (cellsL L)) (hS : ∀ k, v.ownBlock = some k → S k)
    (hr : ∀ (j : Nat) (p : Tm × Value), L[j]? = some p → ArgsS w S p.2 p.1.args) : ArgsS w S v (L.map Prod.fst) := by
  have h' := h
  rcases h.2 with ⟨rfl, hn⟩ | ⟨g, cap, cur, rfl, hb, hg, _⟩
  · have : L = [] := List.length_eq_zero_iff.1 hn
    subst this
    exact .nil none 0
  · refine .row g 0 L.length cap (fun j => match L[j]? with | some p => p.2 | none => .bool false) _ (by simp) (hS g rfl) (Array.getElem?_eq_some_iff.1 hg).1 ?_ ?_
    · intro j t hj i v hv
      rw [List.getElem?_map] at hj
      obtain ⟨p, hp, rfl⟩ := Option.map_eq_some_iff.1 hj
      rw [hp] at hv
      have hi4 : i < 4 := by have := (List.getElem?_eq_some_iff.1 hv).1; simpa [cells4] using this
      have hjn : j < L.length := (List.getElem?_eq_some_iff.1 hp).1
      rw [Nat.zero_add, World.ownsRow.cellAt h' _ (by omega)]
      exact cellsL_at hp hv
    · intro j t hj
      rw [List.getElem?_map] at hj
      obtain ⟨p, hp, rfl⟩ := Option.map_eq_some_iff.1 hj
      rw [hp]
      exact hr j p hp

def CopyR (t : Tm) (w w0 : World) (k : Nat) (wr : World) : Prop :=
  ∃ (sv : Value) (L : List (Tm × Value)), L.map Prod.fst = t.args.take k ∧ L.length = k ∧ wr.heap[w.heap.size + 1 + 1]? = some (.cells #[.int .i64 t.kind, .int .i64 t.num, .string t.name, sv] 28) ∧
    wr.ownsRow (w.heap.size + 1 + 1 + 1) 28 4 sv k (cellsL L) ∧ (∀ (j : Nat) (p : Tm × Value), L[j]? = some p → ∃ C : Nat → Prop, ArgsS wr C p.2 p.1.args ∧ ∀ b, C b → w.heap.size + 1 + 1 + 1 ≤ b ∧ b < wr.heap.size ∧ sv.ownBlock ≠ some b) ∧
    Below (w.heap.size + 1 + 1) w0 wr ∧ w.heap.size + 1 + 1 + 1 ≤ wr.heap.size

theorem copyR_step {t x : Tm} {w w0 wx wB W1 w1 : World} {k gg cap H : Nat} {sv u : Value} {L : List (Tm × Value)} (hx : t.args[k]? = some x) (h1 : L.map Prod.fst = t.args.take k) (h2 : L.length = k)
    (hbox : wx.heap[w.heap.size + 1 + 1]? = some (.cells #[.int .i64 t.kind, .int .i64 t.num, .string t.name, sv] 28)) (hrow : wx.ownsRow (w.heap.size + 1 + 1 + 1) 28 4 sv k (cellsL L))
    (hch : ∀ (j : Nat) (p : Tm × Value), L[j]? = some p → ∃ C : Nat → Prop, ArgsS wx C p.2 p.1.args ∧ ∀ b, C b → w.heap.size + 1 + 1 + 1 ≤ b ∧ b < wx.heap.size ∧ sv.ownBlock ≠ some b) (hB : Below (w.heap.size + 1 + 1) w0 wx) (hsz : w.heap.size + 1 + 1 + 1 ≤ wx.heap.size)
    (hu : ArgsS wB (iv wx.heap.size wB.heap.size) u x.args) (hxB : Below wx.heap.size wx wB) (hBW : Below wB.heap.size wB W1) (hWs : wB.heap.size < W1.heap.size)
    (hown : w1.ownsRow (w.heap.size + 1 + 1 + 1) 28 4 (.slice (some ⟨gg, 0, none⟩) (k + 1) cap) (k + 1) (cellsL L ++ cells4 x u)) (hgr : W1.grownBy w1 sv.ownBlock) (hat : sv.ownBlock = some gg ∨ gg = H) (hH : wB.heap.size ≤ H) (hgl : gg < w1.heap.size) :
    CopyR t w w0 (k + 1) (w1.setCell ⟨w.heap.size + 1 + 1, 3, none⟩ (.slice (some ⟨gg, 0, none⟩) (k + 1) cap)) := by
  have s1 := hxB.size
  have s2 := hBW.size
  have s3 := hgr.size
  have rl := World.ownsRow.lt hrow
  have hxW := belowOn hxB (Nat.le_refl _) hBW
  -- what a block other than the row's is, behind the append
  have same : ∀ j, j < wx.heap.size → sv.ownBlock ≠ some j → w1.heap[j]? = wx.heap[j]? := fun j hj hne => (hgr.block j (by omega) (fun e => hne e.symm)).trans (hxW.block j hj)
  have sameB : ∀ j, j < wB.heap.size → sv.ownBlock ≠ some j → w1.heap[j]? = wB.heap[j]? := fun j hj hne => (hgr.block j (by omega) (fun e => hne e.symm)).trans (hBW.block j hj)
  have hbo : sv.ownBlock ≠ some (w.heap.size + 1 + 1) := fun e => by have := rl _ e; omega
  have hgb : w.heap.size + 1 + 1 + 1 ≤ gg := (World.ownsRow.lt hown gg rfl).1
  have b1 : w1.heap[w.heap.size + 1 + 1]? = some (.cells #[.int .i64 t.kind, .int .i64 t.num, .string t.name, sv] 28) := (same _ (by omega) hbo).trans hbox
  have b2 := heap_setCell_same w1 (w.heap.size + 1 + 1) 3 _ 28 (.slice (some ⟨gg, 0, none⟩) (k + 1) cap) b1
  have far : ∀ j, j ≠ w.heap.size + 1 + 1 → (w1.setCell ⟨w.heap.size + 1 + 1, 3, none⟩ (.slice (some ⟨gg, 0, none⟩) (k + 1) cap)).heap[j]? = w1.heap[j]? := fun j hj => Below.heap_setCell _ _ _ _ hj
  have sz : (w1.setCell ⟨w.heap.size + 1 + 1, 3, none⟩ (.slice (some ⟨gg, 0, none⟩) (k + 1) cap)).heap.size = w1.heap.size := by simp
  refine ⟨.slice (some ⟨gg, 0, none⟩) (k + 1) cap, L ++ [(x, u)], ?_, by simp [h2], b2, ?_, ?_, ?_, by rw [sz]; omega⟩
  · rw [List.map_append, h1, take_snoc hx]; rfl
  · rw [cellsL_append]
    have e : cellsL [(x, u)] = cells4 x u := by simp [cellsL]
    rw [e]
    refine ⟨hown.1, ?_⟩
    rcases hown.2 with hn | ⟨g', cap', cur, he, hb', hg', h5⟩
    · exact .inl hn
    · refine .inr ⟨g', cap', cur, he, hb', ?_, h5⟩
      rw [far g' (by omega)]
      exact hg'
  · intro j p hj
    by_cases hjl : j < L.length
    · rw [List.getElem?_append_left hjl] at hj
      obtain ⟨C, hC, hCb⟩ := hch j p hj
      refine ⟨C, hC.frame (by rw [sz]; omega) fun b hb _ => ?_, fun b hb => ?_⟩
      · obtain ⟨q1, q2, q3⟩ := hCb b hb
        rw [far b (by omega)]
        exact same b q2 q3
      · obtain ⟨q1, q2, q3⟩ := hCb b hb
        refine ⟨q1, by rw [sz]; omega, fun e => ?_⟩
        simp only [Value.ownBlock, Option.some.injEq] at e
        subst e
        rcases hat with h | h
        · exact q3 h
        · omega
    · have hj' : j = L.length := by
        have := (List.getElem?_eq_some_iff.1 hj).1
        simp at this
        omega
      subst hj'
      rw [List.getElem?_append_right (Nat.le_refl _), Nat.sub_self] at hj
      simp at hj
      subst hj
      refine ⟨iv wx.heap.size wB.heap.size, hu.frame (by rw [sz]; omega) fun b hb _ => ?_, fun b hb => ?_⟩
      · unfold iv at hb
        rw [far b (by omega)]
        exact sameB b hb.2 fun e => by have := rl _ e; omega
      · unfold iv at hb
        refine ⟨by omega, by rw [sz]; omega, fun e => ?_⟩
        simp only [Value.ownBlock, Option.some.injEq] at e
        subst e
        rcases hat with h | h
        · have := rl _ h; omega
        · omega
  · refine ⟨?_, ?_, ?_, ?_, ?_⟩
    · exact (hgr.os.trans hxW.os).trans hB.os
    · exact (hgr.tape.trans hxW.tape).trans hB.tape
    · exact (hgr.output.trans hxW.output).trans hB.output
    · rw [sz]; have := hB.size; omega
    · intro j hj
      rw [far j (by omega), same j (by omega) (fun e => by have := rl _ e; omega)]
      exact hB.block j hj

theorem copyR_box {t : Tm} {w wx wB W1 w1 : World} {k : Nat} {sv : Value} {L : List (Tm × Value)}
    (hbox : wx.heap[w.heap.size + 1 + 1]? = some (.cells #[.int .i64 t.kind, .int .i64 t.num, .string t.name, sv] 28)) (hrow : wx.ownsRow (w.heap.size + 1 + 1 + 1) 28 4 sv k (cellsL L)) (hsz : w.heap.size + 1 + 1 + 1 ≤ wx.heap.size)
    (hxB : Below wx.heap.size wx wB) (hBW : Below wB.heap.size wB W1) (hgr : W1.grownBy w1 sv.ownBlock) : w1.heap[w.heap.size + 1 + 1]? = some (.cells #[.int .i64 t.kind, .int .i64 t.num, .string t.name, sv] 28) := by
  have s1 := hxB.size
  have s2 := hBW.size
  have rl := World.ownsRow.lt hrow
  exact ((hgr.block _ (by omega) (fun e => by have := rl _ e.symm; omega)).trans ((belowOn hxB (Nat.le_refl _) hBW).block _ (by omega))).trans hbox
/-- The answer is a copy that can be read. -/
def CopyP (t : Tm) (w : World) (e : Ending) (w' : World) : Prop :=
  ∃ u, e = .returned (.agg #[.int .i64 t.kind, .int .i64 t.num, .string t.name, u]) ∧ ArgsS w' (iv w.heap.size w'.heap.size) u t.args ∧ Below w.heap.size w w'

set_option maxRecDepth 100000 in
set_option maxHeartbeats 4000000 in
theorem specCopy_any (N : Nat) : ∀ (t : Tm) (V : Value) (w : World), t.nodes < N → ArgsAt w V t.args → t.sz ≤ 1099511627776 →
    Calls Try.prog 42 #[.agg #[.int .i64 t.kind, .int .i64 t.num, .string t.name, V]] w (CopyP t w) := by
  induction N with
  | zero => intro t V w hN; omega
  | succ N ih =>
    intro t V w hN hA hZ
    obtain ⟨i0, hi0, hz0, hz1, hz2⟩ := info_parts infoTerm
    obtain ⟨aa, ca, rfl⟩ := hA.slice
    have HI := Lib.hid ih
    have HSE := Lib.hid (sz_eq t)
    have hL : t.args.length ≤ 1099511627776 := by have := length_szL t.args; have := HSE.out; omega
    have HNE := Lib.hid (nodes_eq t)
    have HA := Lib.hid (at_args hA)
    have HII := Lib.hid (And.intro hi0 (And.intro hz0 (And.intro hz1 hz2)))
    clear hA ih hi0 hz0 hz1 hz2
    have B1 : Below w.heap.size w (w.alloc (.cells #[.int .i64 t.kind, .int .i64 t.num, .string t.name, .slice aa t.args.length ca] 28)) := (Below.refl _ _).alloc (Nat.le_refl _) _
    have B2 : Below w.heap.size w ((w.alloc (.cells #[.int .i64 t.kind, .int .i64 t.num, .string t.name, .slice aa t.args.length ca] 28)).alloc (.cells #[.int .i64 0, .int .i64 0, .string ⟨#[]⟩, .slice none 0 0] 28)) := B1.alloc (by simp) _
    have B3 : Below w.heap.size w (((w.alloc (.cells #[.int .i64 t.kind, .int .i64 t.num, .string t.name, .slice aa t.args.length ca] 28)).alloc (.cells #[.int .i64 0, .int .i64 0, .string ⟨#[]⟩, .slice none 0 0] 28)).alloc (.cells #[.int .i64 t.kind, .int .i64 t.num, .string t.name, .slice none 0 0] 28)) := B2.alloc (by simp; omega) _
    replace HA := Lib.hid (HA.out.read B3)
    have HX := Lib.hid (((at_box w #[.int .i64 t.kind, .int .i64 t.num, .string t.name, .slice aa t.args.length ca] 28).read (belowAlloc (Below.refl _ _) (.cells #[.int .i64 0, .int .i64 0, .string ⟨#[]⟩, .slice none 0 0] 28))).read (belowAlloc (Below.refl _ _) (.cells #[.int .i64 t.kind, .int .i64 t.num, .string t.name, .slice none 0 0] 28)))
    have HRB := Lib.hid ((at_box_of (w.alloc (.cells #[.int .i64 t.kind, .int .i64 t.num, .string t.name, .slice aa t.args.length ca] 28)) #[.int .i64 0, .int .i64 0, .string ⟨#[]⟩, .slice none 0 0] 28 (w.heap.size + 1) (by simp)).read (belowAlloc (Below.refl _ _) (.cells #[.int .i64 t.kind, .int .i64 t.num, .string t.name, .slice none 0 0] 28)))
    have HOB := Lib.hid (at_box_of ((w.alloc (.cells #[.int .i64 t.kind, .int .i64 t.num, .string t.name, .slice aa t.args.length ca] 28)).alloc (.cells #[.int .i64 0, .int .i64 0, .string ⟨#[]⟩, .slice none 0 0] 28)) #[.int .i64 t.kind, .int .i64 t.num, .string t.name, .slice none 0 0] 28 (w.heap.size + 1 + 1) (by simp))
    have HW := Lib.hid B3
    clear B1 B2 B3
    go_enter Try.func42, Try.ntmps42
    go_upto_region 2 with (fail)
    generalize hw0 : ((w.alloc (.cells #[.int .i64 t.kind, .int .i64 t.num, .string t.name, .slice aa t.args.length ca] 28)).alloc (.cells #[.int .i64 0, .int .i64 0, .string ⟨#[]⟩, .slice none 0 0] 28)).alloc (.cells #[.int .i64 t.kind, .int .i64 t.num, .string t.name, .slice none 0 0] 28) = w0 at HA HX HRB HOB HW ⊢
    clear hw0
    have HR0 : Hid (CopyR t w w0 0 w0) := Lib.hid ⟨.slice none 0 0, [], rfl, rfl, HOB.out.now, World.ownsRow_nil w0 _ _ 4, fun j p hj => by simp at hj, Below.refl _ _, HOB.out.le⟩
    obtain ⟨c0a, c0b, c0c, c0d⟩ := HX.out.cells
    have z0 := HX.out.le
    go_wp2
    clear c0a c0b c0c c0d z0
    go_loopw [16] (fun i wr => ∃ k : Nat, k ≤ t.args.length ∧ i = .int .i64 k ∧ CopyR t w w0 k wr) (fun i _ => t.args.length - (intOf i).toNat)
    case atStart => exact ⟨0, Nat.zero_le _, rfl, HR0.out⟩
    case round =>
      obtain ⟨k, hk, rfl, sv, L, hl1, hl2, hbox, hrow, hch, hb, hsz⟩ := hrel
      obtain ⟨sa, sc, rfl⟩ := row_slice hrow
      have hb0 := hb.size
      have zA := HA.out.le
      have HAr := Lib.hid (HA.out.of_below hb (by omega))
      have HRr := Lib.hid (HRB.out.of_below hb (by omega))
      have H1 := Lib.hid hl1
      have H2 := Lib.hid hl2
      have HBX := Lib.hid hbox
      have HROW := Lib.hid hrow
      have HCH := Lib.hid hch
      have HBB := Lib.hid hb
      clear hl1 hl2 hbox hrow hch hb HR0
      by_cases hlt : k < t.args.length
      · obtain ⟨x, hx⟩ : ∃ x, t.args[k]? = some x := ⟨_, List.getElem?_eq_getElem hlt⟩
        have hzr := HAr.out.le
        obtain ⟨g, off, u1, u2, rfl, hg, hq, hc, hch⟩ := HAr.out.argsAt.elem hx
        clear hq
        obtain ⟨d0, d1, d2, d3⟩ := hc _ (Below.refl _ _)
        have HC := Lib.hid hch
        have HXX := Lib.hid hx
        have HN' : Hid (x.nodes < N ∧ x.sz ≤ 1099511627776) := Lib.hid (by have := nodes_at hx; have := HNE.out; have := sz_at hx; have := HSE.out; omega)
        clear hc hch hx
        have hal : Below wr.heap.size wr (wr.alloc (.cells #[.int .i64 x.kind, .int .i64 x.num, .string x.name, .slice u1 x.args.length u2] 28)) := (Below.refl _ _).alloc (Nat.le_refl _) _
        have HXB := Lib.hid (at_box wr #[.int .i64 x.kind, .int .i64 x.num, .string x.name, .slice u1 x.args.length u2] 28)
        have HBX2 := Lib.hid ((hal.block _ (by omega)).trans HBX.out)
        have HROW2 := Lib.hid (HROW.out.alloc (.cells #[.int .i64 x.kind, .int .i64 x.num, .string x.name, .slice u1 x.args.length u2] 28))
        have HCH2 : Hid (∀ (j : Nat) (p : Tm × Value), L[j]? = some p → ∃ C : Nat → Prop, ArgsS (wr.alloc (.cells #[.int .i64 x.kind, .int .i64 x.num, .string x.name, .slice u1 x.args.length u2] 28)) C p.2 p.1.args ∧ ∀ b, C b → w.heap.size + 1 + 1 + 1 ≤ b ∧ b < (wr.alloc (.cells #[.int .i64 x.kind, .int .i64 x.num, .string x.name, .slice u1 x.args.length u2] 28)).heap.size ∧ Value.ownBlock (.slice sa k sc) ≠ some b) := Lib.hid fun j p hj => by
          obtain ⟨C, h1, h2⟩ := HCH.out j p hj
          exact ⟨C, h1.kept hal, fun b hb => ⟨(h2 b hb).1, by have := (h2 b hb).2.1; simp; omega, (h2 b hb).2.2⟩⟩
        have HBB2 := Lib.hid (HBB.out.alloc (by omega) (.cells #[.int .i64 x.kind, .int .i64 x.num, .string x.name, .slice u1 x.args.length u2] 28))
        have HC2 := Lib.hid (HC.out.kept hal)
        have HSZ2 : Hid (w.heap.size + 1 + 1 + 1 ≤ (wr.alloc (.cells #[.int .i64 x.kind, .int .i64 x.num, .string x.name, .slice u1 x.args.length u2] 28)).heap.size) := Lib.hid (by simp; omega)
        have HSL : Hid (wr.heap.size < (wr.alloc (.cells #[.int .i64 x.kind, .int .i64 x.num, .string x.name, .slice u1 x.args.length u2] 28)).heap.size) := Lib.hid (by simp)
        clear hal
        go_upto_region 5 with (fail)
        generalize hwx : wr.alloc (.cells #[.int .i64 x.kind, .int .i64 x.num, .string x.name, .slice u1 x.args.length u2] 28) = wx at HXB HBX2 HROW2 HCH2 HBB2 HC2 HSZ2 HSL ⊢
        clear hwx d0 d1 d2 d3
        have hself : Below wx.heap.size wx wx := Below.refl _ _
        have hdrew : Below wx.heap.size wx wx.drew := hself.drew
        obtain ⟨x0, x1, x2, x3⟩ := HXB.out.cells
        have HBO := Lib.hid HBX2.out
        have HOC : Hid (∀ W, Below wx.heap.size wx W → W.heap[w.heap.size + 1 + 1]? = some (.cells #[.int .i64 t.kind, .int .i64 t.num, .string t.name, .slice sa k sc] 28)) := Lib.hid fun W hW => (hW.block _ (by have := HSZ2.out; omega)).trans HBX2.out
        have HCE : Hid (∀ W, Below wx.heap.size wx W → W.cell? ⟨wr.heap.size, 0, none⟩ = some (.int .i64 x.kind) ∧ W.cell? ⟨wr.heap.size, 1, none⟩ = some (.int .i64 x.num) ∧ W.cell? ⟨wr.heap.size, 2, none⟩ = some (.string x.name) ∧ W.cell? ⟨wr.heap.size, 3, none⟩ = some (.slice u1 x.args.length u2)) := Lib.hid fun W hW => (HXB.out.read hW).cells
        have o3 : wx.cell? ⟨w.heap.size + 1 + 1, 3, none⟩ = some (.slice sa k sc) := (box_cells (HOC.out _ hself)).2.2.2.1
        have o3d : wx.drew.cell? ⟨w.heap.size + 1 + 1, 3, none⟩ = some (.slice sa k sc) := (box_cells (HOC.out _ hdrew)).2.2.2.1
        have HCC : Hid (∀ W, Below wx.heap.size wx W → Calls Try.prog 42 #[.agg #[.int .i64 x.kind, .int .i64 x.num, .string x.name, .slice u1 x.args.length u2]] W fun e w' => ∃ u, e = .returned (.agg #[.int .i64 x.kind, .int .i64 x.num, .string x.name, u]) ∧ ArgsS w' (iv wx.heap.size w'.heap.size) u x.args ∧ Below wx.heap.size wx w') := Lib.hid fun W hW =>
          (HI.out x _ W HN'.out.1 (HC2.out.kept hW) HN'.out.2).mono fun e w' ⟨u, he, hu, hb⟩ => ⟨u, he, hu.sub fun j hj => ⟨by have := hW.size; have := hj.1; omega, hj.2⟩, belowOn hW (Nat.le_refl _) hb⟩
        have hkk : (k : Int) ≤ 1099511627776 := by omega
        have ne1 : ¬ wr.heap.size = w.heap.size + 1 + 1 := by omega
        have ne2 : ¬ w.heap.size + 1 + 1 = wr.heap.size := by omega
        clear HA HX HRB HOB HAr HRr HC HC2 HXB HI HBO
        go_region_law (first
          | (refine step_append_lies _ (by rfl) _ _ _ (by rfl) (w.heap.size + 1 + 1 + 1) 28 i0 _ 4 56 Try.underlying26 HII.out.1 HII.out.2.1 HII.out.2.2.1 HII.out.2.2.2 rfl (by omega) (.slice sa k sc) k (cellsL L) (by rfl) ((row_kept HROW2.out HWB.out).alloc _) ⟨wB.heap.size, 0, none⟩ 1 1 (cells4 x (.slice ua x.args.length uc)) (by rfl) (by rfl) (World.news_of_block (heap_alloc_new wB _)) (by simp [cells4, Value.oneCell']) (by omega) (by unfold maxLen; omega) (by omega) (by have := HSZ2.out; have := HWB.out.size; simp; omega) (wB.heap.size + 1) (by simp) ?_; intro gg cap w1 hown1 hgrow hat hlt1; obtain ⟨p0, p1, p2, p3, pf⟩ := box_cells (copyR_box HBX2.out HROW2.out HSZ2.out HWB.out ((Below.refl _ _).alloc (Nat.le_refl _) _) hgrow); have HR' := Lib.hid (copyR_step HXX.out H1.out H2.out HBX2.out HROW2.out HCH2.out HBB2.out HSZ2.out HU.out HWB.out ((Below.refl _ _).alloc (Nat.le_refl _) _) (by simp) hown1 hgrow hat (by omega) hlt1))
          | (go_simp; go_at_call 42; (with_reducible refine Calls.mono (HCC.out _ ?_) ?_); (assumption); rintro e wB ⟨u, rfl, hu, hbB⟩; obtain ⟨k0, k1, k2, k3⟩ := HCE.out _ hbB; have o3B : wB.cell? ⟨w.heap.size + 1 + 1, 3, none⟩ = some (.slice sa k sc) := (box_cells (HOC.out _ hbB)).2.2.2.1; have zB : w.heap.size + 1 + 1 < wB.heap.size := World.block_lt_of_cell? wB _ o3B; have nB : ¬ w.heap.size + 1 + 1 = wB.heap.size := (by omega); obtain ⟨ua, uc, rfl⟩ := hu.at.slice; have HU := Lib.hid hu; have HWB := Lib.hid hbB))
        all_goals
          go_wp2
          go_roundw
          case rel => exact ⟨k + 1, by omega, by go_num, HR'.out⟩
          case measure => simp [intOf]; omega
      · obtain rfl : k = t.args.length := by omega
        obtain ⟨o0, o1, o2, o3, _⟩ := box_cells HBX.out
        obtain ⟨r0, r1, r2, r3, rf⟩ := box_cells HRr.out.now
        have z0 := HRr.out.le
        go_wp2
        refine bodyPost_four (e := 28) (b := w.heap.size + 1) rfl rfl rfl Try.underlying28 rfl (by kernel_rfl) HRr.out.now ?_
        intro w' hw
        refine ⟨_, rfl, ?_, ?_⟩
        · have h2 := H2.out
          have hrow := HROW.out
          rw [← h2] at hrow
          have h1 := argsS_row (S := fun j => w.heap.size + 1 + 1 + 1 ≤ j ∧ j < wr.heap.size) hrow (fun j hj => World.ownsRow.lt hrow j hj) (fun j p hj => by
            obtain ⟨C, c1, c2⟩ := HCH.out j p hj
            exact c1.sub fun b hb => ⟨(c2 b hb).1, (c2 b hb).2.1⟩)
          rw [H1.out, List.take_length, h2] at h1
          have s1 := hw.size
          exact (h1.frame hw.size fun j hj _ => hw.block j hj.2 (by omega)).sub fun j hj => ⟨by omega, by omega⟩
        · have h1 := HBB.out.mono (show w.heap.size ≤ w.heap.size + 1 + 1 by omega)
          have h2 := HW.out.trans h1
          exact h2.trans (hw.below (fun j hj => by omega) h2.size)
end Go.Proofs.Ytnmdnajbafpfiaa

namespace Go.Proofs.Ytnmdnajbafpfiaa
open Go.RowKit
set_option linter.unusedVariables false
set_option linter.unusedSimpArgs false

theorem good_sz {t : Tm} (h : Good t) : t.sz + 1 ≤ 13 * t.nodes := by
  induction h with
  | nil => simp [Tm.sz, Tm.nodes, szL, nodesL, ByteArray.size]
  | var i h0 h1 => simp [Tm.sz, Tm.nodes, szL, nodesL, ByteArray.size]
  | sym s h =>
    have := (Good.fit (.sym s h)).name_size
    have e : (Tm.mk 2 0 s []).name = s := rfl
    rw [e] at this
    simp [Tm.sz, Tm.nodes, szL, nodesL]
    omega
  | int i h0 h1 => simp [Tm.sz, Tm.nodes, szL, nodesL, ByteArray.size]
  | pair a b ha hb iha ihb =>
    rw [nodes_two]
    simp only [Tm.sz, szL]
    have : (⟨#[]⟩ : ByteArray).size = 0 := rfl
    omega

def RvOk (t : Tm) (v : Int) (b : Tm) : Prop := Ok t ∧ Ok b ∧ (t.put v b).nodes ≤ 5000
open Classical in
noncomputable def rvB (t : Tm) (v : Int) (b : Tm) : Bool := decide (RvOk t v b)
open Classical in
noncomputable def rvT (t : Tm) (v : Int) (b : Tm) : Tm := if RvOk t v b then t.put v b else zeroTm
theorem rv_no {t : Tm} {v : Int} {b : Tm} (h : ¬ RvOk t v b) : rvT t v b = zeroTm ∧ rvB t v b = false := ⟨by rw [rvT, if_neg h], by simp [rvB, h]⟩
theorem rv_yes {t : Tm} {v : Int} {b : Tm} (h : RvOk t v b) : rvT t v b = t.put v b ∧ rvB t v b = true := ⟨by rw [rvT, if_pos h], by simp [rvB, h]⟩

/-- The answer: a term that can be read and a yes or no. -/
def OldTm2 (t : Tm) (b : Bool) (w : World) (e : Ending) (w' : World) : Prop := ∃ u, e = .returned (.tuple #[.agg #[.int .i64 t.kind, .int .i64 t.num, .string t.name, u], .bool b]) ∧ ArgsS w' (iv w.heap.size w'.heap.size) u t.args ∧ Below w.heap.size w w'
theorem oldTm2_end {P : Program} {fn : Func} {t : Tm} {k i : Int} {s : ByteArray} {B : Bool} {C : Nat → Prop} {w wE : World} {a : Act} {p q : Tmp} {b : Nat} {x0 x1 x2 x3 u : Value} {fs : Array Field} (h1 : t.kind = k) (h2 : t.num = i) (h3 : t.name = s) (h : fn.results = #[.cell p 28, .tmp q]) (hp : a.tmps.getD p undef = .pointer (some ⟨b, 0, none⟩)) (hq : a.tmps.getD q undef = .bool B) (hd : a.defers = [])
    (hu : P.underlying 28 = some (.struct fs)) (hi : (P.info? 28).map (·.size) = some 4) (hb : wE.heap[b]? = some (Obj.cells #[x0, x1, x2, x3] 28))
    (hW : Below w.heap.size w wE) (hb1 : w.heap.size ≤ b) (hC : ¬ C b) (hC2 : ∀ k, C k → w.heap.size ≤ k ∧ k < wE.heap.size) (hn : ArgsS wE C u t.args) :
    bodyPost P fn (OldTm2 t B w) .ret a ((((wE.setCell ⟨b, 0, none⟩ (.int .i64 k)).setCell ⟨b, 1, none⟩ (.int .i64 i)).setCell ⟨b, 2, none⟩ (.string s)).setCell ⟨b, 3, none⟩ u) := by
  subst h1
  subst h2
  subst h3
  refine bodyPost_four2 h hp hq hd hu rfl hi hb fun w' hw => ⟨_, rfl, (hn.frame hw.size fun k hk hks => hw.block k hks (fun e => hC (by rw [← e]; exact hk))).sub fun k hk => ⟨(hC2 k hk).1, Nat.lt_of_lt_of_le (hC2 k hk).2 hw.size⟩, hW.trans (hw.below (fun k hk => by omega) hW.size)⟩

theorem Own.inS {w : World} {e : TypeId} {S : Nat → Prop} {v : Value} {l : List Tm} (h : Own w e S v l) : ArgsS w S v l := by
  induction h with
  | nil S => exact .nil none 0
  | row S g n cap L C l hl hn hg hown hr hC hd ih =>
    subst hl
    refine .row g 0 n cap (fun j => match L[j]? with | some p => p.2 | none => .bool false) _ (by simpa using hn) hg (row_hit hown) ?_ ?_
    · intro j t hj i v hv
      rw [List.getElem?_map] at hj
      obtain ⟨p, hp, rfl⟩ := Option.map_eq_some_iff.1 hj
      rw [hp] at hv
      have hi4 : i < 4 := by have := (List.getElem?_eq_some_iff.1 hv).1; simpa [cells4] using this
      have hjn : j < n := by have := (List.getElem?_eq_some_iff.1 hp).1; omega
      rw [Nat.zero_add, World.ownsRow.cellAt hown _ (by omega)]
      exact cellsL_at hp hv
    · intro j t hj
      rw [List.getElem?_map] at hj
      obtain ⟨p, hp, rfl⟩ := Option.map_eq_some_iff.1 hj
      rw [hp]
      exact (ih j p hp).sub fun k hk => (hC j k (by have := (List.getElem?_eq_some_iff.1 hp).1; omega) hk).1
theorem NewTm2.old {t : Tm} {b : Bool} {w w' : World} {e : Ending} (h : NewTm2 t b w e w') : OldTm2 t b w e w' := by
  obtain ⟨u, he, hn, hb⟩ := h
  exact ⟨u, he, hn.inS, hb⟩

theorem rv_sz (t : Tm) (v : Int) (b : Tm) : (rvT t v b).sz ≤ 1048576 := by
  by_cases h : RvOk t v b
  · rw [(rv_yes h).1]
    have h1 := good_sz (good_put (v := v) h.2.1.2 h.1.2)
    have h2 := h.2.2
    omega
  · rw [(rv_no h).1]
    simp [zeroTm, Tm.sz, szL, ByteArray.size]
end Go.Proofs.Ytnmdnajbafpfiaa

