/-
  slices.Backward over a list of terms: its iterator's contract.
-/
import Derived.RangeFuncBox
import Derived.RangeFuncLeaves
import Derived.RangeFuncNested
import Derived.RangeFuncBound
import Derived.RangeFuncCalls
import Derived.Shelf.Abstract
import Derived.Shelf.RegionOpen
import Derived.WalkKit
import Derived.OwnWalkIn
import Derived.TacticsInMore
import Derived.LoopNIn
import Derived.LoopIn
import Derived.Test.YtokndpmoamjbfaaListOk
namespace Go.Proofs.Ytokndpmoamjbfaa
open Go.RowKit Go.Shelf
set_option linter.unusedVariables false
set_option linter.unusedSimpArgs false

attribute [local go_sem] Oper.semAt_some

/-- What a round that goes on keeps: what lay below n₀, and the iterator's own variable. -/
def KpB (n₀ Bs : Nat) (W W' : World) : Prop := Below n₀ W W' ∧ W'.heap[Bs]? = W.heap[Bs]?
theorem kpB_t {n₀ Bs : Nat} {A B C : World} (h : KpB n₀ Bs A B) (k : KpB n₀ Bs B C) : KpB n₀ Bs A C := ⟨h.1.trans k.1, k.2.trans h.2⟩
theorem kpB_b {n₀ Bs : Nat} {w : World} (hn : n₀ ≤ w.heap.size) (hB : Bs < w.heap.size) (W : World) (l : Nat) (o o' : Obj) (hl : w.heap.size ≤ l) (h : W.heap[l]? = some o) (h1 : o.isCells = false) (h2 : o.isWalk = false) : KpB n₀ Bs W (W.putObj l o') :=
  ⟨belowK_b hn W l o o' hl h h1 h2, World.putObj_heap_other (by omega)⟩
abbrev Idx (len : Nat) := { j : Nat // j < len }
theorem down_step {len j : Nat} {pre : List (Idx len)} (hj : j < len) (h : pre.map Subtype.val = ((List.range len).drop (j + 1)).reverse) : (pre ++ [(⟨j, hj⟩ : Idx len)]).map Subtype.val = ((List.range len).drop j).reverse := by
  rw [List.map_append, h]
  have : (List.range len).drop j = j :: (List.range len).drop (j + 1) := by
    rw [List.drop_eq_getElem_cons (by simpa using hj)]
    simp
  rw [this, List.reverse_cons]
  rfl
theorem down_len {len m : Nat} {pre : List (Idx len)} (h : pre.map Subtype.val = ((List.range len).drop m).reverse) : pre.length = len - m := by
  have := congrArg List.length h
  simpa using this

set_option maxRecDepth 100000 in
set_option maxHeartbeats 2000000 in
theorem backward1_in (F : Fence) (n : Nat) (h8 : F.fn 37) (hro : F.round = none) (hn : 1 ≤ n) (l Bs n₀ b off len cap : Nat) (a : Option Addr) (T : Nat → Tm) (U1 : Nat → Option Addr) (U2 : Nat → Nat) (hreach : len ≤ 1048576) (hb : b < n₀) (ha : 0 < len → a = some ⟨b, off, none⟩)
    (J Jx : List (Idx len) → World → Prop)
    (hY : ∀ pre (x : Idx len) W, J pre W → pre.length < len → YieldAt F (n - 1) Try.prog l #[.int .i64 ((x.1 : Nat) : Int), .agg #[.int .i64 (T x.1).kind, .int .i64 (T x.1).num, .string (T x.1).name, .slice (U1 x.1) (T x.1).args.length (U2 x.1)]] W fun e W' =>
      (e = .returned (.bool true) ∧ J (pre ++ [x]) W' ∧ KpB n₀ Bs W W') ∨ (e = .returned (.bool false) ∧ Jx (pre ++ [x]) W'))
    (W : World) (hBs : W.cell? ⟨Bs, 0, none⟩ = some (.slice a len cap))
    (hc : ∀ j, j < len → W.cell? ⟨b, off + j * 4, none⟩ = some (.int .i64 (T j).kind) ∧ W.cell? ⟨b, off + j * 4 + 1, none⟩ = some (.int .i64 (T j).num) ∧ W.cell? ⟨b, off + j * 4 + 2, none⟩ = some (.string (T j).name) ∧ W.cell? ⟨b, off + j * 4 + 3, none⟩ = some (.slice (U1 j) (T j).args.length (U2 j)))
    (h0 : J [] W) :
    CallsIn F n Try.prog 37 #[.func (.yield l) #[] #[], .pointer (some ⟨Bs, 0, none⟩)] W fun e W' => (∃ v, e = .returned v) ∧
      ((∃ ys, ys.map Subtype.val = (List.range len).reverse ∧ J ys W') ∨ (∃ pre, True ∧ Jx pre W')) := by
  refine callsIn_of_wp Try.func37 rfl h8 ?_ hro
  simp only [Try.ntmps37, List.size_toArray, List.length_cons, List.length_nil, Nat.reduceAdd, Nat.reduceSub, Array.replicate_succ, Array.replicate_zero, List.push_toArray, List.append_toArray, List.nil_append, List.cons_append]
  gi_wp2
  gi_loopw [3] (fun i wr => ∃ (m : Nat) (pre : List (Idx len)), m ≤ len ∧ i = .int .i64 ((m : Int) - 1) ∧ Hid (pre.map Subtype.val = ((List.range len).drop m).reverse) ∧ J pre wr ∧ KpB n₀ Bs W wr)
    (fun i _ => (intOf i + 1).toNat)
  case atStart => exact ⟨len, [], Nat.le_refl _, rfl, Lib.hid (by simp), h0, Below.refl _ _, rfl⟩
  case round =>
    obtain ⟨m, pre, hm, rfl, HP, hJs, hnx⟩ := hrel
    cases m with
    | zero =>
      have HR : Hid (pre.map Subtype.val = (List.range len).reverse) := Lib.hid (by have := HP.out; simpa using this)
      gi_wp2
      go_end0
      exact ⟨⟨_, rfl⟩, .inl ⟨_, HR.out, hJs⟩⟩
    | succ j =>
      rw [show (((j + 1 : Nat) : Int) - 1) = (j : Int) by omega]
      have hj : j < len := hm
      obtain rfl := ha (by omega)
      have hcB : wr.cell? ⟨Bs, 0, none⟩ = some (.slice (some ⟨b, off, none⟩) len cap) := (World.cell?_of_block (a := ⟨Bs, 0, none⟩) hnx.2).trans hBs
      obtain ⟨c0, c1, c2, c3⟩ := hc j hj
      replace c0 := (hnx.1.cell (p := ⟨b, off + j * 4, none⟩) hb).trans c0
      replace c1 := (hnx.1.cell (p := ⟨b, off + j * 4 + 1, none⟩) hb).trans c1
      replace c2 := (hnx.1.cell (p := ⟨b, off + j * 4 + 2, none⟩) hb).trans c2
      replace c3 := (hnx.1.cell (p := ⟨b, off + j * 4 + 3, none⟩) hb).trans c3
      have hpl : pre.length < len := by rw [down_len HP.out]; omega
      have HP2 := Lib.hid (down_step hj HP.out)
      obtain ⟨fn, tmps, assign, body, hy, hR⟩ := hY pre ⟨j, hj⟩ wr hJs hpl
      dsimp only at hy
      gi_wp2
      refine hR.mono ?_
      rintro e W3 (⟨rfl, hJ3, hk3⟩ | ⟨rfl, hJx3⟩)
      · gi_wp2
        go_roundw
        case rel => exact ⟨j, pre ++ [⟨j, hj⟩], by omega, by go_num, HP2, hJ3, kpB_t hnx hk3⟩
        case measure => simp [intOf] <;> omega
      · gi_wp2
        refine bodyPost_ret (results_none rfl _ _ _) rfl ?_
        exact ⟨⟨_, rfl⟩, .inr ⟨_, trivial, hJx3⟩⟩

set_option maxHeartbeats 1000000 in
theorem backward_in (F : Fence) (n : Nat) (h5 : F.fn 27) (hro : F.round = none) (a : Option Addr) (len cap : Nat) (w : World) :
    CallsIn F n Try.prog 27 #[.slice a len cap] w fun e w' => e = .returned (.func (.func 37) #[] #[.pointer (some ⟨w.heap.size, 0, none⟩)]) ∧ w' = w.alloc (.cells #[.slice a len cap] 23) := by
  refine callsIn_of_wp Try.func27 rfl h5 ?_ hro
  simp only [Try.ntmps27, List.size_toArray, List.length_cons, List.length_nil, Nat.reduceAdd, Nat.reduceSub, Array.replicate_succ, Array.replicate_zero, List.push_toArray, List.append_toArray, List.nil_append, List.cons_append]
  gi_wp2
  go_ret
  exact ⟨rfl, rfl⟩

theorem backward_stops (F : Fence) (n : Nat) (h8 : F.fn 37) (hro : F.round = none) (hn : 1 ≤ n) (Bs n₀ b off len cap : Nat) (a : Option Addr) (T : Nat → Tm) (U1 : Nat → Option Addr) (U2 : Nat → Nat) (hreach : len ≤ 1048576) (hb : b < n₀) (ha : 0 < len → a = some ⟨b, off, none⟩) (w : World) (hBs : Bs < w.heap.size) (hn₀ : n₀ ≤ w.heap.size)
    (hs : w.cell? ⟨Bs, 0, none⟩ = some (.slice a len cap))
    (hc : ∀ j, j < len → w.cell? ⟨b, off + j * 4, none⟩ = some (.int .i64 (T j).kind) ∧ w.cell? ⟨b, off + j * 4 + 1, none⟩ = some (.int .i64 (T j).num) ∧ w.cell? ⟨b, off + j * 4 + 2, none⟩ = some (.string (T j).name) ∧ w.cell? ⟨b, off + j * 4 + 3, none⟩ = some (.slice (U1 j) (T j).args.length (U2 j))) :
    SeqStopsK F n Try.prog 37 #[.pointer (some ⟨Bs, 0, none⟩)] (fun x : Idx len => #[.int .i64 ((x.1 : Nat) : Int), .agg #[.int .i64 (T x.1).kind, .int .i64 (T x.1).num, .string (T x.1).name, .slice (U1 x.1) (T x.1).args.length (U2 x.1)]]) (KpB n₀ Bs)
      (fun ys => ys.map Subtype.val = (List.range len).reverse) (fun _ => True) len w := fun l J Jx W hW _ _ hY h0 => by
  have hbw : b < w.heap.size := by omega
  exact backward1_in F n h8 hro hn l Bs n₀ b off len cap a T U1 U2 hreach hb ha J Jx hY W ((hW.cell (p := ⟨Bs, 0, none⟩) hBs).trans hs)
    (fun j hj => ⟨(hW.cell (p := ⟨b, off + j * 4, none⟩) hbw).trans (hc j hj).1, (hW.cell (p := ⟨b, off + j * 4 + 1, none⟩) hbw).trans (hc j hj).2.1, (hW.cell (p := ⟨b, off + j * 4 + 2, none⟩) hbw).trans (hc j hj).2.2.1, (hW.cell (p := ⟨b, off + j * 4 + 3, none⟩) hbw).trans (hc j hj).2.2.2⟩) h0
end Go.Proofs.Ytokndpmoamjbfaa

