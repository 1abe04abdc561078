/-
  The contracts of the laws' helpers that measure a term: szTerm, szTermS.
-/
import Derived.Test.YtokndpmoamjbfaaDoorForm
import Derived.Test.YtokndpmoamjbfaaDoorInfo
import Derived.Test.YtokndpmoamjbfaaDoorRows
import Derived.WalkKit
import Derived.ProofKit
import Derived.LoopTactic
import Derived.Lib.Hide
namespace Go.Proofs.YtokndpmoamjbfaaDoor
open Go.RowKit

def SzP (n : Nat) (left : Int) (w : World) (e : Ending) (w' : World) : Prop :=
  ∃ r : Int, e = .returned (.int .i64 r) ∧ -1 ≤ r ∧ r ≤ left ∧ (0 ≤ r → r = left - n) ∧ Below w.heap.size w w'

set_option maxHeartbeats 400000 in
theorem szTerm_of (k i : Int) (s : ByteArray) (V : Value) (n : Nat) (left : Int) (w : World) (hs : s.size ≤ maxLen) (h0 : 0 ≤ left) (h1 : left ≤ 1048576)
    (HR : Hid (∀ W L, Below w.heap.size w W → 0 ≤ L → L ≤ 1048576 → Calls Tryd.prog 22 #[V, .int .i64 L] W (SzP n L W))) :
    Calls Tryd.prog 15 #[.agg #[.int .i64 k, .int .i64 i, .string s, V], .int .i64 left] w (SzP (s.size + n) left w) := by
  unfold maxLen at hs
  have B0 := Lib.hid ((Below.refl w.heap.size w).alloc (Nat.le_refl _) (.cells #[.int .i64 k, .int .i64 i, .string s, V] 38))
  by_cases hneg : left - s.size < 0
  · go_enter Tryd.func15, Tryd.ntmps15
    go_wp2
    go_ret
    exact ⟨-1, rfl, by omega, by omega, fun x => by omega, B0.out⟩
  · go_enter Tryd.func15, Tryd.ntmps15
    go_wp2_with fail
    refine (HR.out _ (left - s.size) B0.out (by omega) (by omega)).mono ?_
    rintro e w' ⟨r, rfl, hr1, hr2, hr, hb⟩
    have HB := Lib.hid (B0.out.trans (hb.mono (by simp)))
    clear hb
    by_cases hn : r < 0
    · go_wp2
      go_ret
      exact ⟨-1, rfl, by omega, by omega, fun x => by omega, HB.out⟩
    · go_wp2
      go_ret
      exact ⟨r, rfl, by omega, by omega, fun x => by have := hr x; omega, HB.out⟩

set_option maxHeartbeats 400000 in
theorem szTerms_any (N : Nat) : ∀ (l : List Tm) (V : Value) (left : Int) (w : World), nodesL l ≤ N → ArgsAt w V l → fineL l → l.length ≤ maxLen → 0 ≤ left → left ≤ 1048576 →
    Calls Tryd.prog 22 #[V, .int .i64 left] w (SzP (szL l) left w) := by
  induction N with
  | zero =>
    intro l V left w hN hA hF hL h0 h1
    have : l = [] := by
      cases l with
      | nil => rfl
      | cons t l => rw [nodesL] at hN; have := nodes_pos t; omega
    subst this
    obtain ⟨a, cap, rfl⟩ := hA.slice
    go_enter Tryd.func22, Tryd.ntmps22
    go_wp2
    refine wp_loop_rounds 1 ?_
    rw [rounds_succ]
    go_wp2
    go_ret
    exact ⟨left, rfl, by omega, by omega, fun _ => by rw [szL_nil]; omega, Below.refl _ _⟩
  | succ N ih =>
    intro l V left w hN hA hF hL h0 h1
    unfold maxLen at hL
    obtain ⟨a, cap, rfl⟩ := hA.slice
    have HA := Lib.hid hA
    have HF := Lib.hid hF
    have HI := Lib.hid ih
    clear hA hF ih
    by_cases hneg : left - l.length < 0
    · go_enter Tryd.func22, Tryd.ntmps22
      go_wp2
      go_ret
      exact ⟨-1, rfl, by omega, by omega, fun x => by omega, Below.refl _ _⟩
    · go_enter Tryd.func22, Tryd.ntmps22
      go_wp2
      go_loopw [1, 5] (fun lv i wr => ∃ (k : Nat) (r : Int), k ≤ l.length ∧ i = .int .i64 k ∧ lv = .int .i64 r ∧ 0 ≤ r ∧ r ≤ left ∧ r = left - l.length - (szL (l.take k) - k) ∧ Below w.heap.size w wr) (fun _ i _ => l.length - (intOf i).toNat)
      case atStart => exact ⟨0, left - l.length, Nat.zero_le _, rfl, by go_num, by omega, by omega, by simp [szL_nil], Below.refl _ _⟩
      case round =>
        obtain ⟨k, r, hk, rfl, rfl, hr0, hr1, hr, hb⟩ := hrel
        have HB := Lib.hid hb
        have HR := Lib.hid hr
        clear hb hr
        by_cases hlt : k < l.length
        · obtain ⟨t, ht⟩ : ∃ t, l[k]? = some t := ⟨_, List.getElem?_eq_getElem hlt⟩
          obtain ⟨g, off, cap', V, hv, hg, hc, hch⟩ := HA.out.parts (by intro e; subst e; simp at hlt)
          simp only [Value.slice.injEq] at hv
          obtain ⟨rfl, _, rfl⟩ := hv
          obtain ⟨c0, c1, c2, c3⟩ := hc k t ht
          have d0 := (HB.out.cell (p := ⟨g, off + k * 4, none⟩) hg).trans c0
          have d1 := (HB.out.cell (p := ⟨g, off + k * 4 + 1, none⟩) hg).trans c1
          have d2 := (HB.out.cell (p := ⟨g, off + k * 4 + 2, none⟩) hg).trans c2
          have d3 := (HB.out.cell (p := ⟨g, off + k * 4 + 3, none⟩) hg).trans c3
          have HT := Lib.hid ht
          have HC := Lib.hid (hch k t ht)
          clear hc hch c0 c1 c2 c3 ht
          have hN' : nodesL t.args ≤ N := by have := nodes_at HT.out; rw [nodes_eq] at this; omega
          have hft := fine_at HF.out HT.out
          rw [fine_eq] at hft
          have HN := Lib.hid hft.2.1
          have HG := Lib.hid hft.2.2
          have hs := hft.1
          have HSZ := Lib.hid (sz_at HT.out)
          have HST := Lib.hid (sz_take HT.out)
          clear hft
          have HSE := Lib.hid (sz_eq t)
          go_wp2_with fail
          refine (szTerm_of t.kind t.num t.name (V k) (szL t.args) r wr hs hr0 (by omega) (Lib.hid fun W L bW l0 l1 => HI.out t.args (V k) L W hN' (HC.out.kept (HB.out.trans (bW.mono HB.out.size))) HG.out HN.out l0 l1)).mono ?_
          rintro e w' ⟨q, rfl, hq1, hq2, hq, hb⟩
          have HQ := Lib.hid hq
          have HB2 := Lib.hid (HB.out.trans (hb.mono HB.out.size))
          clear hq hb
          by_cases hn : q < 0
          · go_wp2
            go_ret
            have := HSZ.out
            have := HSE.out
            exact ⟨-1, rfl, by omega, by omega, fun x => by omega, HB2.out⟩
          · go_wp2
            go_roundw
            case rel =>
              have h1 := HQ.out (by omega)
              have h2 := HR.out
              have h3 := HST.out
              have h4 := HSE.out
              exact ⟨k + 1, q, by omega, by go_num, rfl, by omega, by omega, by rw [h3]; omega, HB2.out⟩
            case measure => simp [intOf]; omega
        · go_wp2
          go_ret
          obtain rfl : k = l.length := by omega
          have := HR.out
          rw [List.take_length] at this
          exact ⟨r, rfl, by omega, by omega, fun _ => by have := length_szL l; omega, HB.out⟩
end Go.Proofs.YtokndpmoamjbfaaDoor

