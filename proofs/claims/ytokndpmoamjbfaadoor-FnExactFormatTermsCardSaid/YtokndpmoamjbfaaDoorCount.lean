/-
  The contract of the model's count of nodes, l02Count.
-/
import Derived.Test.YtokndpmoamjbfaaDoorEq
namespace Go.Proofs.YtokndpmoamjbfaaDoor
open Go.RowKit

/-- The number of nodes, or some number above the most if it is above the most. -/
def CountP (t : Tm) (most : Int) (w : World) (e : Ending) (w' : World) : Prop :=
  ∃ c : Nat, e = .returned (.int .i64 c) ∧ 1 ≤ c ∧ c ≤ t.nodes ∧ ((t.nodes : Int) ≤ most → c = t.nodes) ∧ (most < t.nodes → most < c) ∧ Below w.heap.size w w'

set_option maxHeartbeats 1600000 in
theorem count_any (N : Nat) : ∀ (t : Tm) (V : Value) (most : Int) (w : World), t.nodes < N → ArgsAt w V t.args → t.sz ≤ 1099511627776 → 0 ≤ most → most ≤ 5000 →
    Calls Tryd.prog 61 #[.agg #[.int .i64 t.kind, .int .i64 t.num, .string t.name, V], .int .i64 most] w (CountP t most w) := by
  induction N with
  | zero => intro t V most w hN; omega
  | succ N ih =>
    intro t V most w hN hA hZ hr0 hr1
    obtain ⟨a, cap, rfl⟩ := hA.slice
    have HA := Lib.hid hA
    have HI := Lib.hid ih
    have HSE := Lib.hid (sz_eq t)
    have hL : t.args.length ≤ 1099511627776 := by have := length_szL t.args; have := HSE.out; omega
    have HNE := Lib.hid (nodes_eq t)
    have hnz : t.nodes ≤ 1099511627777 := by have := nodes_sz t; omega
    clear hA ih
    have B0 := Lib.hid ((Below.refl w.heap.size w).alloc (Nat.le_refl _) (.cells #[.int .i64 t.kind, .int .i64 t.num, .string t.name, .slice a t.args.length cap] 26))
    go_enter Tryd.func61, Tryd.ntmps61
    go_wp2
    go_loopw [5, 11] (fun sv i wr => ∃ k n : Nat, k ≤ t.args.length ∧ i = .int .i64 k ∧ sv = .int .i64 n ∧ 1 ≤ n ∧ n ≤ 1 + nodesL (t.args.take k) ∧ ((1 + nodesL (t.args.take k) : Int) ≤ most → n = 1 + nodesL (t.args.take k)) ∧ (most < (1 + nodesL (t.args.take k) : Int) → most < n) ∧ Below w.heap.size w wr)
        (fun _ i _ => t.args.length - (intOf i).toNat)
    case atStart => exact ⟨0, 1, Nat.zero_le _, rfl, rfl, by omega, by simp [nodesL_nil], fun _ => by simp [nodesL_nil], fun h => by simp [nodesL_nil] at h; omega, B0.out⟩
    case round =>
      obtain ⟨k, n, hk, rfl, rfl, hn1, hn2, hn3, hn4, hb⟩ := hrel
      have hn5 : n ≤ t.nodes := by have := nodes_take_le t.args k; have := HNE.out; omega
      have H3 := Lib.hid hn3
      have H4 := Lib.hid hn4
      have HB := Lib.hid hb
      have H2 := Lib.hid hn2
      clear hn2 hn3 hn4 hb
      by_cases hlt : k < t.args.length
      · obtain ⟨x, hx⟩ : ∃ x, t.args[k]? = some x := ⟨_, List.getElem?_eq_getElem hlt⟩
        obtain ⟨g, off, cap1, V, hv, hg, hc, hch⟩ := HA.out.parts (by intro e; rw [e] at hlt; simp at hlt)
        simp only [Value.slice.injEq, true_and] at hv
        obtain ⟨rfl, rfl⟩ := hv
        obtain ⟨c0, c1, c2, c3⟩ := hc k x hx
        have d0 := (HB.out.cell (p := ⟨g, off + k * 4, none⟩) hg).trans c0
        have d1 := (HB.out.cell (p := ⟨g, off + k * 4 + 1, none⟩) hg).trans c1
        have d2 := (HB.out.cell (p := ⟨g, off + k * 4 + 2, none⟩) hg).trans c2
        have d3 := (HB.out.cell (p := ⟨g, off + k * 4 + 3, none⟩) hg).trans c3
        obtain ⟨u1, u2, hV⟩ := (hch k x hx).slice
        rw [hV] at d3
        have HC := Lib.hid (hch k x hx)
        rw [hV] at HC
        have HX := Lib.hid hx
        have HNA := Lib.hid (nodes_take_at hx)
        have HNT := Lib.hid (nodes_take hx)
        have hN' : x.nodes < N := by have := nodes_at hx; have := HNE.out; omega
        have hxn : x.nodes ≤ 1099511627777 := by have := nodes_at hx; have := HNE.out; omega
        have hZ' : x.sz ≤ 1099511627776 := by have h1 := sz_at hx; have := HSE.out; omega
        clear hc hch c0 c1 c2 c3 hx hV
        have hbx : Below w.heap.size w (wr.alloc (.cells #[.int .i64 x.kind, .int .i64 x.num, .string x.name, .slice u1 x.args.length u2] 26)) := HB.out.alloc HB.out.size _
        have HBX := Lib.hid hbx
        by_cases hgt : most < (n : Int)
        · go_wp2
          go_ret
          refine ⟨n, rfl, hn1, hn5, fun h => ?_, fun _ => hgt, HBX.out⟩
          have := H2.out
          have := HNE.out
          have := HNA.out
          omega
        · have HCALL := Lib.hid (HI.out x _ (most - n) _ hN' (HC.out.kept hbx) hZ' (by omega) (by omega))
          clear hbx
          go_wp2_with fail
          refine HCALL.out.mono ?_
          rintro e w2 ⟨c, rfl, hc1, hc2, hc3, hc4, hb2⟩
          have HB2 := Lib.hid (HBX.out.trans (hb2.mono HBX.out.size))
          have HC3 := Lib.hid hc3
          have HC4 := Lib.hid hc4
          clear hb2 HCALL hc3 hc4
          go_wp2
          go_roundw
          case rel =>
            have h3 := HC3.out
            have h4 := HC4.out
            have h5 := HNT.out
            have h6 := H2.out
            have h7 := H3.out
            have h8 := H4.out
            exact ⟨k + 1, n + c, by omega, by go_num, by go_num, by omega, by omega, by omega, by omega, HB2.out⟩
          case measure => simp [intOf]; omega
      · go_wp2
        go_ret
        obtain rfl : k = t.args.length := by omega
        have h2 := H2.out
        have h3 := H3.out
        have h4 := H4.out
        rw [List.take_length] at h2 h3 h4
        have h5 := HNE.out
        exact ⟨n, rfl, hn1, hn5, by omega, by omega, HB.out⟩
end Go.Proofs.YtokndpmoamjbfaaDoor

