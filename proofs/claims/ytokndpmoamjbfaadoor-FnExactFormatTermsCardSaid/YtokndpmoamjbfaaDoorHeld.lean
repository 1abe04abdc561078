/-
  Marks looked for again: heldTermS, heldTerm; markTerm.
-/
import Derived.Test.YtokndpmoamjbfaaDoorMarks
namespace Go.Proofs.YtokndpmoamjbfaaDoor
open Go.RowKit
set_option linter.unusedVariables false
set_option linter.unusedSimpArgs false

set_option maxRecDepth 100000 in
set_option maxHeartbeats 1600000 in
theorem heldTerms_any (N : Nat) : ∀ (l : List Tm) (V : Value) (k : Int) (w : World), nodesL l < N → ArgsAt w V (markL k l) → 0 < k → k + 3 * (nodesL l : Int) ≤ 1099511627776 → l.length ≤ 1099511627776 →
    Calls Tryd.prog 28 #[V, .int .i64 k] w fun e w' => e = .returned (.int .i64 (k + 3 * (nodesL l : Int))) ∧ Below w.heap.size w w' := by
  induction N with
  | zero => intro l V k w hN; omega
  | succ N ih =>
    intro l V k w hN hA hk0 hk1 hL
    obtain ⟨a, cap, rfl⟩ := hA.slice
    rw [markL_length] at hA ⊢
    have HA := Lib.hid hA
    have HI := Lib.hid ih
    clear hA ih
    go_enter Tryd.func28, Tryd.ntmps28
    go_wp2
    go_loopw [1, 5] (fun kv i wr => ∃ (j : Nat) (c : Int), j ≤ l.length ∧ kv = .int .i64 c ∧ i = .int .i64 j ∧ Hid (c = k + 3 * (nodesL (l.take j) : Int)) ∧ Hid (Below w.heap.size w wr))
        (fun _ i _ => l.length - (intOf i).toNat)
    case atStart => exact ⟨0, k, Nat.zero_le _, rfl, rfl, Lib.hid (by simp [nodesL_nil]), Lib.hid (Below.refl _ _)⟩
    case round =>
      obtain ⟨j, c, hj, rfl, rfl, HC, HY⟩ := hrel
      by_cases hlt : j < l.length
      · obtain ⟨x, hx⟩ : ∃ x, l[j]? = some x := ⟨_, List.getElem?_eq_getElem hlt⟩
        have HX := Lib.hid hx
        have hm : (markL k l)[j]? = some (.mk c (c + 1) (mtx (c + 1 + 1)) (markL (c + 1 + 1 + 1) x.args)) := by rw [markL_at hx, ← HC.out, markT_eq]
        obtain ⟨g, off, u1, u2, rfl, hg, hq, hc, hch⟩ := HA.out.elem hm
        clear hq
        have HCE : Hid (∀ W, Below w.heap.size w W → W.cell? ⟨g, off + j * 4, none⟩ = some (.int .i64 c) ∧ W.cell? ⟨g, off + j * 4 + 1, none⟩ = some (.int .i64 (c + 1)) ∧ W.cell? ⟨g, off + j * 4 + 2, none⟩ = some (.string (mtx (c + 1 + 1))) ∧ W.cell? ⟨g, off + j * 4 + 3, none⟩ = some (.slice u1 (markL (c + 1 + 1 + 1) x.args).length u2)) := Lib.hid hc
        have HCH : Hid (ArgsAt w (.slice u1 (markL (c + 1 + 1 + 1) x.args).length u2) (markL (c + 1 + 1 + 1) x.args)) := Lib.hid hch
        have hcb : 0 < c ∧ c + 3 * (x.nodes : Int) ≤ 1099511627776 := by
          have h1 := HC.out
          have h2 := nodes_take_at hx
          omega
        obtain ⟨hc0, hc1⟩ := hcb
        have hxn := nodes_pos x
        have HN' := Lib.hid (show nodesL x.args < N ∧ x.nodes = 1 + nodesL x.args by have h1 := nodes_at hx; have h2 := nodes_eq x; omega)
        clear hx hm hc hch
        obtain ⟨d0, d1, d2, d3⟩ := HCE.out wr HY.out
        go_upto_region 10 with (fail)
        go_cut [37] from 6 to 48 (fun b wx => b = .bool false ∧ Below wr.heap.size wr wx)
        case first =>
          have hself : Below wr.heap.size wr wr := Below.refl _ _
          have hdrew : Below wr.heap.size wr wr.drew := hself.drew
          have HT : Hid (∀ W, Below wr.heap.size wr W → Calls Tryd.prog 44 #[.int .i64 (c + 1 + 1)] W fun e w' => e = .returned (.string (mtx (c + 1 + 1))) ∧ Below W.heap.size W w') := Lib.hid fun W hW => mtext_any (c + 1 + 1) W (by omega) (by omega)
          have HC2 : Hid (∀ W, Below wr.heap.size wr W → W.cell? ⟨g, off + j * 4 + 2, none⟩ = some (.string (mtx (c + 1 + 1)))) := Lib.hid fun W hW => (HCE.out W (belowOn HY.out (Nat.le_refl _) hW)).2.2.1
          have HTR : Hid (∀ a b, Below wr.heap.size wr a → Below a.heap.size a b → Below wr.heap.size wr b) := Lib.hid fun a b h1 h2 => belowOn h1 (Nat.le_refl _) h2
          have hi0 : (0 : Int) ≤ (j : Int) := by omega
          have hi1 : (j : Int) < (l.length : Int) := by omega
          clear d0 d1 d3 HA HI
          go_region_held3 (fun w' => Below wr.heap.size wr w' ∧ w'.cell? ⟨g, off + j * 4 + 2, none⟩ = some (.string (mtx (c + 1 + 1)))) (go_keep)
            (first
              | (go_at_call 44; (with_reducible refine Calls.mono (HT.out _ ?_) ?_); (assumption); rintro e w' ⟨rfl, hb⟩; have hB' := HTR.out _ _ (by assumption) hb; have k0 := HC2.out _ hB'))
          all_goals (go_wp2_with fail; go_meet; exact ⟨rfl, by assumption⟩)
        case rest =>
          obtain ⟨rfl, hb⟩ := hcut
          obtain ⟨w2, rfl⟩ : ∃ x : World, x = wc := ⟨_, rfl⟩
          have HY2 := Lib.hid (belowOn HY.out (Nat.le_refl _) hb)
          clear hb d0 d1 d2 d3
          obtain ⟨d0, d1, d2, d3⟩ := HCE.out w2 HY2.out
          have HCALL := Lib.hid (HI.out x.args (.slice u1 (markL (c + 1 + 1 + 1) x.args).length u2) (c + 1 + 1 + 1) w2 HN'.out.1 (HCH.out.kept HY2.out) (by omega) (by have := HN'.out.2; omega) (by have := HN'.out.2; have h := nodesL_len x.args; omega))
          go_wp2_with fail
          refine HCALL.out.mono ?_
          rintro e w5 ⟨rfl, hb5⟩
          have HY5 := Lib.hid (belowOn HY2.out (Nat.le_refl _) hb5)
          clear hb5 HCALL d0 d1 d2 d3
          have hpos : 0 ≤ c + 1 + 1 + 1 + 3 * (nodesL x.args : Int) := by omega
          go_wp2
          go_roundw
          case rel =>
            refine ⟨j + 1, c + 1 + 1 + 1 + 3 * (nodesL x.args : Int), by omega, rfl, by go_num, Lib.hid ?_, HY5⟩
            have h1 := nodes_take HX.out
            have h2 := HN'.out.2
            have h3 := HC.out
            omega
          case measure => simp [intOf]; omega
      · go_wp2
        go_ret
        obtain rfl : j = l.length := by omega
        have h1 := HC.out
        rw [List.take_length] at h1
        exact ⟨by rw [← h1]; rfl, HY.out⟩

set_option maxHeartbeats 400000 in
theorem heldTerm_any (k0 k1 : Int) (s : ByteArray) (l : List Tm) (V : Value) (k : Int) (w : World) (hA : ArgsAt w V (markL k l)) (hk0 : 0 < k) (hk1 : k + 3 * (nodesL l : Int) ≤ 1099511627776) :
    Calls Tryd.prog 21 #[.agg #[.int .i64 k0, .int .i64 k1, .string s, V], .int .i64 k] w fun e w' => e = .returned (.int .i64 (k + 3 * (nodesL l : Int))) ∧ Below w.heap.size w w' := by
  obtain ⟨a, cap, rfl⟩ := hA.slice
  have B0 := Lib.hid ((Below.refl w.heap.size w).alloc (Nat.le_refl _) (.cells #[.int .i64 k0, .int .i64 k1, .string s, .slice a (markL k l).length cap] 26))
  have HH := Lib.hid (heldTerms_any (nodesL l + 1) l _ k (w.alloc (.cells #[.int .i64 k0, .int .i64 k1, .string s, .slice a (markL k l).length cap] 26)) (by omega) (hA.kept B0.out) hk0 hk1 (by have h := nodesL_len l; omega))
  have hpos : 0 ≤ k + 3 * (nodesL l : Int) := by omega
  clear hA
  go_enter Tryd.func21, Tryd.ntmps21
  go_wp2_with fail
  refine HH.out.mono ?_
  rintro e w1 ⟨rfl, hb⟩
  have HB := Lib.hid (belowOn B0.out (Nat.le_refl _) hb)
  clear hb HH
  go_wp2
  go_ret
  exact ⟨rfl, HB.out⟩

set_option maxHeartbeats 400000 in
theorem markTerm_any (k0 k1 : Int) (s : ByteArray) (l : List Tm) (V : Value) (k : Int) (lo hi : Nat) (w : World) (hO : At w lo hi (OwnP 26 lo hi V l)) (hk0 : 0 < k) (hk1 : k + 3 * (nodesL l : Int) ≤ 1099511627776) :
    Calls Tryd.prog 20 #[.agg #[.int .i64 k0, .int .i64 k1, .string s, V], .int .i64 k] w fun e w' => e = .returned (.int .i64 (k + 3 * (nodesL l : Int))) ∧ At w' lo hi (OwnP 26 lo hi V (markL k l)) ∧ Only (iv lo hi) w w' := by
  obtain ⟨a, cap, rfl⟩ := hO.argsAt.slice
  have B0 := Lib.hid ((Below.refl w.heap.size w).alloc (Nat.le_refl _) (.cells #[.int .i64 k0, .int .i64 k1, .string s, .slice a l.length cap] 26))
  have HLE := Lib.hid hO.le
  have HH := Lib.hid (markTerms_any (nodesL l + 1) l _ k (iv lo hi) (w.alloc (.cells #[.int .i64 k0, .int .i64 k1, .string s, .slice a l.length cap] 26)) (by omega) (hO.read B0.out).now hk0 hk1 (by have h := nodesL_len l; omega))
  clear hO
  go_enter Tryd.func20, Tryd.ntmps20
  go_wp2_with fail
  refine HH.out.mono ?_
  rintro e w1 ⟨rfl, ho, hb⟩
  have HO := Lib.hid ho
  have HB := Lib.hid ((Only.of_below (S := iv lo hi) B0.out).trans hb)
  clear hb ho HH
  go_wp2
  go_ret
  exact ⟨rfl, at_own HO.out (Nat.le_trans HLE.out HB.out.size), HB.out⟩
end Go.Proofs.YtokndpmoamjbfaaDoor

