/-
  The model's l05Bind: a free variable bound to a term.
-/
import Derived.Test.YtealiilcnmdmdaaGreatSpecWalk5
import Derived.Test.YtealiilcnmdmdaaGreatMguOr
import Derived.Test.YtealiilcnmdmdaaGreatSpecSubs
namespace Go.Proofs.YtealiilcnmdmdaaGreat
open Go.RowKit
set_option linter.unusedVariables false
set_option linter.unusedSimpArgs false

def putB (v : Int) (y : Tm) (b : Bd) : Bd := ⟨b.v, b.t.put v y⟩
theorem bindS_eq (s : List Bd) (v : Int) (y : Tm) : bindS s v y = insB (s.map (putB v y)) ⟨v, y⟩ := rfl
theorem bd_no {s : List Bd} {v : Int} {t : Tm} (hs : SubstP s) (hfree : getO s v = none) (ht : Good t) (ho : ¬ ((putT s t).kind = 1 ∧ v ≤ (putT s t).num))
    (h : 5000 < (putT s t).nodes ∨ 0 < (putT s t).occ v ∨ 400 ≤ s.length ∨ ∃ b ∈ s, 5000 < (b.t.put v (putT s t)).nodes) : muL s [(varTm v, t)] = [] ∧ muB s [(varTm v, t)] = false := by
  refine mu_no (bind_no hs hfree ht ho ?_)
  rcases h with h | h | h | h
  · exact .inl h
  · have h2 := (occ_in (putT_good hs.good t.nodes t (Nat.le_refl _) ht)).1 h
    refine .inr (.inl ⟨h2, fun hk => ho ⟨hk, ?_⟩⟩)
    rw [vl_of_var hk] at h2
    have : v = (putT s t).num := by simpa using h2
    omega
  · exact .inr (.inr (.inl h))
  · exact .inr (.inr (.inr h))
theorem bd_yes {s : List Bd} {v : Int} {t : Tm} (hs : SubstP s) (hv : 0 ≤ v ∧ v ≤ 100000) (hfree : getO s v = none) (ht : Good t) (ho : ¬ ((putT s t).kind = 1 ∧ v ≤ (putT s t).num))
    (h1 : (putT s t).nodes ≤ 5000) (h2 : ¬ 0 < (putT s t).occ v) (h3 : s.length < 400) (h4 : ∀ b ∈ s, (b.t.put v (putT s t)).nodes ≤ 5000) : muL s [(varTm v, t)] = bindS s v (putT s t) ∧ muB s [(varTm v, t)] = true :=
  mu_yes (bind_mgu hs hv hfree ht h1 (fun h => h2 ((occ_in (putT_good hs.good t.nodes t (Nat.le_refl _) ht)).2 h)) ho h3 h4)
theorem put_fine {v : Int} {x y : Tm} (hx : Ok x) (hy : Ok y) : Good (x.put v y) ∧ (x.put v y).sz ≤ 1099511627776 := by
  have hg := good_put (v := v) hy.2 hx.2
  refine ⟨hg, ?_⟩
  have h1 := nodes_put (v := v) (b := y) hx.2
  have h2 := good_sz hg
  have h3 := occ_nodes v x
  have h4 : x.occ v * y.nodes ≤ 5000 * 5000 := Nat.mul_le_mul (Nat.le_trans h3 hx.1) hy.1
  have h5 := hx.1
  omega

set_option maxRecDepth 100000 in
set_option maxHeartbeats 2000000 in
theorem specBind_any (s : List Bd) (v : Int) (t : Tm) (Vs V : Value) (w : World) (hs : SubstP s) (hv : 0 ≤ v ∧ v ≤ 100000) (hfree : getO s v = none) (ht : Ok t) (ho : ¬ ((putT s t).kind = 1 ∧ v ≤ (putT s t).num)) (hA : ListS bdE w Any Vs s) (hT : ArgsAt w V t.args) :
    Calls Tryz.prog 90 #[Vs, .int .i64 v, .agg #[.int .i64 t.kind, .int .i64 t.num, .string t.name, V]] w (OldB2 (muL s [(varTm v, t)]) (muB s [(varTm v, t)]) w) := by
  obtain ⟨i0, hi, hz0, hz1, hz2⟩ := info_parts infoBinding
  have HII := Lib.hid (And.intro hi (And.intro hz0 (And.intro hz1 hz2)))
  obtain ⟨a, cap, rfl⟩ := hA.slice
  obtain ⟨ta, tc, rfl⟩ := hT.slice
  have hl4 : s.length ≤ 400 := hs.1.2.2
  have hL : s.length ≤ 1048576 := by omega
  have HNO := Lib.hid (fun h => bd_no hs hfree ht.2 ho h)
  have HYES := Lib.hid (fun h1 h2 h3 h4 => bd_yes hs hv hfree ht.2 ho h1 h2 h3 h4)
  generalize muL s [(varTm v, t)] = ul at HNO HYES ⊢
  generalize muB s [(varTm v, t)] = ub at HNO HYES ⊢
  have htz : t.sz ≤ 1048576 := by have h1 := good_sz ht.2; have h2 := ht.1; omega
  have HB0 : Below w.heap.size w (w.alloc (.cells #[.int .i64 t.kind, .int .i64 t.num, .string t.name, .slice ta t.args.length tc] 27)) := belowAlloc (Below.refl _ _) _
  have HX := Lib.hid (at_box_of w #[.int .i64 t.kind, .int .i64 t.num, .string t.name, .slice ta t.args.length tc] 27 w.heap.size rfl)
  have HC := Lib.hid (specApply4_any s t _ _ (fun k => k < w.heap.size) _ hs ht hL (fun k hk => Nat.lt_of_lt_of_le hk HB0.size) (hA.lowB.kept HB0) (hT.inS.kept HB0) htz)
  have HA0 := Lib.hid (hA.kept HB0)
  have HW0 := Lib.hid HB0
  have HFY := Lib.hid (putT_fine hs ht)
  have HS := Lib.hid hs
  generalize putT s t = y at HC HFY HNO HYES
  clear hA hT HB0 hi hz0 hz1 hz2 hs hfree ht ho hv htz
  go_enter Tryz.func90, Tryz.ntmps90
  go_upto_region 1 with (fail)
  generalize hw0 : w.alloc (.cells #[.int .i64 t.kind, .int .i64 t.num, .string t.name, .slice ta t.args.length tc] 27) = w0 at HX HC HA0 HW0 ⊢
  clear hw0
  obtain ⟨c0, c1, c2, c3⟩ := HX.out.cells
  have z0 := HX.out.le
  go_wp2_with fail
  refine HC.out.mono ?_
  rintro e w1 ⟨u, rfl, hu, hb⟩
  obtain ⟨ya, yc, rfl⟩ := hu.at.slice
  have hal : Below w1.heap.size w1 (w1.alloc (.cells #[.int .i64 y.kind, .int .i64 y.num, .string y.name, .slice ya y.args.length yc] 27)) := belowAlloc (Below.refl _ _) _
  have HY := Lib.hid (at_box_of w1 #[.int .i64 y.kind, .int .i64 y.num, .string y.name, .slice ya y.args.length yc] 27 w1.heap.size rfl)
  have HUY : Hid (ArgsS (w1.alloc (.cells #[.int .i64 y.kind, .int .i64 y.num, .string y.name, .slice ya y.args.length yc] 27)) (fun k => k < (w1.alloc (.cells #[.int .i64 y.kind, .int .i64 y.num, .string y.name, .slice ya y.args.length yc] 27)).heap.size) (.slice ya y.args.length yc) y.args) := Lib.hid (((hu.low.sub (S' := fun k => k < w1.heap.size) fun k hk => hk.2).kept hal).sub fun k hk => Nat.lt_of_lt_of_le hk hal.size)
  have HLA := Lib.hid ((HA0.out.kept hb).kept hal)
  have HWA := Lib.hid (belowOn HW0.out (Nat.le_refl _) (belowOn hb (Nat.le_refl _) hal))
  clear hu hb hal HC c0 c1 c2 c3 z0 HX HA0 HW0
  go_upto_region 2 with (fail)
  generalize hwA : w1.alloc (.cells #[.int .i64 y.kind, .int .i64 y.num, .string y.name, .slice ya y.args.length yc] 27) = wA at HY HUY HLA HWA ⊢
  clear hwA
  generalize w1.heap.size = nb at HY ⊢
  obtain ⟨c0, c1, c2, c3⟩ := HY.out.cells
  have z0 := HY.out.le
  cases h1 : decide (y.nodes ≤ 5000) with
  | false =>
    obtain ⟨rfl, rfl⟩ := HNO.out (.inl (by have := of_decide_eq_false h1; omega))
    clear h1
    go_wp2
    go_ret2
    exact ⟨_, rfl, .nil _ _, HWA.out⟩
  | true =>
  have HD1 := Lib.hid (of_decide_eq_true h1)
  have HOY : Hid (Ok y) := Lib.hid ⟨HD1.out, HFY.out.1⟩
  have hyz : y.sz ≤ 1048576 := by have h1 := good_sz HOY.out.2; have h2 := HD1.out; omega
  have HC := Lib.hid (occurs_any (y.nodes + 1) y _ v wA (Nat.lt_succ_self _) HUY.out.at hyz HOY.out.2)
  clear h1 HFY
  go_wp2_with fail
  refine HC.out.mono ?_
  rintro e w2 ⟨rfl, hb⟩
  have HY2 := Lib.hid (HY.out.read hb)
  have HUY2 := Lib.hid ((HUY.out.kept hb).sub (S' := fun k => k < w2.heap.size) fun k hk => Nat.lt_of_lt_of_le hk hb.size)
  have HLA2 := Lib.hid (HLA.out.kept hb).lowB
  have HW2 := Lib.hid (belowOn HWA.out (Nat.le_refl _) hb)
  clear hb HC HY HUY HLA HWA c0 c1 c2 c3 z0
  obtain ⟨c0, c1, c2, c3⟩ := HY2.out.cells
  have z0 := HY2.out.le
  cases h2 : decide (0 < y.occ v) with
  | true =>
    obtain ⟨rfl, rfl⟩ := HNO.out (.inr (.inl (of_decide_eq_true h2)))
    clear h2
    go_wp2
    go_ret2
    exact ⟨_, rfl, .nil _ _, HW2.out⟩
  | false =>
  have HD2 := Lib.hid (of_decide_eq_false h2)
  clear h2
  by_cases h3 : 400 ≤ s.length
  · obtain ⟨rfl, rfl⟩ := HNO.out (.inr (.inr (.inl h3)))
    have h3' : (400 : Int) ≤ (s.length : Int) := by omega
    go_wp2
    go_ret2
    exact ⟨_, rfl, .nil _ _, HW2.out⟩
  have h3' : ¬ (400 : Int) ≤ (s.length : Int) := by omega
  have HR0 := Lib.hid (rowK_start (E := bdE) (e := 63) (w := w2))
  have HWB : Hid (Below w2.heap.size w2 (w2.alloc (.cells #[] 63))) := Lib.hid (belowAlloc (Below.refl _ _) _)
  go_wp2
  clear c0 c1 c2 c3 z0
  go_loopw [10, 35] (fun lv iv wr => ∃ (k g c : Nat), k ≤ s.length ∧ iv = .int .i64 k ∧ lv = .slice (some ⟨g, 0, none⟩) k c ∧ Hid (RowK bdE 63 wr w2.heap.size lv ((s.take k).map (putB v y))) ∧ Hid (∀ (i : Nat) (b : Bd), i < k → s[i]? = some b → (b.t.put v y).nodes ≤ 5000) ∧ Hid (Below w2.heap.size w2 wr)) (fun _ iv _ => s.length - (intOf iv).toNat)
  case atStart => exact ⟨0, w2.heap.size, 0, Nat.zero_le _, rfl, rfl, HR0, Lib.hid (fun i b hi => absurd hi (Nat.not_lt_zero _)), HWB⟩
  case round =>
    obtain ⟨k, og, oc, hk, rfl, rfl, HO, HN, HB⟩ := hrel
    clear HR0 HWB
    by_cases hlt : k < s.length
    · have hltI : (k : Int) < (s.length : Int) := by omega
      obtain ⟨x, hx⟩ : ∃ x, s[k]? = some x := ⟨_, List.getElem?_eq_getElem hlt⟩
      obtain ⟨g, off, u1, u2, rfl, hg, hq, hc, hu⟩ := HLA2.out.bd hx
      obtain ⟨d0, d1, d2, d3, d4⟩ := hc wr HB.out
      have HX := Lib.hid hx
      have HXO : Hid (Ok x.t) := Lib.hid (HS.out.1.1 k x hx).2
      have HU := Lib.hid (hu.kept HB.out)
      have hxz : x.t.sz ≤ 1048576 := by have h1 := good_sz HXO.out.2; have h2 := HXO.out.1; omega
      have HFZ := Lib.hid (put_fine (v := v) HXO.out HOY.out)
      clear hq hc hu hx
      go_upto_region 8 with (fail)
      have hal : Below wr.heap.size wr (wr.alloc (.cells #[.int .i64 x.v, .int .i64 x.t.kind, .int .i64 x.t.num, .string x.t.name, .slice u1 x.t.args.length u2] 63)) := belowAlloc (Below.refl _ _) _
      have HBX := Lib.hid (at_box_of wr #[.int .i64 x.v, .int .i64 x.t.kind, .int .i64 x.t.num, .string x.t.name, .slice u1 x.t.args.length u2] 63 wr.heap.size rfl)
      have HO1 := Lib.hid (HO.out.kept hal)
      have HB1 := Lib.hid (belowOn HB.out (Nat.le_refl _) hal)
      have HU1 := Lib.hid (HU.out.kept hal)
      clear hal d0 d1 d2 d3 d4 HB HU HO
      generalize hw3 : wr.alloc (.cells #[.int .i64 x.v, .int .i64 x.t.kind, .int .i64 x.t.num, .string x.t.name, .slice u1 x.t.args.length u2] 63) = w3 at HBX HB1 HU1 HO1 ⊢
      clear hw3
      generalize wr.heap.size = nx at HBX ⊢
      obtain ⟨e0, e1, e2, e3, e4, ef⟩ := box_cells5 HBX.out.now
      obtain ⟨c0, c1, c2, c3⟩ := (HY2.out.read HB1.out).cells
      have z0 := (HY2.out.read HB1.out).le
      have HQ := Lib.hid (specPut_any (x.t.nodes + 1) x.t y _ _ v (fun j => j < w2.heap.size) w3 (Nat.lt_succ_self _) (fun j hj => Nat.lt_of_lt_of_le hj HB1.out.size) HU1.out (HUY2.out.kept HB1.out) hxz HXO.out.2)
      generalize hr2 : x.t.put v y = z at HQ HFZ
      have HZ := Lib.hid hr2
      clear hr2
      go_wp2_with fail
      refine HQ.out.mono ?_
      rintro e w4 ⟨u, rfl, hu, hb⟩
      obtain ⟨qa, qc, rfl⟩ := hu.at.slice
      have hal : Below w4.heap.size w4 (w4.alloc (.cells #[.int .i64 z.kind, .int .i64 z.num, .string z.name, .slice qa z.args.length qc] 27)) := belowAlloc (Below.refl _ _) _
      have HP5 := Lib.hid (hu.kept hal)
      have HT5 := Lib.hid (at_box_of w4 #[.int .i64 z.kind, .int .i64 z.num, .string z.name, .slice qa z.args.length qc] 27 w4.heap.size rfl)
      have HO5 := Lib.hid ((HO1.out.kept hb).kept hal)
      have HB5 := Lib.hid (belowOn HB1.out (Nat.le_refl _) (belowOn hb (Nat.le_refl _) hal))
      have HBX5 := Lib.hid ((HBX.out.read hb).read hal)
      have HNE := Lib.hid (rowK_block HO1.out)
      have HZ45 := Lib.hid hal.size
      have HWZ3 := Lib.hid HB1.out.size
      clear hu hb hal HQ HB1 HBX HU1 HO1 e0 e1 e2 e3 e4 ef c0 c1 c2 c3 z0
      go_upto_region 9 with (fail)
      generalize hw5 : w4.alloc (.cells #[.int .i64 z.kind, .int .i64 z.num, .string z.name, .slice qa z.args.length qc] 27) = w5 at HP5 HT5 HO5 HB5 HBX5 HZ45 ⊢
      clear hw5
      generalize hn4 : w4.heap.size = n4 at HT5 HP5 HZ45 ⊢
      have HN4 := Lib.hid hn4
      clear hn4
      obtain ⟨b0, b1, b2, b3⟩ := HT5.out.cells
      have z5 := HT5.out.le
      have HC := Lib.hid (specFits_any z _ w5 HP5.out.at HFZ.out.2)
      go_wp2_with fail
      refine HC.out.mono ?_
      rintro e w6 ⟨rfl, hb⟩
      have HP6 := Lib.hid (HP5.out.kept hb)
      have HT6 := Lib.hid (HT5.out.read hb)
      have HO6 := Lib.hid (HO5.out.kept hb)
      have HB6 := Lib.hid (belowOn HB5.out (Nat.le_refl _) hb)
      have HBX6 := Lib.hid (HBX5.out.read hb)
      have HZ46 := Lib.hid (Nat.le_trans HZ45.out hb.size)
      clear hb HC HP5 HT5 HO5 HB5 HBX5 HZ45 b0 b1 b2 b3 z5
      obtain ⟨e0, e1, e2, e3, e4, ef⟩ := box_cells5 HBX6.out.now
      obtain ⟨b0, b1, b2, b3⟩ := HT6.out.cells
      have z6 := HT6.out.le
      cases h4 : decide (z.nodes ≤ 5000) with
      | false =>
        obtain ⟨rfl, rfl⟩ := HNO.out (.inr (.inr (.inr ⟨x, List.mem_of_getElem? HX.out, by rw [HZ.out]; have := of_decide_eq_false h4; omega⟩)))
        clear h4
        go_wp2
        go_ret2
        exact ⟨_, rfl, .nil _ _, belowOn HW2.out (Nat.le_refl _) HB6.out⟩
      | true =>
        have HD4 := Lib.hid (of_decide_eq_true h4)
        have HNN : Hid (∀ (i : Nat) (b : Bd), i < k + 1 → s[i]? = some b → (b.t.put v y).nodes ≤ 5000) := Lib.hid fun i b hi hb => by
          by_cases q : i = k
          · subst q
            cases hb.symm.trans HX.out
            rw [HZ.out]; exact HD4.out
          · exact HN.out i b (by omega) hb
        have HK : Hid ((s.take (k + 1)).map (putB v y) = (s.take k).map (putB v y) ++ [⟨x.v, z⟩]) := Lib.hid (by rw [takeE HX.out, List.map_append, List.map_singleton, putB, HZ.out])
        obtain ⟨L, hL1, hrow, hch⟩ := HO6.out
        have hLn : k = L.length := by have := congrArg List.length hL1; rw [List.length_map, List.length_map, List.length_take] at this; omega
        rw [← hLn] at hrow
        have HROW := Lib.hid hrow
        have HPA := Lib.hid (And.intro hL1 (And.intro hLn hch))
        have hwz : w2.heap.size ≤ w6.heap.size := HB6.out.size
        clear hL1 hLn hrow hch h4
        go_wp2_with (at_builtin; refine wpList_append_lies _ rfl _ _ 23 rfl w2.heap.size 63 i0 _ 5 64 Tryz.underlying23 HII.out.1 HII.out.2.1 HII.out.2.2.1 HII.out.2.2.2 rfl (by omega) (.slice (some ⟨og, 0, none⟩) k oc) k (cellsE bdE L) rfl (HROW.out.alloc _) ⟨w6.heap.size, 0, none⟩ 1 1 (bdE.cells ⟨x.v, z⟩ (.slice qa z.args.length qc)) rfl rfl (World.news_of_block (heap_alloc_new w6 _)) (by simp [bdE, Value.oneCell']) (by omega) (by unfold maxLen; omega) (by omega) (by simp; omega) (w6.heap.size + 1) (by simp) ?_; intro gg cap' w7 hown1 hgrow hat hlt1; have HAP := Lib.hid (And.intro hown1 (And.intro hgrow (And.intro hat hlt1))); clear hown1 hgrow hat hlt1)
        have HBF := Lib.hid ((belowAlloc HB6.out (.cells #[.int .i64 x.v, .int .i64 z.kind, .int .i64 z.num, .string z.name, .slice qa z.args.length qc] 63)).trans (below_of_grown HAP.out.2.1 (by simp; omega) (fun j hj => (HNE.out j hj).1)))
        have HNR : Hid (RowK bdE 63 w7 w2.heap.size (.slice (some ⟨gg, 0, none⟩) (k + 1) cap') ((s.take (k + 1)).map (putB v y))) := Lib.hid (by
          have h := rowK_append (E := bdE) (x := ⟨x.v, z⟩) HPA.out.2.1 HROW.out HPA.out.2.2 HP6.out (fun b hb => ⟨by
              rcases hb with hb | hb
              · have h1 : b < w2.heap.size := hb; omega
              · have := HZ46.out; omega, fun e => by
              have h1 := HNE.out b e
              rcases hb with hb | hb
              · have h2 : b < w2.heap.size := hb; omega
              · omega⟩) (belowAlloc (Below.refl _ _) _) HAP.out.1 HAP.out.2.1 (HAP.out.2.2.1.imp id (fun h => by omega))
          rw [← HPA.out.1, ← HK.out] at h
          exact h)
        clear HAP HPA HROW HP6 e0 e1 e2 e3 e4 ef b0 b1 b2 b3 z6
        go_wp2
        go_roundw
        case rel => exact ⟨k + 1, gg, cap', by omega, by go_num, by first | rfl | (congr 1), HNR, HNN, HBF⟩
        case measure => simp [intOf]; omega
    · obtain rfl : k = s.length := by omega
      have HO1 : Hid (RowK bdE 63 wr w2.heap.size (.slice (some ⟨og, 0, none⟩) s.length oc) (s.map (putB v y))) := Lib.hid (by have := HO.out; rw [List.take_length] at this; exact this)
      have HFT : Hid (∀ b ∈ s, (b.t.put v y).nodes ≤ 5000) := Lib.hid fun b hb => by
        obtain ⟨i, hi⟩ := List.getElem?_of_mem hb
        exact HN.out i b (List.getElem?_eq_some_iff.1 hi).1 hi
      clear HO HN
      have hI := specInsert_any (s.map (putB v y)) og oc w2.heap.size ⟨v, y⟩ (.slice ya y.args.length yc) (fun k => k < w2.heap.size) wr (by rw [List.length_map]; exact HO1.out) (HUY2.out.kept HB.out) (by rw [List.length_map]; exact hL)
      rw [List.length_map, ← bindS_eq] at hI
      have HC := Lib.hid hI
      clear hI
      obtain ⟨c0, c1, c2, c3⟩ := (HY2.out.read HB.out).cells
      have z0 := (HY2.out.read HB.out).le
      obtain ⟨rfl, rfl⟩ := HYES.out HD1.out HD2.out (by omega) HFT.out
      go_wp2_with fail
      refine HC.out.mono ?_
      rintro e w8 ⟨v5, rfl, hr5, hb⟩
      have HR5 := Lib.hid (hr5.rowK (Nat.zero_le _) (by have := hr5.size (by rw [bindS_eq, insB_length]; omega); omega)).inS
      have HB8 := Lib.hid (belowOn (belowOn HW2.out (Nat.le_refl _) HB.out) (Nat.le_refl _) hb)
      obtain ⟨a8, c8, rfl⟩ := HR5.out.slice
      clear hr5 hb HC c0 c1 c2 c3 z0
      go_wp2
      go_ret2
      exact ⟨_, rfl, HR5.out, HB8.out⟩
end Go.Proofs.YtealiilcnmdmdaaGreat

