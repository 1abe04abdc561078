/-
  The model's l05Walk: a bound variable replaced.
  The model's l05Bind: a free variable bound to a term.
  The model's l05Unify: two terms unified under a substitution.
-/
import Derived.Test.YtnbnepeikdieaabGreatUnifT
import Derived.Test.YtnbnepeikdieaabGreatSpecSubs
namespace Go.Proofs.YtnbnepeikdieaabGreat
open Go.RowKit
set_option linter.unusedVariables false
set_option linter.unusedSimpArgs false

theorem walk_var {s : List Bd} {t y : Tm} (hk : t.kind = 1) (hg : getO s t.num = some y) : walkT s t = y := by unfold walkT; rw [if_pos hk, hg]
theorem walk_stay {s : List Bd} {t : Tm} (h : ¬ t.kind = 1 ∨ getO s t.num = none) : walkT s t = t := by
  unfold walkT
  by_cases hk : t.kind = 1
  · rw [if_pos hk]
    rcases h with h | h
    · exact absurd hk h
    · rw [h]
  · exact if_neg hk
set_option maxRecDepth 100000 in
set_option maxHeartbeats 1000000 in
theorem specWalk5_any (s : List Bd) (t : Tm) (Vs V : Value) (S : Nat → Prop) (w : World) (hL : s.length ≤ 1048576) (hLS : ListS bdE w S Vs s) (hA : ArgsS w S V t.args) (hSB : ∀ k, S k → k < w.heap.size) :
    Calls Tryz.prog 59 #[Vs, .agg #[.int .i64 t.kind, .int .i64 t.num, .string t.name, V]] w fun e w' => ∃ u, e = .returned (.agg #[.int .i64 (walkT s t).kind, .int .i64 (walkT s t).num, .string (walkT s t).name, u]) ∧ ArgsS w' S u (walkT s t).args ∧ Below w.heap.size w w' := by
  obtain ⟨aa, ca, rfl⟩ := hA.at.slice
  obtain ⟨sa, sc, rfl⟩ := hLS.slice
  have HSB := Lib.hid hSB
  have hal1 : Below w.heap.size w (w.alloc (.cells #[.int .i64 t.kind, .int .i64 t.num, .string t.name, .slice aa t.args.length ca] 41)) := belowAlloc (Below.refl _ _) _
  have HX := Lib.hid (at_box_of w #[.int .i64 t.kind, .int .i64 t.num, .string t.name, .slice aa t.args.length ca] 41 w.heap.size rfl)
  have HR := Lib.hid (at_box_of (w.alloc (.cells #[.int .i64 t.kind, .int .i64 t.num, .string t.name, .slice aa t.args.length ca] 41)) #[.int .i64 0, .int .i64 0, .string ⟨#[]⟩, .slice none 0 0] 41 (w.heap.size + 1) (by simp))
  replace HX := Lib.hid (HX.out.read (belowAlloc (Below.refl _ _) (.cells #[.int .i64 0, .int .i64 0, .string ⟨#[]⟩, .slice none 0 0] 41)))
  have HW := Lib.hid (belowAlloc hal1 (.cells #[.int .i64 0, .int .i64 0, .string ⟨#[]⟩, .slice none 0 0] 41))
  have HLS := Lib.hid hLS
  have HA := Lib.hid hA
  clear hal1 hLS hA hSB
  have HEND : Hid (∀ W W', Below w.heap.size w W → Only (fun k => k = w.heap.size + 1) W W' → ∀ u l, ArgsS W S u l → ArgsS W' S u l ∧ Below w.heap.size w W') := Lib.hid fun W W' hb ho u l hu =>
    ⟨hu.frame ho.size fun k hk hks => ho.block k hks fun e => by have := HSB.out k hk; omega, hb.trans (ho.below (fun k hk => by omega) hb.size)⟩
  by_cases hk : t.kind = 1
  · have d1 : (t.kind == 1) = true := by rw [hk]; rfl
    have HWS := Lib.hid (fun (h : getO s t.num = none) => walk_stay (s := s) (t := t) (.inr h))
    have HWV := Lib.hid (fun (y : Tm) (h : getO s t.num = some y) => walk_var hk h)
    generalize walkT s t = r at HWS HWV ⊢
    clear hk
    go_enter Tryz.func59, Tryz.ntmps59
    go_upto_region 1 with (fail)
    generalize hw0 : (w.alloc (.cells #[.int .i64 t.kind, .int .i64 t.num, .string t.name, .slice aa t.args.length ca] 41)).alloc (.cells #[.int .i64 0, .int .i64 0, .string ⟨#[]⟩, .slice none 0 0] 41) = w0 at HX HR HW ⊢
    clear hw0
    obtain ⟨c0, c1, c2, c3⟩ := HX.out.cells
    have z0 := HX.out.le
    have HC := Lib.hid (specGet_any s _ t.num S w0 (HLS.out.kept HW.out) hL)
    go_wp2_with fail
    refine HC.out.mono ?_
    rintro e w1 ⟨u, rfl, hu, hb⟩
    replace HX := Lib.hid (HX.out.read hb)
    replace HR := Lib.hid (HR.out.read hb)
    replace HW := Lib.hid (belowOn HW.out (Nat.le_refl _) hb)
    obtain ⟨ua, uc, rfl⟩ := hu.at.slice
    have HU := Lib.hid hu
    clear hb hu HC c0 c1 c2 c3 z0
    have hal : Below w1.heap.size w1 (w1.alloc (.cells #[.int .i64 (getT s t.num).kind, .int .i64 (getT s t.num).num, .string (getT s t.num).name, .slice ua (getT s t.num).args.length uc] 41)) := belowAlloc (Below.refl _ _) _
    cases hg : getO s t.num with
    | none =>
      obtain rfl := HWS.out hg
      rw [(get_no hg).1] at HU hal ⊢
      rw [(get_no hg).2]
      go_upto_region 3 with (fail)
      replace HX := Lib.hid (HX.out.read hal)
      replace HR := Lib.hid (HR.out.read hal)
      replace HW := Lib.hid (belowOn HW.out (Nat.le_refl _) hal)
      replace HA := Lib.hid (HA.out.kept HW.out)
      clear hal hg HU
      generalize hw2 : w1.alloc (.cells #[.int .i64 zeroTm.kind, .int .i64 zeroTm.num, .string zeroTm.name, .slice ua zeroTm.args.length uc] 41) = w2 at HX HR HW HA ⊢
      clear hw2
      obtain ⟨c0, c1, c2, c3⟩ := HX.out.cells
      have z0 := HX.out.le
      obtain ⟨r0, r1, r2, r3, rf⟩ := box_cells HR.out.now
      go_wp2
      refine bodyPost_four (p := 4) (b := w.heap.size + 1) rfl rfl rfl Tryz.underlying41 rfl (by kernel_rfl) HR.out.now fun w' hw => ?_
      obtain ⟨h1, h2⟩ := HEND.out _ _ HW.out hw _ _ HA.out
      exact ⟨_, rfl, h1, h2⟩
    | some y =>
      obtain rfl := HWV.out y hg
      rw [(get_yes hg).1] at HU hal ⊢
      rw [(get_yes hg).2]
      go_upto_region 3 with (fail)
      have HY := Lib.hid (at_box_of w1 #[.int .i64 r.kind, .int .i64 r.num, .string r.name, .slice ua r.args.length uc] 41 w1.heap.size rfl)
      replace HR := Lib.hid (HR.out.read hal)
      replace HW := Lib.hid (belowOn HW.out (Nat.le_refl _) hal)
      replace HU := Lib.hid (HU.out.kept hal)
      clear hal hg HX
      generalize hw2 : w1.alloc (.cells #[.int .i64 r.kind, .int .i64 r.num, .string r.name, .slice ua r.args.length uc] 41) = w2 at HY HR HW HU ⊢
      clear hw2
      generalize w1.heap.size = nb at HY ⊢
      obtain ⟨c0, c1, c2, c3⟩ := HY.out.cells
      have z0 := HY.out.le
      obtain ⟨r0, r1, r2, r3, rf⟩ := box_cells HR.out.now
      go_wp2
      refine bodyPost_four (p := 4) (b := w.heap.size + 1) rfl rfl rfl Tryz.underlying41 rfl (by kernel_rfl) HR.out.now fun w' hw => ?_
      obtain ⟨h1, h2⟩ := HEND.out _ _ HW.out hw _ _ HU.out
      exact ⟨_, rfl, h1, h2⟩
  · have d1 : (t.kind == 1) = false := by simp [hk]
    have HWS := walk_stay (s := s) (t := t) (.inl hk)
    rw [HWS]
    clear hk HWS
    go_enter Tryz.func59, Tryz.ntmps59
    go_upto_region 1 with (fail)
    generalize hw0 : (w.alloc (.cells #[.int .i64 t.kind, .int .i64 t.num, .string t.name, .slice aa t.args.length ca] 41)).alloc (.cells #[.int .i64 0, .int .i64 0, .string ⟨#[]⟩, .slice none 0 0] 41) = w0 at HX HR HW ⊢
    clear hw0
    replace HA := Lib.hid (HA.out.kept HW.out)
    obtain ⟨c0, c1, c2, c3⟩ := HX.out.cells
    have z0 := HX.out.le
    obtain ⟨r0, r1, r2, r3, rf⟩ := box_cells HR.out.now
    go_wp2
    refine bodyPost_four (p := 4) (b := w.heap.size + 1) rfl rfl rfl Tryz.underlying41 rfl (by kernel_rfl) HR.out.now fun w' hw => ?_
    obtain ⟨h1, h2⟩ := HEND.out _ _ HW.out hw _ _ HA.out
    exact ⟨_, rfl, h1, h2⟩
/-- The model's count of a variable, and its list of variables. -/
theorem occ_in {v : Int} {t : Tm} (h : Good t) : 0 < t.occ v ↔ v ∈ t.vl := by
  induction h with
  | nil => rw [occ_eq]; simp [Tm.kind, Tm.args, Tm.vl, vlL, occL]
  | sym n hn => rw [occ_eq]; simp [Tm.kind, Tm.args, Tm.vl, vlL, occL]
  | int r h0 h1 => rw [occ_eq]; simp [Tm.kind, Tm.args, Tm.vl, vlL, occL]
  | var i h0 h1 =>
    rw [occ_eq]
    by_cases hi : i = v
    · subst hi; simp [Tm.kind, Tm.num, Tm.vl]
    · have hi' : ¬ v = i := fun e => hi e.symm
      simp [Tm.kind, Tm.num, Tm.args, Tm.vl, occL, hi, hi']
  | pair x y _ _ ihx ihy =>
    rw [vl_pair, List.mem_append, ← ihx, ← ihy, occ_eq]
    simp only [Tm.kind, Tm.num, Tm.args, occL]
    rw [if_neg (fun h => absurd h.1 (by decide))]
    omega
end Go.Proofs.YtnbnepeikdieaabGreat

namespace Go.Proofs.YtnbnepeikdieaabGreat
open Go.RowKit
set_option linter.unusedVariables false
set_option linter.unusedSimpArgs false

def putB (v : Int) (y : Tm) (b : Bd) : Bd := ⟨b.v, b.t.put v y⟩
theorem bindS_eq (s : List Bd) (v : Int) (y : Tm) : bindS s v y = insB (s.map (putB v y)) ⟨v, y⟩ := rfl
theorem bd_no {s : List Bd} {v : Int} {t : Tm} (hs : SubstP s) (hfree : getO s v = none) (ht : Good t) (ho : ¬ ((putT s t).kind = 1 ∧ v ≤ (putT s t).num))
    (h : 5000 < (putT s t).nodes ∨ 0 < (putT s t).occ v ∨ 400 ≤ s.length ∨ ∃ b ∈ s, 5000 < (b.t.put v (putT s t)).nodes) : muL s [(varTm v, t)] = [] ∧ muB s [(varTm v, t)] = false := by
  refine mu_no (bind_no hs hfree ht ho ?_)
  rcases h with h | h | h | h
  · exact .inl h
  · have h2 := (occ_in (putT_good hs.good t.nodes t (Nat.le_refl _) ht)).1 h
    refine .inr (.inl ⟨h2, fun hk => ho ⟨hk, ?_⟩⟩)
    rw [vl_of_var hk] at h2
    have : v = (putT s t).num := by simpa using h2
    omega
  · exact .inr (.inr (.inl h))
  · exact .inr (.inr (.inr h))
theorem bd_yes {s : List Bd} {v : Int} {t : Tm} (hs : SubstP s) (hv : 0 ≤ v ∧ v ≤ 100000) (hfree : getO s v = none) (ht : Good t) (ho : ¬ ((putT s t).kind = 1 ∧ v ≤ (putT s t).num))
    (h1 : (putT s t).nodes ≤ 5000) (h2 : ¬ 0 < (putT s t).occ v) (h3 : s.length < 400) (h4 : ∀ b ∈ s, (b.t.put v (putT s t)).nodes ≤ 5000) : muL s [(varTm v, t)] = bindS s v (putT s t) ∧ muB s [(varTm v, t)] = true :=
  mu_yes (bind_mgu hs hv hfree ht h1 (fun h => h2 ((occ_in (putT_good hs.good t.nodes t (Nat.le_refl _) ht)).2 h)) ho h3 h4)
theorem put_fine {v : Int} {x y : Tm} (hx : Ok x) (hy : Ok y) : Good (x.put v y) ∧ (x.put v y).sz ≤ 1099511627776 := by
  have hg := good_put (v := v) hy.2 hx.2
  refine ⟨hg, ?_⟩
  have h1 := nodes_put (v := v) (b := y) hx.2
  have h2 := good_sz hg
  have h3 := occ_nodes v x
  have h4 : x.occ v * y.nodes ≤ 5000 * 5000 := Nat.mul_le_mul (Nat.le_trans h3 hx.1) hy.1
  have h5 := hx.1
  omega

set_option maxRecDepth 100000 in
set_option maxHeartbeats 2000000 in
theorem specBind_any (s : List Bd) (v : Int) (t : Tm) (Vs V : Value) (w : World) (hs : SubstP s) (hv : 0 ≤ v ∧ v ≤ 100000) (hfree : getO s v = none) (ht : Ok t) (ho : ¬ ((putT s t).kind = 1 ∧ v ≤ (putT s t).num)) (hA : ListS bdE w Any Vs s) (hT : ArgsAt w V t.args) :
    Calls Tryz.prog 60 #[Vs, .int .i64 v, .agg #[.int .i64 t.kind, .int .i64 t.num, .string t.name, V]] w (OldB2 (muL s [(varTm v, t)]) (muB s [(varTm v, t)]) w) := by
  obtain ⟨i0, hi, hz0, hz1, hz2⟩ := info_parts infoBinding
  have HII := Lib.hid (And.intro hi (And.intro hz0 (And.intro hz1 hz2)))
  obtain ⟨a, cap, rfl⟩ := hA.slice
  obtain ⟨ta, tc, rfl⟩ := hT.slice
  have hl4 : s.length ≤ 400 := hs.1.2.2
  have hL : s.length ≤ 1048576 := by omega
  have HNO := Lib.hid (fun h => bd_no hs hfree ht.2 ho h)
  have HYES := Lib.hid (fun h1 h2 h3 h4 => bd_yes hs hv hfree ht.2 ho h1 h2 h3 h4)
  generalize muL s [(varTm v, t)] = ul at HNO HYES ⊢
  generalize muB s [(varTm v, t)] = ub at HNO HYES ⊢
  have htz : t.sz ≤ 1048576 := by have h1 := good_sz ht.2; have h2 := ht.1; omega
  have HB0 : Below w.heap.size w (w.alloc (.cells #[.int .i64 t.kind, .int .i64 t.num, .string t.name, .slice ta t.args.length tc] 41)) := belowAlloc (Below.refl _ _) _
  have HX := Lib.hid (at_box_of w #[.int .i64 t.kind, .int .i64 t.num, .string t.name, .slice ta t.args.length tc] 41 w.heap.size rfl)
  have HC := Lib.hid (specApply4_any s t _ _ (fun k => k < w.heap.size) _ hs ht hL (fun k hk => Nat.lt_of_lt_of_le hk HB0.size) (hA.lowB.kept HB0) (hT.inS.kept HB0) htz)
  have HA0 := Lib.hid (hA.kept HB0)
  have HW0 := Lib.hid HB0
  have HFY := Lib.hid (putT_fine hs ht)
  have HS := Lib.hid hs
  generalize putT s t = y at HC HFY HNO HYES
  clear hA hT HB0 hi hz0 hz1 hz2 hs hfree ht ho hv htz
  go_enter Tryz.func60, Tryz.ntmps60
  go_upto_region 1 with (fail)
  generalize hw0 : w.alloc (.cells #[.int .i64 t.kind, .int .i64 t.num, .string t.name, .slice ta t.args.length tc] 41) = w0 at HX HC HA0 HW0 ⊢
  clear hw0
  obtain ⟨c0, c1, c2, c3⟩ := HX.out.cells
  have z0 := HX.out.le
  go_wp2_with fail
  refine HC.out.mono ?_
  rintro e w1 ⟨u, rfl, hu, hb⟩
  obtain ⟨ya, yc, rfl⟩ := hu.at.slice
  have hal : Below w1.heap.size w1 (w1.alloc (.cells #[.int .i64 y.kind, .int .i64 y.num, .string y.name, .slice ya y.args.length yc] 41)) := belowAlloc (Below.refl _ _) _
  have HY := Lib.hid (at_box_of w1 #[.int .i64 y.kind, .int .i64 y.num, .string y.name, .slice ya y.args.length yc] 41 w1.heap.size rfl)
  have HUY : Hid (ArgsS (w1.alloc (.cells #[.int .i64 y.kind, .int .i64 y.num, .string y.name, .slice ya y.args.length yc] 41)) (fun k => k < (w1.alloc (.cells #[.int .i64 y.kind, .int .i64 y.num, .string y.name, .slice ya y.args.length yc] 41)).heap.size) (.slice ya y.args.length yc) y.args) := Lib.hid (((hu.low.sub (S' := fun k => k < w1.heap.size) fun k hk => hk.2).kept hal).sub fun k hk => Nat.lt_of_lt_of_le hk hal.size)
  have HLA := Lib.hid ((HA0.out.kept hb).kept hal)
  have HWA := Lib.hid (belowOn HW0.out (Nat.le_refl _) (belowOn hb (Nat.le_refl _) hal))
  clear hu hb hal HC c0 c1 c2 c3 z0 HX HA0 HW0
  go_upto_region 2 with (fail)
  generalize hwA : w1.alloc (.cells #[.int .i64 y.kind, .int .i64 y.num, .string y.name, .slice ya y.args.length yc] 41) = wA at HY HUY HLA HWA ⊢
  clear hwA
  generalize w1.heap.size = nb at HY ⊢
  obtain ⟨c0, c1, c2, c3⟩ := HY.out.cells
  have z0 := HY.out.le
  cases h1 : decide (y.nodes ≤ 5000) with
  | false =>
    obtain ⟨rfl, rfl⟩ := HNO.out (.inl (by have := of_decide_eq_false h1; omega))
    clear h1
    go_wp2
    go_ret2
    exact ⟨_, rfl, .nil _ _, HWA.out⟩
  | true =>
  have HD1 := Lib.hid (of_decide_eq_true h1)
  have HOY : Hid (Ok y) := Lib.hid ⟨HD1.out, HFY.out.1⟩
  have hyz : y.sz ≤ 1048576 := by have h1 := good_sz HOY.out.2; have h2 := HD1.out; omega
  have HC := Lib.hid (occurs_any (y.nodes + 1) y _ v wA (Nat.lt_succ_self _) HUY.out.at hyz HOY.out.2)
  clear h1 HFY
  go_wp2_with fail
  refine HC.out.mono ?_
  rintro e w2 ⟨rfl, hb⟩
  have HY2 := Lib.hid (HY.out.read hb)
  have HUY2 := Lib.hid ((HUY.out.kept hb).sub (S' := fun k => k < w2.heap.size) fun k hk => Nat.lt_of_lt_of_le hk hb.size)
  have HLA2 := Lib.hid (HLA.out.kept hb).lowB
  have HW2 := Lib.hid (belowOn HWA.out (Nat.le_refl _) hb)
  clear hb HC HY HUY HLA HWA c0 c1 c2 c3 z0
  obtain ⟨c0, c1, c2, c3⟩ := HY2.out.cells
  have z0 := HY2.out.le
  cases h2 : decide (0 < y.occ v) with
  | true =>
    obtain ⟨rfl, rfl⟩ := HNO.out (.inr (.inl (of_decide_eq_true h2)))
    clear h2
    go_wp2
    go_ret2
    exact ⟨_, rfl, .nil _ _, HW2.out⟩
  | false =>
  have HD2 := Lib.hid (of_decide_eq_false h2)
  clear h2
  by_cases h3 : 400 ≤ s.length
  · obtain ⟨rfl, rfl⟩ := HNO.out (.inr (.inr (.inl h3)))
    have h3' : (400 : Int) ≤ (s.length : Int) := by omega
    go_wp2
    go_ret2
    exact ⟨_, rfl, .nil _ _, HW2.out⟩
  have h3' : ¬ (400 : Int) ≤ (s.length : Int) := by omega
  have HR0 := Lib.hid (rowK_start (E := bdE) (e := 43) (w := w2))
  have HWB : Hid (Below w2.heap.size w2 (w2.alloc (.cells #[] 43))) := Lib.hid (belowAlloc (Below.refl _ _) _)
  go_wp2
  clear c0 c1 c2 c3 z0
  go_loopw [10, 35] (fun lv iv wr => ∃ (k g c : Nat), k ≤ s.length ∧ iv = .int .i64 k ∧ lv = .slice (some ⟨g, 0, none⟩) k c ∧ Hid (RowK bdE 43 wr w2.heap.size lv ((s.take k).map (putB v y))) ∧ Hid (∀ (i : Nat) (b : Bd), i < k → s[i]? = some b → (b.t.put v y).nodes ≤ 5000) ∧ Hid (Below w2.heap.size w2 wr)) (fun _ iv _ => s.length - (intOf iv).toNat)
  case atStart => exact ⟨0, w2.heap.size, 0, Nat.zero_le _, rfl, rfl, HR0, Lib.hid (fun i b hi => absurd hi (Nat.not_lt_zero _)), HWB⟩
  case round =>
    obtain ⟨k, og, oc, hk, rfl, rfl, HO, HN, HB⟩ := hrel
    clear HR0 HWB
    by_cases hlt : k < s.length
    · have hltI : (k : Int) < (s.length : Int) := by omega
      obtain ⟨x, hx⟩ : ∃ x, s[k]? = some x := ⟨_, List.getElem?_eq_getElem hlt⟩
      obtain ⟨g, off, u1, u2, rfl, hg, hq, hc, hu⟩ := HLA2.out.bd hx
      obtain ⟨d0, d1, d2, d3, d4⟩ := hc wr HB.out
      have HX := Lib.hid hx
      have HXO : Hid (Ok x.t) := Lib.hid (HS.out.1.1 k x hx).2
      have HU := Lib.hid (hu.kept HB.out)
      have hxz : x.t.sz ≤ 1048576 := by have h1 := good_sz HXO.out.2; have h2 := HXO.out.1; omega
      have HFZ := Lib.hid (put_fine (v := v) HXO.out HOY.out)
      clear hq hc hu hx
      go_upto_region 8 with (fail)
      have hal : Below wr.heap.size wr (wr.alloc (.cells #[.int .i64 x.v, .int .i64 x.t.kind, .int .i64 x.t.num, .string x.t.name, .slice u1 x.t.args.length u2] 43)) := belowAlloc (Below.refl _ _) _
      have HBX := Lib.hid (at_box_of wr #[.int .i64 x.v, .int .i64 x.t.kind, .int .i64 x.t.num, .string x.t.name, .slice u1 x.t.args.length u2] 43 wr.heap.size rfl)
      have HO1 := Lib.hid (HO.out.kept hal)
      have HB1 := Lib.hid (belowOn HB.out (Nat.le_refl _) hal)
      have HU1 := Lib.hid (HU.out.kept hal)
      clear hal d0 d1 d2 d3 d4 HB HU HO
      generalize hw3 : wr.alloc (.cells #[.int .i64 x.v, .int .i64 x.t.kind, .int .i64 x.t.num, .string x.t.name, .slice u1 x.t.args.length u2] 43) = w3 at HBX HB1 HU1 HO1 ⊢
      clear hw3
      generalize wr.heap.size = nx at HBX ⊢
      obtain ⟨e0, e1, e2, e3, e4, ef⟩ := box_cells5 HBX.out.now
      obtain ⟨c0, c1, c2, c3⟩ := (HY2.out.read HB1.out).cells
      have z0 := (HY2.out.read HB1.out).le
      have HQ := Lib.hid (specPut_any (x.t.nodes + 1) x.t y _ _ v (fun j => j < w2.heap.size) w3 (Nat.lt_succ_self _) (fun j hj => Nat.lt_of_lt_of_le hj HB1.out.size) HU1.out (HUY2.out.kept HB1.out) hxz HXO.out.2)
      generalize hr2 : x.t.put v y = z at HQ HFZ
      have HZ := Lib.hid hr2
      clear hr2
      go_wp2_with fail
      refine HQ.out.mono ?_
      rintro e w4 ⟨u, rfl, hu, hb⟩
      obtain ⟨qa, qc, rfl⟩ := hu.at.slice
      have hal : Below w4.heap.size w4 (w4.alloc (.cells #[.int .i64 z.kind, .int .i64 z.num, .string z.name, .slice qa z.args.length qc] 41)) := belowAlloc (Below.refl _ _) _
      have HP5 := Lib.hid (hu.kept hal)
      have HT5 := Lib.hid (at_box_of w4 #[.int .i64 z.kind, .int .i64 z.num, .string z.name, .slice qa z.args.length qc] 41 w4.heap.size rfl)
      have HO5 := Lib.hid ((HO1.out.kept hb).kept hal)
      have HB5 := Lib.hid (belowOn HB1.out (Nat.le_refl _) (belowOn hb (Nat.le_refl _) hal))
      have HBX5 := Lib.hid ((HBX.out.read hb).read hal)
      have HNE := Lib.hid (rowK_block HO1.out)
      have HZ45 := Lib.hid hal.size
      have HWZ3 := Lib.hid HB1.out.size
      clear hu hb hal HQ HB1 HBX HU1 HO1 e0 e1 e2 e3 e4 ef c0 c1 c2 c3 z0
      go_upto_region 9 with (fail)
      generalize hw5 : w4.alloc (.cells #[.int .i64 z.kind, .int .i64 z.num, .string z.name, .slice qa z.args.length qc] 41) = w5 at HP5 HT5 HO5 HB5 HBX5 HZ45 ⊢
      clear hw5
      generalize hn4 : w4.heap.size = n4 at HT5 HP5 HZ45 ⊢
      have HN4 := Lib.hid hn4
      clear hn4
      obtain ⟨b0, b1, b2, b3⟩ := HT5.out.cells
      have z5 := HT5.out.le
      have HC := Lib.hid (specFits_any z _ w5 HP5.out.at HFZ.out.2)
      go_wp2_with fail
      refine HC.out.mono ?_
      rintro e w6 ⟨rfl, hb⟩
      have HP6 := Lib.hid (HP5.out.kept hb)
      have HT6 := Lib.hid (HT5.out.read hb)
      have HO6 := Lib.hid (HO5.out.kept hb)
      have HB6 := Lib.hid (belowOn HB5.out (Nat.le_refl _) hb)
      have HBX6 := Lib.hid (HBX5.out.read hb)
      have HZ46 := Lib.hid (Nat.le_trans HZ45.out hb.size)
      clear hb HC HP5 HT5 HO5 HB5 HBX5 HZ45 b0 b1 b2 b3 z5
      obtain ⟨e0, e1, e2, e3, e4, ef⟩ := box_cells5 HBX6.out.now
      obtain ⟨b0, b1, b2, b3⟩ := HT6.out.cells
      have z6 := HT6.out.le
      cases h4 : decide (z.nodes ≤ 5000) with
      | false =>
        obtain ⟨rfl, rfl⟩ := HNO.out (.inr (.inr (.inr ⟨x, List.mem_of_getElem? HX.out, by rw [HZ.out]; have := of_decide_eq_false h4; omega⟩)))
        clear h4
        go_wp2
        go_ret2
        exact ⟨_, rfl, .nil _ _, belowOn HW2.out (Nat.le_refl _) HB6.out⟩
      | true =>
        have HD4 := Lib.hid (of_decide_eq_true h4)
        have HNN : Hid (∀ (i : Nat) (b : Bd), i < k + 1 → s[i]? = some b → (b.t.put v y).nodes ≤ 5000) := Lib.hid fun i b hi hb => by
          by_cases q : i = k
          · subst q
            cases hb.symm.trans HX.out
            rw [HZ.out]; exact HD4.out
          · exact HN.out i b (by omega) hb
        have HK : Hid ((s.take (k + 1)).map (putB v y) = (s.take k).map (putB v y) ++ [⟨x.v, z⟩]) := Lib.hid (by rw [takeE HX.out, List.map_append, List.map_singleton, putB, HZ.out])
        obtain ⟨L, hL1, hrow, hch⟩ := HO6.out
        have hLn : k = L.length := by have := congrArg List.length hL1; rw [List.length_map, List.length_map, List.length_take] at this; omega
        rw [← hLn] at hrow
        have HROW := Lib.hid hrow
        have HPA := Lib.hid (And.intro hL1 (And.intro hLn hch))
        have hwz : w2.heap.size ≤ w6.heap.size := HB6.out.size
        clear hL1 hLn hrow hch h4
        go_wp2_with (at_builtin; refine wpList_append_lies _ rfl _ _ 24 rfl w2.heap.size 43 i0 _ 5 64 Tryz.underlying24 HII.out.1 HII.out.2.1 HII.out.2.2.1 HII.out.2.2.2 rfl (by omega) (.slice (some ⟨og, 0, none⟩) k oc) k (cellsE bdE L) rfl (HROW.out.alloc _) ⟨w6.heap.size, 0, none⟩ 1 1 (bdE.cells ⟨x.v, z⟩ (.slice qa z.args.length qc)) rfl rfl (World.news_of_block (heap_alloc_new w6 _)) (by simp [bdE, Value.oneCell']) (by omega) (by unfold maxLen; omega) (by omega) (by simp; omega) (w6.heap.size + 1) (by simp) ?_; intro gg cap' w7 hown1 hgrow hat hlt1; have HAP := Lib.hid (And.intro hown1 (And.intro hgrow (And.intro hat hlt1))); clear hown1 hgrow hat hlt1)
        have HBF := Lib.hid ((belowAlloc HB6.out (.cells #[.int .i64 x.v, .int .i64 z.kind, .int .i64 z.num, .string z.name, .slice qa z.args.length qc] 43)).trans (below_of_grown HAP.out.2.1 (by simp; omega) (fun j hj => (HNE.out j hj).1)))
        have HNR : Hid (RowK bdE 43 w7 w2.heap.size (.slice (some ⟨gg, 0, none⟩) (k + 1) cap') ((s.take (k + 1)).map (putB v y))) := Lib.hid (by
          have h := rowK_append (E := bdE) (x := ⟨x.v, z⟩) HPA.out.2.1 HROW.out HPA.out.2.2 HP6.out (fun b hb => ⟨by
              rcases hb with hb | hb
              · have h1 : b < w2.heap.size := hb; omega
              · have := HZ46.out; omega, fun e => by
              have h1 := HNE.out b e
              rcases hb with hb | hb
              · have h2 : b < w2.heap.size := hb; omega
              · omega⟩) (belowAlloc (Below.refl _ _) _) HAP.out.1 HAP.out.2.1 (HAP.out.2.2.1.imp id (fun h => by omega))
          rw [← HPA.out.1, ← HK.out] at h
          exact h)
        clear HAP HPA HROW HP6 e0 e1 e2 e3 e4 ef b0 b1 b2 b3 z6
        go_wp2
        go_roundw
        case rel => exact ⟨k + 1, gg, cap', by omega, by go_num, by first | rfl | (congr 1), HNR, HNN, HBF⟩
        case measure => simp [intOf]; omega
    · obtain rfl : k = s.length := by omega
      have HO1 : Hid (RowK bdE 43 wr w2.heap.size (.slice (some ⟨og, 0, none⟩) s.length oc) (s.map (putB v y))) := Lib.hid (by have := HO.out; rw [List.take_length] at this; exact this)
      have HFT : Hid (∀ b ∈ s, (b.t.put v y).nodes ≤ 5000) := Lib.hid fun b hb => by
        obtain ⟨i, hi⟩ := List.getElem?_of_mem hb
        exact HN.out i b (List.getElem?_eq_some_iff.1 hi).1 hi
      clear HO HN
      have hI := specInsert_any (s.map (putB v y)) og oc w2.heap.size ⟨v, y⟩ (.slice ya y.args.length yc) (fun k => k < w2.heap.size) wr (by rw [List.length_map]; exact HO1.out) (HUY2.out.kept HB.out) (by rw [List.length_map]; exact hL)
      rw [List.length_map, ← bindS_eq] at hI
      have HC := Lib.hid hI
      clear hI
      obtain ⟨c0, c1, c2, c3⟩ := (HY2.out.read HB.out).cells
      have z0 := (HY2.out.read HB.out).le
      obtain ⟨rfl, rfl⟩ := HYES.out HD1.out HD2.out (by omega) HFT.out
      go_wp2_with fail
      refine HC.out.mono ?_
      rintro e w8 ⟨v5, rfl, hr5, hb⟩
      have HR5 := Lib.hid (hr5.rowK (Nat.zero_le _) (by have := hr5.size (by rw [bindS_eq, insB_length]; omega); omega)).inS
      have HB8 := Lib.hid (belowOn (belowOn HW2.out (Nat.le_refl _) HB.out) (Nat.le_refl _) hb)
      obtain ⟨a8, c8, rfl⟩ := HR5.out.slice
      clear hr5 hb HC c0 c1 c2 c3 z0
      go_wp2
      go_ret2
      exact ⟨_, rfl, HR5.out, HB8.out⟩
end Go.Proofs.YtnbnepeikdieaabGreat

namespace Go.Proofs.YtnbnepeikdieaabGreat
open Go.RowKit
set_option linter.unusedVariables false
set_option linter.unusedSimpArgs false

/-- What the model's l05Unify answers. -/
def UniP (s : List Bd) (a b : Tm) : Prop := ∀ (Vs Va Vb : Value) (w : World), ListS bdE w Any Vs s → ArgsAt w Va a.args → ArgsAt w Vb b.args →
  Calls Tryz.prog 43 #[Vs, .agg #[.int .i64 a.kind, .int .i64 a.num, .string a.name, Va], .agg #[.int .i64 b.kind, .int .i64 b.num, .string b.name, Vb]] w (OldB2 (muL s [(a, b)]) (muB s [(a, b)]) w)
theorem pair_ok {a b : Tm} (ha : Ok a) (hb : Ok b) : OkE [(a, b)] := fun e he => by
  rw [List.mem_singleton] at he; subst he; exact ⟨ha, hb⟩
theorem mu_walk {s : List Bd} {a b : Tm} (hs : SubstP s) (ha : Ok a) (hb : Ok b) : muL s [(a, b)] = muL s [(walkT s a, walkT s b)] ∧ muB s [(a, b)] = muB s [(walkT s a, walkT s b)] :=
  mu_congr hs (pair_ok ha hb) fun f hf => (walk_eqn hf ha.2 hb.2).symm
theorem mu_swap {s : List Bd} {a b : Tm} (hs : SubstP s) (ha : Ok a) (hb : Ok b) : muL s [(a, b)] = muL s [(b, a)] ∧ muB s [(a, b)] = muB s [(b, a)] :=
  mu_congr hs (pair_ok ha hb) fun f _ => swap_eqn
theorem mu_same {s : List Bd} {a : Tm} (hs : SubstP s) : muL s [(a, a)] = s ∧ muB s [(a, a)] = true := mu_yes (mgu_refl hs fun f _ => sol_one.2 rfl)
theorem good_len {p q : Tm} (hp : Good p) (hq : Good q) (h : p.kind = q.kind) : p.args.length = q.args.length := by
  by_cases h4 : p.kind = 4
  · obtain ⟨x, y, rfl, _, _⟩ := good_pair hp h4
    obtain ⟨z, r, rfl, _, _⟩ := good_pair hq (by rw [← h]; exact h4)
    rfl
  · rw [good_leaf hp h4, good_leaf hq (by rw [← h]; exact h4)]
theorem arg_ok {p x : Tm} (hp : Ok p) (hx : x ∈ p.args) : Ok x := by
  by_cases h4 : p.kind = 4
  · obtain ⟨y, z, rfl, _, _⟩ := good_pair hp.2 h4
    obtain ⟨h1, h2⟩ := ok_two hp
    rcases (by simpa [Tm.args] using hx : x = y ∨ x = z) with rfl | rfl
    · exact h1
    · exact h2
  · rw [good_leaf hp.2 h4] at hx; cases hx
theorem arg_less {s : List Bd} {p x : Tm} (hp : Good p) (hx : x ∈ p.args) : (putT s x).nodes < (putT s p).nodes := by
  by_cases h4 : p.kind = 4
  · obtain ⟨y, z, rfl, _, _⟩ := good_pair hp h4
    rw [putT_two (t := .mk 4 0 ⟨#[]⟩ [y, z]) rfl rfl]
    have e : (Tm.mk 4 0 ⟨#[]⟩ [putT s y, putT s z]).nodes = 1 + nodesL [putT s y, putT s z] := by rw [nodes_eq]; rfl
    rw [e]
    simp only [nodesL]
    rcases (by simpa [Tm.args] using hx : x = y ∨ x = z) with rfl | rfl <;> omega
  · rw [good_leaf hp h4] at hx; cases hx
theorem mgu_next {s u : List Bd} {l m : List Tm} {k : Nat} {x y : Tm} (hx : l[k]? = some x) (hy : m[k]? = some y) (hu : Mgu s ((l.take k).zip (m.take k)) u) (hl : u = s ∨ s.length < u.length) (ox : Ok x) (oy : Ok y) (h : muB u [(x, y)] = true) :
    Mgu s ((l.take (k + 1)).zip (m.take (k + 1))) (muL u [(x, y)]) ∧ (muL u [(x, y)] = s ∨ s.length < (muL u [(x, y)]).length) := by
  rcases mgu_or _ _ u x y hu.ok ox oy (Nat.le_refl _) (Nat.le_refl _) with ⟨v, hv, hvl⟩ | hno
  · rw [(mu_yes hv).1, zip_take hx hy]
    refine ⟨mgu_trans hu hv, ?_⟩
    rcases hvl with rfl | hvl
    · exact hl
    · rcases hl with rfl | hl
      · exact .inr hvl
      · exact .inr (by omega)
  · rw [(mu_no hno).2] at h; cases h
theorem nou_next {s u : List Bd} {l m : List Tm} {k : Nat} {x y : Tm} (hx : l[k]? = some x) (hy : m[k]? = some y) (hu : Mgu s ((l.take k).zip (m.take k)) u) (ox : Ok x) (oy : Ok y) (h : muB u [(x, y)] = false) : NoU s (l.zip m) := by
  have h1 : NoU s ((l.take (k + 1)).zip (m.take (k + 1))) := by
    rw [zip_take hx hy]
    exact nou_right hu (mu_false hu.ok (pair_ok ox oy) h)
  have e : l.zip m = (l.take (k + 1)).zip (m.take (k + 1)) ++ (l.drop (k + 1)).zip (m.drop (k + 1)) := by
    have hl := (List.getElem?_eq_some_iff.1 hx).1
    have hm := (List.getElem?_eq_some_iff.1 hy).1
    rw [← List.zip_append (by rw [List.length_take, List.length_take]; omega), List.take_append_drop, List.take_append_drop]
  rw [e]
  exact nou_left h1
theorem mu_args {s u : List Bd} {p q : Tm} (hk : ¬ p.kind = 1) (he : p.kind = q.kind ∧ p.num = q.num ∧ p.name = q.name) (hl : p.args.length = q.args.length) (hu : Mgu s (p.args.zip q.args) u) : muL s [(p, q)] = u ∧ muB s [(p, q)] = true :=
  mu_yes (mgu_congr (fun f _ => args_eqn hk he hl) hu)
theorem no_args {s : List Bd} {p q : Tm} (hk : ¬ p.kind = 1) (he : p.kind = q.kind ∧ p.num = q.num ∧ p.name = q.name) (hl : p.args.length = q.args.length) (hn : NoU s (p.args.zip q.args)) : muL s [(p, q)] = [] ∧ muB s [(p, q)] = false :=
  mu_no (nou_congr (fun f _ => args_eqn hk he hl) hn)

set_option maxRecDepth 100000 in
set_option maxHeartbeats 4000000 in
theorem uni_step (s : List Bd) (a b : Tm) (hs : SubstP s) (ha : Ok a) (hb : Ok b) (IH : ∀ u x y, SubstP u → Ok x → Ok y → (s.length < u.length ∨ u = s ∧ (putT s x).nodes < (putT s a).nodes) → UniP u x y) : UniP s a b := by
  intro Vs Va Vb w hA hP hQ
  obtain ⟨sa, sc, rfl⟩ := hA.slice
  obtain ⟨aa, ac, rfl⟩ := hP.slice
  obtain ⟨ba, bc, rfl⟩ := hQ.slice
  have hl4 : s.length ≤ 400 := hs.1.2.2
  have hL : s.length ≤ 1048576 := by omega
  have HWK := Lib.hid (mu_walk hs ha hb)
  generalize muL s [(a, b)] = ul at HWK ⊢
  generalize muB s [(a, b)] = ub at HWK ⊢
  have HOP := Lib.hid (walk_ok hs ha)
  have HOQ := Lib.hid (walk_ok hs hb)
  have HFP := Lib.hid (fun h => walk_free hs (t := a) h)
  have HFQ := Lib.hid (fun h => walk_free hs (t := b) h)
  have HPW := Lib.hid (put_walk hs a)
  have HS := Lib.hid hs
  have HIH := Lib.hid IH
  have hal1 : Below w.heap.size w (w.alloc (.cells #[.int .i64 a.kind, .int .i64 a.num, .string a.name, .slice aa a.args.length ac] 41)) := belowAlloc (Below.refl _ _) _
  have HX := Lib.hid (at_box_of w #[.int .i64 a.kind, .int .i64 a.num, .string a.name, .slice aa a.args.length ac] 41 w.heap.size rfl)
  have HR := Lib.hid (at_box_of (w.alloc (.cells #[.int .i64 a.kind, .int .i64 a.num, .string a.name, .slice aa a.args.length ac] 41)) #[.int .i64 b.kind, .int .i64 b.num, .string b.name, .slice ba b.args.length bc] 41 (w.heap.size + 1) (by simp))
  replace HX := Lib.hid (HX.out.read (belowAlloc (Below.refl _ _) (.cells #[.int .i64 b.kind, .int .i64 b.num, .string b.name, .slice ba b.args.length bc] 41)))
  have HW := Lib.hid (belowAlloc hal1 (.cells #[.int .i64 b.kind, .int .i64 b.num, .string b.name, .slice ba b.args.length bc] 41))
  have HLS : Hid (ListS bdE w (fun k => k < w.heap.size) (.slice sa s.length sc) s) := Lib.hid hA.lowB
  have HA := Lib.hid hP.inS
  have HB := Lib.hid hQ.inS
  have HC := Lib.hid (specWalk5_any s a _ _ (fun k => k < w.heap.size) _ hL (hA.lowB.kept HW.out) (hP.inS.kept HW.out) (fun k hk => Nat.lt_of_lt_of_le hk HW.out.size))
  clear hal1 hA hP hQ hs ha hb IH
  generalize walkT s a = p at HC HWK HOP HFP HPW
  go_enter Tryz.func43, Tryz.ntmps43
  go_upto_region 1 with (fail)
  generalize hw0 : (w.alloc (.cells #[.int .i64 a.kind, .int .i64 a.num, .string a.name, .slice aa a.args.length ac] 41)).alloc (.cells #[.int .i64 b.kind, .int .i64 b.num, .string b.name, .slice ba b.args.length bc] 41) = w0 at HX HR HW HC ⊢
  clear hw0
  obtain ⟨c0, c1, c2, c3⟩ := HX.out.cells
  have z0 := HX.out.le
  go_wp2_with fail
  refine HC.out.mono ?_
  rintro e w1 ⟨u, rfl, hu, hb⟩
  obtain ⟨pa, pc, rfl⟩ := hu.at.slice
  have HU := Lib.hid hu
  have HX1 := Lib.hid (HX.out.read hb)
  have HR1 := Lib.hid (HR.out.read hb)
  have HW1 := Lib.hid (belowOn HW.out (Nat.le_refl _) hb)
  clear hu hb HC HX HR HW c0 c1 c2 c3 z0
  obtain ⟨c0, c1, c2, c3, cf⟩ := box_cells HX1.out.now
  have z0 := HX1.out.le
  go_upto_region 2 with (fail)
  have HST := Lib.hid (store4 HX1.out.now (.int .i64 p.kind) (.int .i64 p.num) (.string p.name) (.slice pa p.args.length pc))
  generalize hw2 : (((w1.setCell ⟨w.heap.size, 0, none⟩ (.int .i64 p.kind)).setCell ⟨w.heap.size, 1, none⟩ (.int .i64 p.num)).setCell ⟨w.heap.size, 2, none⟩ (.string p.name)).setCell ⟨w.heap.size, 3, none⟩ (.slice pa p.args.length pc) = w2 at HST ⊢
  clear hw2 c0 c1 c2 c3 cf z0
  have HX2 : Hid (At w2 w.heap.size (w.heap.size + 1) (BoxP w.heap.size #[.int .i64 p.kind, .int .i64 p.num, .string p.name, .slice pa p.args.length pc] 41)) := Lib.hid ⟨HST.out.1, stays_box _ _ _, by have h1 := HX1.out.le; have h2 := HST.out.2.size; omega⟩
  have HR2 := Lib.hid (HR1.out.only HST.out.2 (.inr (Nat.le_refl _)))
  have HW2 := Lib.hid (HW1.out.trans (HST.out.2.below (fun k hk => by have := hk.1; omega) HW1.out.size))
  have HU2 := Lib.hid (HU.out.frame HST.out.2.size fun k hk hks => HST.out.2.block k hks fun h => by have h1 := h.1; have h2 : k < w.heap.size := hk; omega)
  clear HST HX1 HR1 HW1 HU
  have HC := Lib.hid (specWalk5_any s b _ _ (fun k => k < w.heap.size) _ hL (HLS.out.kept HW2.out) (HB.out.kept HW2.out) (fun k hk => Nat.lt_of_lt_of_le hk HW2.out.size))
  generalize walkT s b = q at HC HWK HOQ HFQ
  obtain ⟨c0, c1, c2, c3⟩ := HR2.out.cells
  have z0 := HR2.out.le
  go_wp2_with fail
  refine HC.out.mono ?_
  rintro e w3 ⟨u, rfl, hu, hb⟩
  obtain ⟨qa, qc, rfl⟩ := hu.at.slice
  have HV3 := Lib.hid hu
  have HU3 := Lib.hid (HU2.out.kept hb)
  have HX3 := Lib.hid (HX2.out.read hb)
  have HR3 := Lib.hid (HR2.out.read hb)
  have HW3 := Lib.hid (belowOn HW2.out (Nat.le_refl _) hb)
  clear hu hb HC HX2 HR2 HW2 HU2 c0 c1 c2 c3 z0
  obtain ⟨c0, c1, c2, c3, cf⟩ := box_cells HR3.out.now
  have z0 := HR3.out.le
  go_upto_region 3 with (fail)
  have HST := Lib.hid (store4 HR3.out.now (.int .i64 q.kind) (.int .i64 q.num) (.string q.name) (.slice qa q.args.length qc))
  generalize hw4 : (((w3.setCell ⟨w.heap.size + 1, 0, none⟩ (.int .i64 q.kind)).setCell ⟨w.heap.size + 1, 1, none⟩ (.int .i64 q.num)).setCell ⟨w.heap.size + 1, 2, none⟩ (.string q.name)).setCell ⟨w.heap.size + 1, 3, none⟩ (.slice qa q.args.length qc) = w4 at HST ⊢
  clear hw4 c0 c1 c2 c3 cf z0
  have HY : Hid (At w4 (w.heap.size + 1) (w.heap.size + 1 + 1) (BoxP (w.heap.size + 1) #[.int .i64 q.kind, .int .i64 q.num, .string q.name, .slice qa q.args.length qc] 41)) := Lib.hid ⟨HST.out.1, stays_box _ _ _, by have h1 := HR3.out.le; have h2 := HST.out.2.size; omega⟩
  have HX := Lib.hid (HX3.out.only HST.out.2 (.inl (Nat.le_refl _)))
  have HW := Lib.hid (HW3.out.trans (HST.out.2.below (fun k hk => by have := hk.1; omega) HW3.out.size))
  have HP : Hid (ArgsAt w4 (.slice pa p.args.length pc) p.args) := Lib.hid (HU3.out.frame HST.out.2.size fun k hk hks => HST.out.2.block k hks fun h => by have h1 := h.1; have h2 : k < w.heap.size := hk; omega).at
  have HQ : Hid (ArgsAt w4 (.slice qa q.args.length qc) q.args) := Lib.hid (HV3.out.frame HST.out.2.size fun k hk hks => HST.out.2.block k hks fun h => by have h1 := h.1; have h2 : k < w.heap.size := hk; omega).at
  have HLW : Hid (ListS bdE w4 Any (.slice sa s.length sc) s) := Lib.hid (HLS.out.kept HW.out).any
  clear HST HX3 HR3 HW3 HU3 HV3 HLS HA HB
  generalize w.heap.size + 1 = bq at HY ⊢
  generalize hbp : w.heap.size = bp at HX HW ⊢
  obtain ⟨c0, c1, c2, c3⟩ := HX.out.cells
  have z0 := HX.out.le
  obtain ⟨k0, k1, k2, k3⟩ := HY.out.cells
  have z1 := HY.out.le
  by_cases hp : p.kind = 1
  · have dp : (p.kind == 1) = true := by rw [hp]; rfl
    have HVP := Lib.hid (var_is HOP.out.2 hp)
    have HRP := Lib.hid (vrange HOP.out.2 hp)
    have HGP := Lib.hid (HFP.out hp)
    by_cases hq : q.kind = 1
    · have dq : (q.kind == 1) = true := by rw [hq]; rfl
      have HVQ := Lib.hid (var_is HOQ.out.2 hq)
      have HRQ := Lib.hid (vrange HOQ.out.2 hq)
      have HGQ := Lib.hid (HFQ.out hq)
      have HPP : Hid (putT s p = p) := Lib.hid (by rw [HVP.out]; exact putT_free HGP.out)
      have HQQ : Hid (putT s q = q) := Lib.hid (by rw [HVQ.out]; exact putT_free HGQ.out)
      clear hp hq
      by_cases h3 : p.num < q.num
      · have hI := specBind_any s q.num p _ _ w4 HS.out HRQ.out HGQ.out HOP.out (by rw [HPP.out]; intro h; omega) HLW.out HP.out
        rw [← HVQ.out, (mu_swap HS.out HOQ.out HOP.out).1, (mu_swap HS.out HOQ.out HOP.out).2, ← HWK.out.1, ← HWK.out.2] at hI
        have HC := Lib.hid hI
        clear hI
        go_wp2_with fail
        refine HC.out.mono ?_
        rintro e w5 ⟨v5, rfl, hv5, hb⟩
        have HV5 := Lib.hid hv5
        have HB5 := Lib.hid (belowOn HW.out (Nat.le_of_eq hbp.symm) hb)
        clear hv5 hb HC c0 c1 c2 c3 z0 k0 k1 k2 k3 z1
        go_wp2
        go_ret2
        exact ⟨_, rfl, HV5.out, by rw [hbp]; exact HB5.out⟩
      · by_cases h4 : p.num = q.num
        · have d4 : (p.num == q.num) = true := by rw [h4]; exact beq_self_eq_true _
          have hpq : p = q := by rw [HVP.out, HVQ.out, h4]
          have HE : Hid (ul = s ∧ ub = true) := Lib.hid (by rw [HWK.out.1, HWK.out.2, hpq]; exact mu_same HS.out)
          obtain ⟨rfl, rfl⟩ := HE.out
          clear hpq h4
          go_wp2
          go_ret2
          exact ⟨_, rfl, HLW.out, by rw [hbp]; exact HW.out⟩
        · have d4 : (p.num == q.num) = false := beq_eq_false_iff_ne.2 h4
          have hI := specBind_any s p.num q _ _ w4 HS.out HRP.out HGP.out HOQ.out (by rw [HQQ.out]; intro h; omega) HLW.out HQ.out
          rw [← HVP.out, ← HWK.out.1, ← HWK.out.2] at hI
          have HC := Lib.hid hI
          clear hI h4
          go_wp2_with fail
          refine HC.out.mono ?_
          rintro e w5 ⟨v5, rfl, hv5, hb⟩
          have HV5 := Lib.hid hv5
          have HB5 := Lib.hid (belowOn HW.out (Nat.le_of_eq hbp.symm) hb)
          clear hv5 hb HC c0 c1 c2 c3 z0 k0 k1 k2 k3 z1
          go_wp2
          go_ret2
          exact ⟨_, rfl, HV5.out, by rw [hbp]; exact HB5.out⟩
    · have dq : (q.kind == 1) = false := beq_eq_false_iff_ne.2 hq
      have hI := specBind_any s p.num q _ _ w4 HS.out HRP.out HGP.out HOQ.out (fun h => put_notvar hq h.1) HLW.out HQ.out
      rw [← HVP.out, ← HWK.out.1, ← HWK.out.2] at hI
      have HC := Lib.hid hI
      clear hI hp hq
      go_wp2_with fail
      refine HC.out.mono ?_
      rintro e w5 ⟨v5, rfl, hv5, hb⟩
      have HV5 := Lib.hid hv5
      have HB5 := Lib.hid (belowOn HW.out (Nat.le_of_eq hbp.symm) hb)
      clear hv5 hb HC c0 c1 c2 c3 z0 k0 k1 k2 k3 z1
      go_wp2
      go_ret2
      exact ⟨_, rfl, HV5.out, by rw [hbp]; exact HB5.out⟩
  · have dp : (p.kind == 1) = false := beq_eq_false_iff_ne.2 hp
    have HNP := Lib.hid hp
    by_cases hq : q.kind = 1
    · have dq : (q.kind == 1) = true := by rw [hq]; rfl
      have HVQ := Lib.hid (var_is HOQ.out.2 hq)
      have hI := specBind_any s q.num p _ _ w4 HS.out (vrange HOQ.out.2 hq) (HFQ.out hq) HOP.out (fun h => put_notvar hp h.1) HLW.out HP.out
      rw [← HVQ.out, (mu_swap HS.out HOQ.out HOP.out).1, (mu_swap HS.out HOQ.out HOP.out).2, ← HWK.out.1, ← HWK.out.2] at hI
      have HC := Lib.hid hI
      clear hI hp hq
      go_wp2_with fail
      refine HC.out.mono ?_
      rintro e w5 ⟨v5, rfl, hv5, hb⟩
      have HV5 := Lib.hid hv5
      have HB5 := Lib.hid (belowOn HW.out (Nat.le_of_eq hbp.symm) hb)
      clear hv5 hb HC c0 c1 c2 c3 z0 k0 k1 k2 k3 z1
      go_wp2
      go_ret2
      exact ⟨_, rfl, HV5.out, by rw [hbp]; exact HB5.out⟩
    · have dq : (q.kind == 1) = false := beq_eq_false_iff_ne.2 hq
      have HNQ := Lib.hid hq
      clear hp hq
      by_cases h3 : p.kind = q.kind ∧ p.num = q.num ∧ p.name = q.name
      · have HEQ := Lib.hid h3
        have HLEN := Lib.hid (good_len HOP.out.2 HOQ.out.2 h3.1)
        have HWL := Lib.hid (show ul = muL s [(p, q)] ∧ ub = muB s [(p, q)] from HWK.out)
        have e1 : (p.kind != q.kind) = false := by rw [h3.1]; exact bne_self_eq_false _
        have e2 : (p.num != q.num) = false := by rw [h3.2.1]; exact bne_self_eq_false _
        have e3 : (p.name.toList == q.name.toList) = true := by rw [h3.2.2]; exact beq_self_eq_true _
        have e4 : (p.name.toList != q.name.toList) = false := by rw [h3.2.2]; exact bne_self_eq_false _
        have HPL : Hid (p.args.length ≤ 1048576) := Lib.hid (by have h1 := good_sz HOP.out.2; have h2 := HOP.out.1; have h3 := length_szL p.args; have h4 := sz_eq p; omega)
        have hpl := HPL.out
        clear h3
        go_wp2
        clear e1 e2 e3 e4 c0 c1 c2 c3 z0 k0 k1 k2 k3 z1 dp dq
        go_loopw [0, 98] (fun sv kv wr => ∃ (k : Nat) (u : List Bd), k ≤ p.args.length ∧ kv = .int .i64 k ∧ Hid (ListS bdE wr Any sv u) ∧ Hid (Mgu s ((p.args.take k).zip (q.args.take k)) u ∧ (u = s ∨ s.length < u.length)) ∧ Hid (Below w4.heap.size w4 wr)) (fun _ kv _ => p.args.length - (intOf kv).toNat)
        case atStart => exact ⟨0, s, Nat.zero_le _, rfl, HLW, Lib.hid ⟨mgu_refl HS.out fun f _ => solE_nil f, .inl rfl⟩, Lib.hid (Below.refl _ _)⟩
        case round =>
          obtain ⟨k, u, hk, rfl, HU, HM, HB⟩ := hrel
          obtain ⟨ua, uc, rfl⟩ := HU.out.slice
          by_cases hlt : k < p.args.length
          · have hltI : (k : Int) < (p.args.length : Int) := by omega
            have hltQ : k < q.args.length := by have := HLEN.out; omega
            have hltJ : (k : Int) < (q.args.length : Int) := by omega
            obtain ⟨x, hx⟩ : ∃ x, p.args[k]? = some x := ⟨_, List.getElem?_eq_getElem hlt⟩
            obtain ⟨y, hy⟩ : ∃ y, q.args[k]? = some y := ⟨_, List.getElem?_eq_getElem hltQ⟩
            obtain ⟨g, off, u1, u2, rfl, hg, _, hc, hxa⟩ := HP.out.elem hx
            obtain ⟨g', off', y1, y2, rfl, hg', _, hc', hya⟩ := HQ.out.elem hy
            obtain ⟨d0, d1, d2, d3⟩ := hc wr HB.out
            have HXE := Lib.hid hx
            have HYE := Lib.hid hy
            have HOX := Lib.hid (arg_ok HOP.out (List.mem_of_getElem? hx))
            have HOY := Lib.hid (arg_ok HOQ.out (List.mem_of_getElem? hy))
            have HCD : Hid (s.length < u.length ∨ u = s ∧ (putT s x).nodes < (putT s a).nodes) := Lib.hid (by
              rcases HM.out.2 with h | h
              · exact .inr ⟨h, by rw [← HPW.out]; exact arg_less HOP.out.2 (List.mem_of_getElem? HXE.out)⟩
              · exact .inl h)
            have HUN := Lib.hid (HIH.out u x y HM.out.1.ok HOX.out HOY.out HCD.out)
            have hal : Below wr.heap.size wr (wr.alloc (.cells #[.int .i64 x.kind, .int .i64 x.num, .string x.name, .slice u1 x.args.length u2] 41)) := belowAlloc (Below.refl _ _) _
            have HXB := Lib.hid (at_box_of wr #[.int .i64 x.kind, .int .i64 x.num, .string x.name, .slice u1 x.args.length u2] 41 wr.heap.size rfl)
            have HU1 := Lib.hid (HU.out.kept hal)
            have HB1 := Lib.hid (belowOn HB.out (Nat.le_refl _) hal)
            have HXA := Lib.hid (hxa.kept (belowOn HB.out (Nat.le_refl _) hal))
            have HYA := Lib.hid (hya.kept (belowOn HB.out (Nat.le_refl _) hal))
            have HC2 := Lib.hid (fun W hW => hc' W (belowOn (belowOn HB.out (Nat.le_refl _) hal) (Nat.le_refl _) hW))
            clear hc hc' hxa hya hx hy hal
            go_upto_region 16 with (fail)
            generalize hw5 : wr.alloc (.cells #[.int .i64 x.kind, .int .i64 x.num, .string x.name, .slice u1 x.args.length u2] 41) = w5 at HXB HU1 HB1 HXA HYA HC2 ⊢
            clear hw5 d0 d1 d2 d3 HU HB
            generalize wr.heap.size = nx at HXB ⊢
            have hself : Below w5.heap.size w5 w5 := Below.refl _ _
            have hdrew : Below w5.heap.size w5 w5.drew := hself.drew
            have HCE : Hid (∀ W, Below w5.heap.size w5 W → W.cell? ⟨bq, 3, none⟩ = some (.slice (some ⟨g', off', none⟩) q.args.length qc)) := Lib.hid fun W hW => ((HY.out.read HB1.out).read hW).cells.2.2.2
            obtain ⟨d0, d1, d2, d3⟩ := HC2.out w5 hself
            obtain ⟨f0, f1, f2, f3⟩ := HC2.out w5.drew hdrew
            obtain ⟨c0, c1, c2, c3⟩ := HXB.out.cells
            obtain ⟨k0, k1, k2, k3⟩ := (HXB.out.read hdrew).cells
            have r3 := HCE.out w5 hself
            have r3d := HCE.out w5.drew hdrew
            have HCC : Hid (∀ W, Below w5.heap.size w5 W → Calls Tryz.prog 43 #[.slice ua u.length uc, .agg #[.int .i64 x.kind, .int .i64 x.num, .string x.name, .slice u1 x.args.length u2], .agg #[.int .i64 y.kind, .int .i64 y.num, .string y.name, .slice y1 y.args.length y2]] W fun e w' => ∃ v, e = .returned (.tuple #[v, .bool (muB u [(x, y)])]) ∧ ListS bdE w' Any v (muL u [(x, y)]) ∧ Below w5.heap.size w5 w') := Lib.hid fun W hW =>
              (HUN.out _ _ _ W (HU1.out.kept hW) (HXA.out.kept hW) (HYA.out.kept hW)).mono fun e w' ⟨v, he, hv, hb⟩ => ⟨v, he, hv, belowOn hW (Nat.le_refl _) hb⟩
            clear HXB HU1 HXA HYA HC2 HUN HP HQ HX HLW
            go_region_law (go_simp; go_at_call 43; (with_reducible refine Calls.mono (HCC.out _ ?_) ?_); (first | exact hself | exact hdrew); rintro e wB ⟨v5, rfl, hv5, hb5⟩; have HV5 := Lib.hid hv5; have HB5 := Lib.hid hb5; clear hv5 hb5)
            all_goals
              have HBB := Lib.hid (belowOn HB1.out (Nat.le_refl _) HB5.out)
              clear d0 d1 d2 d3 f0 f1 f2 f3 c0 c1 c2 c3 k0 k1 k2 k3 r3 r3d
              cases hm : muB u [(x, y)] with
              | false =>
                have HE : Hid (ul = [] ∧ ub = false) := Lib.hid (by rw [HWL.out.1, HWL.out.2]; exact no_args HNP.out HEQ.out HLEN.out (nou_next HXE.out HYE.out HM.out.1 HOX.out HOY.out hm))
                obtain ⟨rfl, rfl⟩ := HE.out
                clear hm
                go_wp2
                go_ret2
                exact ⟨_, rfl, .nil _ _, by rw [hbp]; exact belowOn HW.out (Nat.le_of_eq hbp.symm) HBB.out⟩
              | true =>
                have HMN := Lib.hid (mgu_next HXE.out HYE.out HM.out.1 HM.out.2 HOX.out HOY.out hm)
                clear hm
                go_wp2
                go_roundw
                case rel => exact ⟨k + 1, muL u [(x, y)], by omega, by go_num, HV5, HMN, HBB⟩
                case measure => simp [intOf]; omega
          · obtain rfl : k = p.args.length := by omega
            have HMU : Hid (Mgu s (p.args.zip q.args) u) := Lib.hid (by have h := HM.out.1; have e := HLEN.out; rw [List.take_length, e, List.take_length] at h; exact h)
            have HE : Hid (ul = u ∧ ub = true) := Lib.hid (by rw [HWL.out.1, HWL.out.2]; exact mu_args HNP.out HEQ.out HLEN.out HMU.out)
            obtain ⟨rfl, rfl⟩ := HE.out
            go_wp2
            go_ret2
            exact ⟨_, rfl, HU.out, by rw [hbp]; exact belowOn HW.out (Nat.le_of_eq hbp.symm) HB.out⟩
      · have HE : Hid (ul = [] ∧ ub = false) := Lib.hid (by rw [HWK.out.1, HWK.out.2]; exact mu_no (clash_no HNP.out HNQ.out h3))
        obtain ⟨rfl, rfl⟩ := HE.out
        have HCS : (p.kind != q.kind) = true ∨ ((p.kind != q.kind) = false ∧ (p.num != q.num) = true) ∨ ((p.kind != q.kind) = false ∧ (p.num != q.num) = false ∧ (p.name.toList == q.name.toList) = false ∧ (p.name.toList != q.name.toList) = true) := by
          by_cases h1 : p.kind = q.kind
          · by_cases h2 : p.num = q.num
            · exact .inr (.inr ⟨by rw [h1]; exact bne_self_eq_false _, by rw [h2]; exact bne_self_eq_false _, beq_eq_false_iff_ne.2 fun h => h3 ⟨h1, h2, toList_inj h⟩, bne_iff_ne.2 fun h => h3 ⟨h1, h2, toList_inj h⟩⟩)
            · exact .inr (.inl ⟨by rw [h1]; exact bne_self_eq_false _, bne_iff_ne.2 h2⟩)
          · exact .inl (bne_iff_ne.2 h1)
        clear h3
        rcases HCS with d1 | ⟨d1, d2⟩ | ⟨d1, d2, d3, d4⟩
        all_goals
          go_wp2
          go_ret2
          exact ⟨_, rfl, .nil _ _, by rw [hbp]; exact HW.out⟩
theorem specUni_any : ∀ (n m : Nat) (s : List Bd) (a b : Tm), SubstP s → Ok a → Ok b → 401 - s.length ≤ n → (putT s a).nodes ≤ m → UniP s a b := by
  intro n
  induction n with
  | zero => intro m s a b hs _ _ hn; have := hs.1.2.2; omega
  | succ n ihn =>
    intro m
    induction m with
    | zero => intro s a b _ _ _ _ hm; have := nodes_pos (putT s a); omega
    | succ m ihm =>
      intro s a b hs ha hb hn hm
      refine uni_step s a b hs ha hb fun u x y hu hx hy hc => ?_
      rcases hc with hlt | ⟨rfl, hlt⟩
      · exact ihn _ u x y hu hx hy (by omega) (Nat.le_refl _)
      · exact ihm u x y hu hx hy hn (by omega)
theorem specUnifyOne_any (s : List Bd) (a b : Tm) (hs : SubstP s) (ha : Ok a) (hb : Ok b) : UniP s a b := specUni_any _ _ s a b hs ha hb (Nat.le_refl _) (Nat.le_refl _)
end Go.Proofs.YtnbnepeikdieaabGreat

