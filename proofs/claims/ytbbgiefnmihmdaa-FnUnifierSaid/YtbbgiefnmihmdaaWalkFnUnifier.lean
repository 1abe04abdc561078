/-
  The law of unifiers (FnUnifier), walked over the program's contracts.
-/
import Derived.Test.YtbbgiefnmihmdaaDrawG
import Derived.Test.YtbbgiefnmihmdaaFitU
import Derived.Test.YtbbgiefnmihmdaaUnifyA
import Derived.Test.YtbbgiefnmihmdaaImplIsUn
namespace Go.Proofs.Ytbbgiefnmihmdaa
open Go.RowKit
set_option linter.unusedVariables false
set_option linter.unusedSimpArgs false

theorem subst_wf {u : List Bd} (h : SubstP u) : ∀ b ∈ u, wfI b.v := fun b hb => by
  have := h.var hb
  exact wfI_of (by omega) (by omega)
theorem GroundP.subst {n : Nat} {g : List Bd} (h : GroundP n g) (hn : n ≤ 400) : SubstP g :=
  ground_subst h.asc (by have := h.1; omega) fun b hb => by
    obtain ⟨h1, h2, h3, h4⟩ := h.mem b hb
    exact ⟨⟨h1.1, by omega⟩, ⟨by omega, h2⟩, h3⟩
theorem ground_like {n : Nat} {g : List Bd} (h : GroundP n g) {t : Tm} (ht : Good t) : LikeT (SmallG 3) t (putT g t) := by
  induction ht with
  | nil => rw [putT_atom (by decide) (by decide)]; exact .same _
  | var i h0 h1 =>
    cases hg : getO g i with
    | none => rw [show Tm.mk 1 i ⟨#[]⟩ [] = varTm i from rfl, putT_free hg]; exact .same _
    | some y =>
      obtain ⟨b, hb, _, rfl⟩ := getO_some hg
      rw [show Tm.mk 1 i ⟨#[]⟩ [] = varTm i from rfl, putT_of hg]
      have := h.mem b hb
      exact .draw _ _ ⟨this.2.1, (fun v hv => by rw [this.2.2.1] at hv; cases hv), this.2.2.2⟩
  | sym s h => rw [putT_atom (by show ¬ (2 : Int) = 1; decide) (by show ¬ (2 : Int) = 4; decide)]; exact .same _
  | int i h0 h1 => rw [putT_atom (by show ¬ (3 : Int) = 1; decide) (by show ¬ (3 : Int) = 4; decide)]; exact .same _
  | pair x y hx hy ihx ihy =>
    rw [putT_two (t := .mk 4 0 ⟨#[]⟩ [x, y]) (x := x) (y := y) rfl rfl]
    exact .pair _ _ _ _ ihx ihy
theorem cmp_is {a b : Tm} (ha : Good a) (hb : Good b) : (a.cmp b == 0) = true ↔ a = b := by
  rw [beq_iff_eq]
  exact ⟨fun h => cmp_zero _ _ _ (Nat.le_refl _) ha hb h, fun h => by rw [h]; exact cmp_self _⟩
theorem unifier_no {p q : Tm} {g : List Bd} (hp : SmallG 7 p) (hl : LikeT (SmallG 3) p q) (hg : GroundP 4 g) (h : unB [] p q = false) : unL [] p q = [] ∧ ((putT g p).cmp (putT g q) == 0) = false := by
  obtain ⟨gq, vq, nq⟩ := like_small hl hp.1 hp.2.1
  have hq : Ok q := ⟨by have := hp.2.2; omega, gq⟩
  have e := ua_yes (ua_one substP_nil (hp.ok (by decide)) hq)
  refine ⟨?_, ?_⟩
  · rw [unB, e.2] at h
    rw [unL, e.1]
    exact (mu_no (mu_false substP_nil (one_okE (hp.ok (by decide)) hq) h)).1
  · cases hc : ((putT g p).cmp (putT g q) == 0) with
    | false => rfl
    | true => exact absurd ((cmp_is (ground_put hg hp.1).1 (ground_put hg gq).1).1 hc) ((un_ground (hp.ok (by decide)) hq (hg.subst (by decide))).2 h)
theorem unifier_yes {p q : Tm} {g : List Bd} (hp : SmallG 7 p) (hl : LikeT (SmallG 3) p q) (hg : GroundP 4 g) (h : unB [] p q = true) :
    SubstP (unL [] p q) ∧ iuB (unL [] p q) p q = true ∧ holdsB g (unL [] p q) = ((putT g p).cmp (putT g q) == 0) := by
  obtain ⟨gq, vq, nq⟩ := like_small hl hp.1 hp.2.1
  have hq : Ok q := ⟨by have := hp.2.2; omega, gq⟩
  have hf := un_fits hp hl h
  obtain ⟨h1, h2, h3⟩ := (un_ground (hp.ok (by decide)) hq (hg.subst (by decide))).1 h
  refine ⟨h1, ?_, ?_⟩
  · rw [iu_yes ⟨h1, hp.ok (by decide), hq⟩, solves_true]
    refine ⟨hf.1, hf.2, ?_⟩
    rw [h2, cmp_self]; rfl
  · rw [Bool.eq_iff_iff, holds_true, cmp_is (ground_put hg hp.1).1 (ground_put hg gq).1, ← h3]
    exact holds_sat h1.good

set_option maxRecDepth 100000 in
set_option maxHeartbeats 16000000 in
theorem walkFnUnifier (w : World) (a : Option Addr) (len cap : Nat) (zs : List Int) (hrow : ByteRow w a len cap zs) :
    Calls Try.prog 3 #[.slice a len cap] w fun e w' => e = .returned (.bool true) ∧ Below w.heap.size w w' := by
  obtain ⟨hby, hmx⟩ := hrow.bytes
  clear hrow
  unfold maxLen at hmx
  have HY := Lib.hid hby
  clear hby
  by_cases h : 1048576 < (len : Int)
  · go_enter Try.func3, Try.ntmps3
    go_wp2
    go_ret
    exact ⟨rfl, Below.refl _ _⟩
  have hl : len ≤ 1048576 := by omega
  go_enter Try.func3, Try.ntmps3
  go_wp2_with fail
  refine (makeGroundA_any a len cap 0 4 _ HY.out hl (by decide) (by decide) (by decide)).mono ?_
  rintro e w1 ⟨g, gb, gc, rfl, hgc1, hgc2, hG, hgp, hb⟩
  clear h hmx
  have HW := Lib.hid hb
  replace HY := Lib.hid (HY.out.kept hb)
  have HG := Lib.hid hG
  have HGP := Lib.hid hgp
  have hgl : g.length = 4 := hgp.1
  rw [hgl] at hgc1 HG ⊢
  have HGL := Lib.hid hgl
  clear hb hG hgp hgl
  go_wp2_with fail
  refine (makeTermB_any half_small a len cap 20 10 4 _ HY.out hl (by decide) (by decide) (by decide) (by decide) (by decide) (closed_gv (by decide))).mono ?_
  rintro e w2 ⟨p, pa, pc, rfl, hp, hgp, hnp, hb⟩
  replace HG := Lib.hid (HG.out.kept hb)
  replace HY := Lib.hid (HY.out.kept hb)
  replace HW := Lib.hid (belowOn HW.out (Nat.le_refl _) hb)
  have HAp := Lib.hid (at_args hp)
  have HPS : Hid (SmallG 7 p) := Lib.hid ⟨hgp.1, hgp.2, by have h3 : (p.nodes : Int) ≤ 7 := hnp; omega⟩
  clear hb hp hgp hnp
  go_upto_region 5 with (fail)
  have hal : Below w2.heap.size w2 (w2.alloc (.cells #[.int .i64 p.kind, .int .i64 p.num, .string p.name, .slice pa p.args.length pc] 27)) := belowAlloc (Below.refl _ _) _
  replace HG := Lib.hid (HG.out.kept hal)
  replace HY := Lib.hid (HY.out.kept hal)
  replace HAp := Lib.hid (HAp.out.read hal)
  replace HW := Lib.hid (belowOn HW.out (Nat.le_refl _) hal)
  have HXp := Lib.hid (at_box_of w2 #[.int .i64 p.kind, .int .i64 p.num, .string p.name, .slice pa p.args.length pc] 27 w2.heap.size rfl)
  clear hal
  generalize hwx : w2.alloc (.cells #[.int .i64 p.kind, .int .i64 p.num, .string p.name, .slice pa p.args.length pc] 27) = w3 at HG HY HAp HXp HW ⊢
  clear hwx
  generalize w2.heap.size = np at HXp ⊢
  obtain ⟨kp0, kp1, kp2, kp3⟩ := HXp.out.cells
  have zp := HXp.out.le
  go_wp2_with fail
  refine (makeAlikeQ_any (D := SmallG 3) half_small a len cap 60 p _ 4 _ HY.out hl (by decide) (by decide) (by decide) (closed_gv (by decide)) (fun y hy hn => ⟨hy.1, hy.2, by have h3 : (y.nodes : Int) ≤ 3 := hn; omega⟩) HPS.out.1 HAp.out.argsAt).mono ?_
  rintro e w4 ⟨q0, qa0, qc0, rfl, hq, hlq, hb⟩
  clear kp0 kp1 kp2 kp3 zp
  replace HG := Lib.hid (HG.out.kept hb)
  replace HY := Lib.hid (HY.out.kept hb)
  replace HAp := Lib.hid (HAp.out.read hb)
  replace HXp := Lib.hid (HXp.out.read hb)
  replace HW := Lib.hid (belowOn HW.out (Nat.le_refl _) hb)
  have HAq0 := Lib.hid (at_args hq)
  have HLQ0 := Lib.hid hlq
  clear hb hq hlq
  go_upto_region 6 with (fail)
  have hal : Below w4.heap.size w4 (w4.alloc (.cells #[.int .i64 q0.kind, .int .i64 q0.num, .string q0.name, .slice qa0 q0.args.length qc0] 27)) := belowAlloc (Below.refl _ _) _
  have HNPQ : Hid (np < w4.heap.size ∧ w.heap.size ≤ w4.heap.size) := Lib.hid ⟨HXp.out.le, HW.out.size⟩
  replace HG := Lib.hid (HG.out.lowB.kept hal)
  replace HY := Lib.hid (HY.out.kept hal)
  replace HAp := Lib.hid (HAp.out.argsAt.inS.kept hal)
  replace HXp := Lib.hid (HXp.out.read hal)
  replace HAq0 := Lib.hid (HAq0.out.read hal)
  replace HW := Lib.hid (belowOn HW.out (Nat.le_refl _) hal)
  have HXq0 := Lib.hid (at_box_of w4 #[.int .i64 q0.kind, .int .i64 q0.num, .string q0.name, .slice qa0 q0.args.length qc0] 27 w4.heap.size rfl)
  clear hal
  generalize hwx : w4.alloc (.cells #[.int .i64 q0.kind, .int .i64 q0.num, .string q0.name, .slice qa0 q0.args.length qc0] 27) = w5 at HG HY HAp HXp HAq0 HXq0 HW ⊢
  clear hwx
  generalize w4.heap.size = nq at HG HAp HXq0 HNPQ ⊢
  go_wp2_with fail
  refine (makeNum_any a len cap 90 _ HY.out hl (by decide)).mono ?_
  rintro e w6 ⟨⟨r0, rfl, r1, r2⟩, hb⟩
  replace HG := Lib.hid (HG.out.kept hb)
  replace HY := Lib.hid (HY.out.kept hb)
  replace HAp := Lib.hid (HAp.out.kept hb)
  replace HXp := Lib.hid (HXp.out.read hb)
  replace HAq0 := Lib.hid (HAq0.out.read hb)
  replace HXq0 := Lib.hid (HXq0.out.read hb)
  replace HW := Lib.hid (belowOn HW.out (Nat.le_refl _) hb)
  clear hb
  have hev := even_facts r1
  have HPAR : (r0 % 2 == 0) = true ∨ (r0 % 2 == 0) = false := by cases (r0 % 2 == 0) <;> simp
  rcases HPAR with hpar | hpar
  · go_upto_region 7 with (fail)
    clear hpar hev r1 r2 HAq0 HLQ0
    have hself : Below w6.heap.size w6 w6 := Below.refl _ _
    have hdrew : Below w6.heap.size w6 w6.drew := hself.drew
    have HCP : Hid (∀ W, Below w6.heap.size w6 W → W.cell? ⟨np, 0, none⟩ = some (.int .i64 p.kind) ∧ W.cell? ⟨np, 1, none⟩ = some (.int .i64 p.num) ∧ W.cell? ⟨np, 2, none⟩ = some (.string p.name) ∧ W.cell? ⟨np, 3, none⟩ = some (.slice pa p.args.length pc)) := Lib.hid fun W hW => (HXp.out.read hW).cells
    have HCQ : Hid (∀ W, Below w6.heap.size w6 W → W.heap[nq]? = some (Obj.cells #[.int .i64 q0.kind, .int .i64 q0.num, .string q0.name, .slice qa0 q0.args.length qc0] 27)) := Lib.hid fun W hW => (HXq0.out.read hW).now
    have HMS : Hid (∀ W, Below w6.heap.size w6 W → Calls Try.prog 17 #[.slice a len cap, .int .i64 92, .int .i64 0, .int .i64 4] W fun e W' => ∃ r : Nat, e = .returned (.int .i64 (r : Int)) ∧ r ≤ 4 ∧ (W'.cell? ⟨np, 0, none⟩ = some (.int .i64 p.kind) ∧ W'.cell? ⟨np, 1, none⟩ = some (.int .i64 p.num) ∧ W'.cell? ⟨np, 2, none⟩ = some (.string p.name) ∧ W'.cell? ⟨np, 3, none⟩ = some (.slice pa p.args.length pc)) ∧ Hid (Below w6.heap.size w6 W')) := Lib.hid fun W hW => by
      refine (makeSize_any a len cap 92 0 4 W (HY.out.kept hW) hl (by decide) (by decide) (by decide) (by decide)).mono ?_
      rintro e W' ⟨⟨r, rfl, h0, h1⟩, hb⟩
      have hB := belowOn hW (Nat.le_refl _) hb
      exact ⟨r.toNat, by rw [Int.toNat_of_nonneg h0], by omega, HCP.out W' hB, Lib.hid hB⟩
    have HMV : Hid (∀ (r : Nat) W, r ≤ 4 → Below w6.heap.size w6 W → Calls Try.prog 16 #[.agg #[.int .i64 p.kind, .int .i64 p.num, .string p.name, .slice pa p.args.length pc], .slice (some ⟨gb, 0, none⟩) r gc] W fun e W' => ∃ (t : Tm) (x : Option Addr) (c : Nat), e = .returned (.agg #[.int .i64 t.kind, .int .i64 t.num, .string t.name, .slice x t.args.length c]) ∧ W'.heap[nq]? = some (Obj.cells #[.int .i64 q0.kind, .int .i64 q0.num, .string q0.name, .slice qa0 q0.args.length qc0] 27) ∧ Hid (LikeT (SmallG 3) p t ∧ ArgsS W' (fun k => ¬ k = nq) (.slice x t.args.length c) t.args ∧ Below w6.heap.size w6 W')) := Lib.hid fun r W hr hW => by
      have hgt := HGP.out.take hr
      have hgg := ground_put hgt HPS.out.1
      have hL := ListS.part ((HG.out.kept hW).any) 0 r gc (Nat.zero_le _) (by rw [HGL.out]; exact hr)
      rw [Nat.zero_mul, Nat.add_zero, Nat.sub_zero, List.drop_zero] at hL
      have hlen : (g.take r).length = r := hgt.1
      refine (makeValue_any (g.take r) p _ _ W (by rw [hlen]; omega) hL (HAp.out.kept hW).at (by have h1 := good_sz HPS.out.1; have h2 := HPS.out.2.2; omega) HPS.out.1 (by have h1 := good_sz hgg.1; have h2 := hgg.2; have h3 := HPS.out.2.2; omega)).mono ?_
      rintro e W' ⟨x, c, rfl, hx, hb⟩
      have hB := belowOn hW (Nat.le_refl _) hb
      have hnw := (HXq0.out.read hW).le
      exact ⟨putT (g.take r) p, x, c, rfl, HCQ.out W' hB, Lib.hid ⟨ground_like hgt HPS.out.1, hx.sub (fun k hk => by omega), hB⟩⟩
    obtain ⟨kp0, kp1, kp2, kp3⟩ := HCP.out w6 hself
    obtain ⟨lp0, lp1, lp2, lp3⟩ := HCP.out w6.drew hdrew
    have hgz : ¬ gc = 0 := by omega
    have hgI : (0 : Int) ≤ (gc : Int) := by omega
    have hgz2 : ¬ (gc : Int) = 0 := by omega
    have HXP := Lib.hid HXp.out
    clear HXp HXq0
    go_region_with (first
      | (go_at_call 17; (with_reducible refine Calls.mono (HMS.out _ ?_) ?_); (first | exact hself | exact hdrew | exact hdrew.drew); rintro e wS ⟨r, rfl, hr4, ⟨m0, m1, m2, m3⟩, HBS⟩; have hrI : (r : Int) ≤ (gc : Int) := (by omega); have hrN : r ≤ gc := (by omega); have hr0 : (0 : Int) ≤ (r : Int) := (by omega))
      | (go_at_call 16; (with_reducible refine Calls.mono (HMV.out _ _ ?_ ?_) ?_); (assumption); (first | exact HBS.out | exact HBS.out.drew); rintro e wV ⟨t, xa, xc, rfl, hqq, HZ⟩; have HQN := Lib.hid hqq; obtain ⟨q0', q1', q2', q3', qf'⟩ := box_cells hqq; clear hqq))
    all_goals
      have HST := Lib.hid (store4 HQN.out (.int .i64 t.kind) (.int .i64 t.num) (.string t.name) (.slice xa t.args.length xc))
      generalize hwt : (((wV.setCell ⟨nq, 0, none⟩ (.int .i64 t.kind)).setCell ⟨nq, 1, none⟩ (.int .i64 t.num)).setCell ⟨nq, 2, none⟩ (.string t.name)).setCell ⟨nq, 3, none⟩ (.slice xa t.args.length xc) = wt at HST ⊢
      clear hwt
      have hnv := (Array.getElem?_eq_some_iff.1 HQN.out).1
      have hst := HST.out.2.size
      have HXq : Hid (At wt nq (nq + 1) (BoxP nq #[.int .i64 t.kind, .int .i64 t.num, .string t.name, .slice xa t.args.length xc] 27)) := Lib.hid ⟨HST.out.1, stays_box _ _ _, by omega⟩
      have HFR : Hid (∀ k, k < wV.heap.size → ¬ k = nq → wt.heap[k]? = wV.heap[k]?) := Lib.hid fun k hk hne => HST.out.2.block k hk fun h => hne (by have h1 := h.1; have h2 := h.2; omega)
      have HXp := Lib.hid ((HXP.out.read HZ.out.2.2).only HST.out.2 (.inl HNPQ.out.1))
      have HAp2 : Hid (ArgsAt wt (.slice pa p.args.length pc) p.args) := Lib.hid ((HAp.out.kept HZ.out.2.2).frame hst fun k hk hks => HFR.out k hks (by have h : k < nq := hk; omega)).at
      have HG2 : Hid (ListS bdE wt Any (.slice (some ⟨gb, 0, none⟩) 4 gc) g) := Lib.hid ((HG.out.kept HZ.out.2.2).frame hst fun k hk hks => HFR.out k hks (by have h : k < nq := hk; omega)).any
      have HAq : Hid (ArgsAt wt (.slice xa t.args.length xc) t.args) := Lib.hid (HZ.out.2.1.frame hst fun k hk hks => HFR.out k hks hk).at
      have HLQ := Lib.hid HZ.out.1
      have HW2 : Hid (Below w.heap.size w wt) := Lib.hid ((belowOn HW.out (Nat.le_refl _) HZ.out.2.2).trans (HST.out.2.below (fun k hk => by have h1 := hk.1; have h2 := HNPQ.out.2; omega) (belowOn HW.out (Nat.le_refl _) HZ.out.2.2).size))
      clear HST HQN HZ HFR hnv hst HXP HAp HG HW HY HCP HCQ HMS HMV HBS
      generalize t = q at HXq HAq HLQ ⊢
      generalize xa = qa at HXq HAq ⊢
      generalize xc = qc at HXq HAq ⊢
      have hgq := like_small HLQ.out HPS.out.1 HPS.out.2.1
      have HQG := Lib.hid hgq
      have hzp : p.sz ≤ 1048576 := by have h1 := good_sz HPS.out.1; have h2 := HPS.out.2.2; omega
      have hzq : q.sz ≤ 1048576 := by have h1 := good_sz HQG.out.1; have h2 := HQG.out.2.2; have h3 := HPS.out.2.2; omega
      clear hgq
      obtain ⟨kp0, kp1, kp2, kp3⟩ := HXp.out.cells
      have zp := HXp.out.le
      obtain ⟨kq0, kq1, kq2, kq3⟩ := HXq.out.cells
      have zq := HXq.out.le
      have HNO := Lib.hid (fun h => unifier_no HPS.out HLQ.out HGP.out h)
      have HYES := Lib.hid (fun h => unifier_yes HPS.out HLQ.out HGP.out h)
      have HC := Lib.hid (implUnify_e [] (.slice none 0 0) p _ q _ wt (.nil _ _) ⟨Nat.zero_le _, fun b hb => by simp at hb⟩ (fun b hb => by simp at hb) HAp2.out hzp HAq.out hzq)
      generalize unL [] p q = ul at HC HNO HYES
      generalize unB [] p q = ub at HC HNO HYES
      go_wp2_with fail
      refine HC.out.mono ?_
      rintro e w10 ⟨u, rfl, hu, hb⟩
      replace HXp := Lib.hid (HXp.out.read hb)
      replace HXq := Lib.hid (HXq.out.read hb)
      replace HAp2 := Lib.hid (HAp2.out.kept hb)
      replace HAq := Lib.hid (HAq.out.kept hb)
      replace HG2 := Lib.hid (HG2.out.kept hb)
      replace HW2 := Lib.hid (belowOn HW2.out (Nat.le_refl _) hb)
      have HU := Lib.hid hu.inS.any
      clear hu hb HC kp0 kp1 kp2 kp3 zp kq0 kq1 kq2 kq3 zq
      obtain ⟨ua, uc, rfl⟩ := HU.out.slice
      have hgl4 : g.length ≤ 1048576 := by have := HGP.out.1; omega
      have HP1 := Lib.hid (ground_put HGP.out HPS.out.1)
      have HP2 := Lib.hid (ground_put HGP.out HQG.out.1)
      have HZ1 : Hid ((putT g p).sz ≤ 1048576) := Lib.hid (by have h1 := good_sz HP1.out.1; have h2 := HP1.out.2; have h3 := HPS.out.2.2; omega)
      have HZ2 : Hid ((putT g q).sz ≤ 1048576) := Lib.hid (by have h1 := good_sz HP2.out.1; have h2 := HP2.out.2; have h3 := HQG.out.2.2; have h4 := HPS.out.2.2; omega)
      have hself : Below w10.heap.size w10 w10 := Below.refl _ _
      have hdrew : Below w10.heap.size w10 w10.drew := hself.drew
      have HTR : Hid (∀ a b, Below w10.heap.size w10 a → Below a.heap.size a b → Below w10.heap.size w10 b) := Lib.hid fun a b h1 h2 => belowOn h1 (Nat.le_refl _) h2
      have HCB : Hid (∀ W, Below w10.heap.size w10 W → (W.cell? ⟨np, 0, none⟩ = some (.int .i64 p.kind) ∧ W.cell? ⟨np, 1, none⟩ = some (.int .i64 p.num) ∧ W.cell? ⟨np, 2, none⟩ = some (.string p.name) ∧ W.cell? ⟨np, 3, none⟩ = some (.slice pa p.args.length pc)) ∧ W.cell? ⟨nq, 0, none⟩ = some (.int .i64 q.kind) ∧ W.cell? ⟨nq, 1, none⟩ = some (.int .i64 q.num) ∧ W.cell? ⟨nq, 2, none⟩ = some (.string q.name) ∧ W.cell? ⟨nq, 3, none⟩ = some (.slice qa q.args.length qc)) := Lib.hid fun W hW => ⟨(HXp.out.read hW).cells, (HXq.out.read hW).cells⟩
      have HM1 : Hid (∀ W, Below w10.heap.size w10 W → Calls Try.prog 16 #[.agg #[.int .i64 p.kind, .int .i64 p.num, .string p.name, .slice pa p.args.length pc], .slice (some ⟨gb, 0, none⟩) 4 gc] W (ValT (putT g p) W)) := Lib.hid fun W hW => makeValue_any g p _ _ W hgl4 (HG2.out.kept hW) (HAp2.out.kept hW) hzp HPS.out.1 HZ1.out
      have HM2 : Hid (∀ W, Below w10.heap.size w10 W → Calls Try.prog 16 #[.agg #[.int .i64 q.kind, .int .i64 q.num, .string q.name, .slice qa q.args.length qc], .slice (some ⟨gb, 0, none⟩) 4 gc] W (ValT (putT g q) W)) := Lib.hid fun W hW => makeValue_any g q _ _ W hgl4 (HG2.out.kept hW) (HAq.out.kept hW) hzq HQG.out.1 HZ2.out
      generalize putT g p = x at HM1 HP1 HZ1 HNO HYES
      generalize putT g q = y at HM2 HP2 HZ2 HNO HYES
      have HSM : Hid (∀ W (xa : Option Addr) (xc : Nat) (ya : Option Addr) (yc : Nat), ArgsAt W (.slice xa x.args.length xc) x.args → ArgsAt W (.slice ya y.args.length yc) y.args → Calls Try.prog 19 #[.agg #[.int .i64 x.kind, .int .i64 x.num, .string x.name, .slice xa x.args.length xc], .agg #[.int .i64 y.kind, .int .i64 y.num, .string y.name, .slice ya y.args.length yc]] W fun e w' => e = .returned (.bool (x.cmp y == 0)) ∧ Below W.heap.size W w') := Lib.hid fun W xa xc ya yc h1 h2 => same_any (x.nodes + 1) x y _ _ W (Nat.lt_succ_self _) h1 h2 HZ1.out HZ2.out HP1.out.1 HP2.out.1
      obtain ⟨⟨e0, e1, e2, e3⟩, f0, f1, f2, f3⟩ := HCB.out w10 hself
      go_upto_region 9 with (fail)
      go_region_held3 (fun w' => w'.cell? ⟨np, 0, none⟩ = some (.int .i64 p.kind) ∧ w'.cell? ⟨np, 1, none⟩ = some (.int .i64 p.num) ∧ w'.cell? ⟨np, 2, none⟩ = some (.string p.name) ∧ w'.cell? ⟨np, 3, none⟩ = some (.slice pa p.args.length pc) ∧ w'.cell? ⟨nq, 0, none⟩ = some (.int .i64 q.kind) ∧ w'.cell? ⟨nq, 1, none⟩ = some (.int .i64 q.num) ∧ w'.cell? ⟨nq, 2, none⟩ = some (.string q.name) ∧ w'.cell? ⟨nq, 3, none⟩ = some (.slice qa q.args.length qc)) (go_keep)
        (first
        | (go_at_call 16; (with_reducible refine Calls.mono (HM1.out _ ?_) ?_); (assumption); rintro e wX ⟨xa, xc, rfl, hxa, hb⟩; have HXA := Lib.hid hxa.at; have HXB := Lib.hid hb; have hB' := HTR.out _ _ (by assumption) hb; obtain ⟨⟨k0, k1, k2, k3⟩, l0, l1, l2, l3⟩ := HCB.out _ hB'; clear hxa hb)
        | (go_at_call 16; (with_reducible refine Calls.mono (HM2.out _ ?_) ?_); (assumption); rintro e wY ⟨ya, yc, rfl, hya, hb⟩; have HYA := Lib.hid hya.at; have HYB := Lib.hid hb; have hB' := HTR.out _ _ (by assumption) hb; obtain ⟨⟨k0, k1, k2, k3⟩, l0, l1, l2, l3⟩ := HCB.out _ hB'; clear hya hb)
        | (go_at_call 19; (with_reducible refine Calls.mono (HSM.out _ _ _ _ _ ?_ ?_) ?_); (first | exact HXA.out | exact HXA.out.kept HYB.out); (first | exact HYA.out | exact HYA.out.kept HXB.out); rintro e wZ ⟨rfl, hb⟩; have hB' := HTR.out _ _ (by assumption) hb; have HZB := Lib.hid hB'; obtain ⟨⟨k0, k1, k2, k3⟩, l0, l1, l2, l3⟩ := HCB.out _ hB'; clear hb))
      all_goals
        replace HXp := Lib.hid (HXp.out.read HZB.out)
        replace HXq := Lib.hid (HXq.out.read HZB.out)
        replace HAp2 := Lib.hid (HAp2.out.kept HZB.out)
        replace HAq := Lib.hid (HAq.out.kept HZB.out)
        replace HG2 := Lib.hid (HG2.out.kept HZB.out)
        replace HU := Lib.hid (HU.out.kept HZB.out)
        replace HW2 := Lib.hid (belowOn HW2.out (Nat.le_refl _) HZB.out)
        clear HM1 HM2 HSM HCB HTR hself hdrew HP1 HP2 HZ1 HZ2
        generalize (x.cmp y == 0) = c at HNO HYES ⊢
        cases ub with
        | false =>
          obtain ⟨rfl, rfl⟩ := HNO.out (by trivial)
          have hl0 : (((([] : List Bd).length : Nat) : Int) == 0) = true := rfl
          have hl1 : (((0 : Nat) : Int) == 0) = true := rfl
          go_wp2
          go_ret
          exact ⟨rfl, HW2.out⟩
        | true =>
          obtain ⟨hu1, hu2, hu3⟩ := HYES.out (by trivial)
          have HUP := Lib.hid hu1
          have HIU := Lib.hid hu2
          have HHO := Lib.hid hu3
          have hI := implSubstOk_e ul _ _ HU.out hu1.each (subst_wf hu1)
          rw [substB_true.2 hu1] at hI
          have HC := Lib.hid hI
          clear hI hu1 hu2 hu3
          go_wp2_with fail
          refine HC.out.mono ?_
          rintro e w14 ⟨rfl, hb⟩
          replace HXp := Lib.hid (HXp.out.read hb)
          replace HXq := Lib.hid (HXq.out.read hb)
          replace HAp2 := Lib.hid (HAp2.out.kept hb)
          replace HAq := Lib.hid (HAq.out.kept hb)
          replace HG2 := Lib.hid (HG2.out.kept hb)
          replace HU := Lib.hid (HU.out.kept hb)
          replace HW2 := Lib.hid (belowOn HW2.out (Nat.le_refl _) hb)
          clear hb HC
          have hI := implIsUnifier_e ul _ p _ q _ w14 HU.out HUP.out.each (subst_wf HUP.out) HAp2.out hzp HAq.out hzq
          rw [HIU.out] at hI
          have HC := Lib.hid hI
          clear hI
          obtain ⟨kp0, kp1, kp2, kp3⟩ := HXp.out.cells
          have zp := HXp.out.le
          obtain ⟨kq0, kq1, kq2, kq3⟩ := HXq.out.cells
          have zq := HXq.out.le
          go_wp2_with fail
          refine HC.out.mono ?_
          rintro e w15 ⟨rfl, hb⟩
          replace HG2 := Lib.hid (HG2.out.kept hb)
          replace HU := Lib.hid (HU.out.kept hb)
          replace HW2 := Lib.hid (belowOn HW2.out (Nat.le_refl _) hb)
          clear hb HC kp0 kp1 kp2 kp3 zp kq0 kq1 kq2 kq3 zq HXp HXq
          have hI := holds_any 4 g ul _ _ w15 HU.out HG2.out HGP.out (by decide) HUP.out
          rw [HHO.out] at hI
          have HC := Lib.hid hI
          clear hI
          go_wp2_with fail
          refine HC.out.mono ?_
          rintro e w16 ⟨rfl, hb⟩
          replace HW2 := Lib.hid (belowOn HW2.out (Nat.le_refl _) hb)
          clear hb HC
          have hcc : (c == c) = true := beq_self_eq_true c
          go_wp2
          go_ret
          exact ⟨by first | rfl | (rw [hcc]) | simp, HW2.out⟩
  · have HXq := HXq0
    have HAq : Hid (ArgsAt w6 (.slice qa0 q0.args.length qc0) q0.args) := Lib.hid HAq0.out.argsAt
    have HAp2 : Hid (ArgsAt w6 (.slice pa p.args.length pc) p.args) := Lib.hid HAp.out.at
    have HG2 : Hid (ListS bdE w6 Any (.slice (some ⟨gb, 0, none⟩) 4 gc) g) := Lib.hid HG.out.any
    have HLQ := HLQ0
    have HW2 := HW
    clear HXq0 HAq0 HAp HG HLQ0 HW HY
    generalize w6 = wt at HXp HXq HAp2 HAq HG2 HW2 ⊢
    generalize q0 = q at HXq HAq HLQ ⊢
    generalize qa0 = qa at HXq HAq ⊢
    generalize qc0 = qc at HXq HAq ⊢
    go_upto_region 8 with (fail)
    clear hpar hev r1 r2
    have hgq := like_small HLQ.out HPS.out.1 HPS.out.2.1
    have HQG := Lib.hid hgq
    have hzp : p.sz ≤ 1048576 := by have h1 := good_sz HPS.out.1; have h2 := HPS.out.2.2; omega
    have hzq : q.sz ≤ 1048576 := by have h1 := good_sz HQG.out.1; have h2 := HQG.out.2.2; have h3 := HPS.out.2.2; omega
    clear hgq
    obtain ⟨kp0, kp1, kp2, kp3⟩ := HXp.out.cells
    have zp := HXp.out.le
    obtain ⟨kq0, kq1, kq2, kq3⟩ := HXq.out.cells
    have zq := HXq.out.le
    have HNO := Lib.hid (fun h => unifier_no HPS.out HLQ.out HGP.out h)
    have HYES := Lib.hid (fun h => unifier_yes HPS.out HLQ.out HGP.out h)
    have HC := Lib.hid (implUnify_e [] (.slice none 0 0) p _ q _ wt (.nil _ _) ⟨Nat.zero_le _, fun b hb => by simp at hb⟩ (fun b hb => by simp at hb) HAp2.out hzp HAq.out hzq)
    generalize unL [] p q = ul at HC HNO HYES
    generalize unB [] p q = ub at HC HNO HYES
    go_wp2_with fail
    refine HC.out.mono ?_
    rintro e w10 ⟨u, rfl, hu, hb⟩
    replace HXp := Lib.hid (HXp.out.read hb)
    replace HXq := Lib.hid (HXq.out.read hb)
    replace HAp2 := Lib.hid (HAp2.out.kept hb)
    replace HAq := Lib.hid (HAq.out.kept hb)
    replace HG2 := Lib.hid (HG2.out.kept hb)
    replace HW2 := Lib.hid (belowOn HW2.out (Nat.le_refl _) hb)
    have HU := Lib.hid hu.inS.any
    clear hu hb HC kp0 kp1 kp2 kp3 zp kq0 kq1 kq2 kq3 zq
    obtain ⟨ua, uc, rfl⟩ := HU.out.slice
    have hgl4 : g.length ≤ 1048576 := by have := HGP.out.1; omega
    have HP1 := Lib.hid (ground_put HGP.out HPS.out.1)
    have HP2 := Lib.hid (ground_put HGP.out HQG.out.1)
    have HZ1 : Hid ((putT g p).sz ≤ 1048576) := Lib.hid (by have h1 := good_sz HP1.out.1; have h2 := HP1.out.2; have h3 := HPS.out.2.2; omega)
    have HZ2 : Hid ((putT g q).sz ≤ 1048576) := Lib.hid (by have h1 := good_sz HP2.out.1; have h2 := HP2.out.2; have h3 := HQG.out.2.2; have h4 := HPS.out.2.2; omega)
    have hself : Below w10.heap.size w10 w10 := Below.refl _ _
    have hdrew : Below w10.heap.size w10 w10.drew := hself.drew
    have HTR : Hid (∀ a b, Below w10.heap.size w10 a → Below a.heap.size a b → Below w10.heap.size w10 b) := Lib.hid fun a b h1 h2 => belowOn h1 (Nat.le_refl _) h2
    have HCB : Hid (∀ W, Below w10.heap.size w10 W → (W.cell? ⟨np, 0, none⟩ = some (.int .i64 p.kind) ∧ W.cell? ⟨np, 1, none⟩ = some (.int .i64 p.num) ∧ W.cell? ⟨np, 2, none⟩ = some (.string p.name) ∧ W.cell? ⟨np, 3, none⟩ = some (.slice pa p.args.length pc)) ∧ W.cell? ⟨nq, 0, none⟩ = some (.int .i64 q.kind) ∧ W.cell? ⟨nq, 1, none⟩ = some (.int .i64 q.num) ∧ W.cell? ⟨nq, 2, none⟩ = some (.string q.name) ∧ W.cell? ⟨nq, 3, none⟩ = some (.slice qa q.args.length qc)) := Lib.hid fun W hW => ⟨(HXp.out.read hW).cells, (HXq.out.read hW).cells⟩
    have HM1 : Hid (∀ W, Below w10.heap.size w10 W → Calls Try.prog 16 #[.agg #[.int .i64 p.kind, .int .i64 p.num, .string p.name, .slice pa p.args.length pc], .slice (some ⟨gb, 0, none⟩) 4 gc] W (ValT (putT g p) W)) := Lib.hid fun W hW => makeValue_any g p _ _ W hgl4 (HG2.out.kept hW) (HAp2.out.kept hW) hzp HPS.out.1 HZ1.out
    have HM2 : Hid (∀ W, Below w10.heap.size w10 W → Calls Try.prog 16 #[.agg #[.int .i64 q.kind, .int .i64 q.num, .string q.name, .slice qa q.args.length qc], .slice (some ⟨gb, 0, none⟩) 4 gc] W (ValT (putT g q) W)) := Lib.hid fun W hW => makeValue_any g q _ _ W hgl4 (HG2.out.kept hW) (HAq.out.kept hW) hzq HQG.out.1 HZ2.out
    generalize putT g p = x at HM1 HP1 HZ1 HNO HYES
    generalize putT g q = y at HM2 HP2 HZ2 HNO HYES
    have HSM : Hid (∀ W (xa : Option Addr) (xc : Nat) (ya : Option Addr) (yc : Nat), ArgsAt W (.slice xa x.args.length xc) x.args → ArgsAt W (.slice ya y.args.length yc) y.args → Calls Try.prog 19 #[.agg #[.int .i64 x.kind, .int .i64 x.num, .string x.name, .slice xa x.args.length xc], .agg #[.int .i64 y.kind, .int .i64 y.num, .string y.name, .slice ya y.args.length yc]] W fun e w' => e = .returned (.bool (x.cmp y == 0)) ∧ Below W.heap.size W w') := Lib.hid fun W xa xc ya yc h1 h2 => same_any (x.nodes + 1) x y _ _ W (Nat.lt_succ_self _) h1 h2 HZ1.out HZ2.out HP1.out.1 HP2.out.1
    obtain ⟨⟨e0, e1, e2, e3⟩, f0, f1, f2, f3⟩ := HCB.out w10 hself
    go_upto_region 9 with (fail)
    go_region_held3 (fun w' => w'.cell? ⟨np, 0, none⟩ = some (.int .i64 p.kind) ∧ w'.cell? ⟨np, 1, none⟩ = some (.int .i64 p.num) ∧ w'.cell? ⟨np, 2, none⟩ = some (.string p.name) ∧ w'.cell? ⟨np, 3, none⟩ = some (.slice pa p.args.length pc) ∧ w'.cell? ⟨nq, 0, none⟩ = some (.int .i64 q.kind) ∧ w'.cell? ⟨nq, 1, none⟩ = some (.int .i64 q.num) ∧ w'.cell? ⟨nq, 2, none⟩ = some (.string q.name) ∧ w'.cell? ⟨nq, 3, none⟩ = some (.slice qa q.args.length qc)) (go_keep)
      (first
      | (go_at_call 16; (with_reducible refine Calls.mono (HM1.out _ ?_) ?_); (assumption); rintro e wX ⟨xa, xc, rfl, hxa, hb⟩; have HXA := Lib.hid hxa.at; have HXB := Lib.hid hb; have hB' := HTR.out _ _ (by assumption) hb; obtain ⟨⟨k0, k1, k2, k3⟩, l0, l1, l2, l3⟩ := HCB.out _ hB'; clear hxa hb)
      | (go_at_call 16; (with_reducible refine Calls.mono (HM2.out _ ?_) ?_); (assumption); rintro e wY ⟨ya, yc, rfl, hya, hb⟩; have HYA := Lib.hid hya.at; have HYB := Lib.hid hb; have hB' := HTR.out _ _ (by assumption) hb; obtain ⟨⟨k0, k1, k2, k3⟩, l0, l1, l2, l3⟩ := HCB.out _ hB'; clear hya hb)
      | (go_at_call 19; (with_reducible refine Calls.mono (HSM.out _ _ _ _ _ ?_ ?_) ?_); (first | exact HXA.out | exact HXA.out.kept HYB.out); (first | exact HYA.out | exact HYA.out.kept HXB.out); rintro e wZ ⟨rfl, hb⟩; have hB' := HTR.out _ _ (by assumption) hb; have HZB := Lib.hid hB'; obtain ⟨⟨k0, k1, k2, k3⟩, l0, l1, l2, l3⟩ := HCB.out _ hB'; clear hb))
    all_goals
      replace HXp := Lib.hid (HXp.out.read HZB.out)
      replace HXq := Lib.hid (HXq.out.read HZB.out)
      replace HAp2 := Lib.hid (HAp2.out.kept HZB.out)
      replace HAq := Lib.hid (HAq.out.kept HZB.out)
      replace HG2 := Lib.hid (HG2.out.kept HZB.out)
      replace HU := Lib.hid (HU.out.kept HZB.out)
      replace HW2 := Lib.hid (belowOn HW2.out (Nat.le_refl _) HZB.out)
      clear HM1 HM2 HSM HCB HTR hself hdrew HP1 HP2 HZ1 HZ2
      generalize (x.cmp y == 0) = c at HNO HYES ⊢
      cases ub with
      | false =>
        obtain ⟨rfl, rfl⟩ := HNO.out (by trivial)
        have hl0 : (((([] : List Bd).length : Nat) : Int) == 0) = true := rfl
        have hl1 : (((0 : Nat) : Int) == 0) = true := rfl
        go_wp2
        go_ret
        exact ⟨rfl, HW2.out⟩
      | true =>
        obtain ⟨hu1, hu2, hu3⟩ := HYES.out (by trivial)
        have HUP := Lib.hid hu1
        have HIU := Lib.hid hu2
        have HHO := Lib.hid hu3
        have hI := implSubstOk_e ul _ _ HU.out hu1.each (subst_wf hu1)
        rw [substB_true.2 hu1] at hI
        have HC := Lib.hid hI
        clear hI hu1 hu2 hu3
        go_wp2_with fail
        refine HC.out.mono ?_
        rintro e w14 ⟨rfl, hb⟩
        replace HXp := Lib.hid (HXp.out.read hb)
        replace HXq := Lib.hid (HXq.out.read hb)
        replace HAp2 := Lib.hid (HAp2.out.kept hb)
        replace HAq := Lib.hid (HAq.out.kept hb)
        replace HG2 := Lib.hid (HG2.out.kept hb)
        replace HU := Lib.hid (HU.out.kept hb)
        replace HW2 := Lib.hid (belowOn HW2.out (Nat.le_refl _) hb)
        clear hb HC
        have hI := implIsUnifier_e ul _ p _ q _ w14 HU.out HUP.out.each (subst_wf HUP.out) HAp2.out hzp HAq.out hzq
        rw [HIU.out] at hI
        have HC := Lib.hid hI
        clear hI
        obtain ⟨kp0, kp1, kp2, kp3⟩ := HXp.out.cells
        have zp := HXp.out.le
        obtain ⟨kq0, kq1, kq2, kq3⟩ := HXq.out.cells
        have zq := HXq.out.le
        go_wp2_with fail
        refine HC.out.mono ?_
        rintro e w15 ⟨rfl, hb⟩
        replace HG2 := Lib.hid (HG2.out.kept hb)
        replace HU := Lib.hid (HU.out.kept hb)
        replace HW2 := Lib.hid (belowOn HW2.out (Nat.le_refl _) hb)
        clear hb HC kp0 kp1 kp2 kp3 zp kq0 kq1 kq2 kq3 zq HXp HXq
        have hI := holds_any 4 g ul _ _ w15 HU.out HG2.out HGP.out (by decide) HUP.out
        rw [HHO.out] at hI
        have HC := Lib.hid hI
        clear hI
        go_wp2_with fail
        refine HC.out.mono ?_
        rintro e w16 ⟨rfl, hb⟩
        replace HW2 := Lib.hid (belowOn HW2.out (Nat.le_refl _) hb)
        clear hb HC
        have hcc : (c == c) = true := beq_self_eq_true c
        go_wp2
        go_ret
        exact ⟨by first | rfl | (rw [hcc]) | simp, HW2.out⟩
end Go.Proofs.Ytbbgiefnmihmdaa
