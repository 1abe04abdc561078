/-
  The model's l05Unify: two terms unified under a substitution.
-/
import Derived.Test.YtealiilcnmdmdaaGreatSpecBind
namespace Go.Proofs.YtealiilcnmdmdaaGreat
open Go.RowKit
set_option linter.unusedVariables false
set_option linter.unusedSimpArgs false

/-- What the model's l05Unify answers. -/
def UniP (s : List Bd) (a b : Tm) : Prop := ∀ (Vs Va Vb : Value) (w : World), ListS bdE w Any Vs s → ArgsAt w Va a.args → ArgsAt w Vb b.args →
  Calls Tryz.prog 70 #[Vs, .agg #[.int .i64 a.kind, .int .i64 a.num, .string a.name, Va], .agg #[.int .i64 b.kind, .int .i64 b.num, .string b.name, Vb]] w (OldB2 (muL s [(a, b)]) (muB s [(a, b)]) w)
theorem pair_ok {a b : Tm} (ha : Ok a) (hb : Ok b) : OkE [(a, b)] := fun e he => by
  rw [List.mem_singleton] at he; subst he; exact ⟨ha, hb⟩
theorem mu_walk {s : List Bd} {a b : Tm} (hs : SubstP s) (ha : Ok a) (hb : Ok b) : muL s [(a, b)] = muL s [(walkT s a, walkT s b)] ∧ muB s [(a, b)] = muB s [(walkT s a, walkT s b)] :=
  mu_congr hs (pair_ok ha hb) fun f hf => (walk_eqn hf ha.2 hb.2).symm
theorem mu_swap {s : List Bd} {a b : Tm} (hs : SubstP s) (ha : Ok a) (hb : Ok b) : muL s [(a, b)] = muL s [(b, a)] ∧ muB s [(a, b)] = muB s [(b, a)] :=
  mu_congr hs (pair_ok ha hb) fun f _ => swap_eqn
theorem mu_same {s : List Bd} {a : Tm} (hs : SubstP s) : muL s [(a, a)] = s ∧ muB s [(a, a)] = true := mu_yes (mgu_refl hs fun f _ => sol_one.2 rfl)
theorem good_len {p q : Tm} (hp : Good p) (hq : Good q) (h : p.kind = q.kind) : p.args.length = q.args.length := by
  by_cases h4 : p.kind = 4
  · obtain ⟨x, y, rfl, _, _⟩ := good_pair hp h4
    obtain ⟨z, r, rfl, _, _⟩ := good_pair hq (by rw [← h]; exact h4)
    rfl
  · rw [good_leaf hp h4, good_leaf hq (by rw [← h]; exact h4)]
theorem arg_ok {p x : Tm} (hp : Ok p) (hx : x ∈ p.args) : Ok x := by
  by_cases h4 : p.kind = 4
  · obtain ⟨y, z, rfl, _, _⟩ := good_pair hp.2 h4
    obtain ⟨h1, h2⟩ := ok_two hp
    rcases (by simpa [Tm.args] using hx : x = y ∨ x = z) with rfl | rfl
    · exact h1
    · exact h2
  · rw [good_leaf hp.2 h4] at hx; cases hx
theorem arg_less {s : List Bd} {p x : Tm} (hp : Good p) (hx : x ∈ p.args) : (putT s x).nodes < (putT s p).nodes := by
  by_cases h4 : p.kind = 4
  · obtain ⟨y, z, rfl, _, _⟩ := good_pair hp h4
    rw [putT_two (t := .mk 4 0 ⟨#[]⟩ [y, z]) rfl rfl]
    have e : (Tm.mk 4 0 ⟨#[]⟩ [putT s y, putT s z]).nodes = 1 + nodesL [putT s y, putT s z] := by rw [nodes_eq]; rfl
    rw [e]
    simp only [nodesL]
    rcases (by simpa [Tm.args] using hx : x = y ∨ x = z) with rfl | rfl <;> omega
  · rw [good_leaf hp h4] at hx; cases hx
theorem mgu_next {s u : List Bd} {l m : List Tm} {k : Nat} {x y : Tm} (hx : l[k]? = some x) (hy : m[k]? = some y) (hu : Mgu s ((l.take k).zip (m.take k)) u) (hl : u = s ∨ s.length < u.length) (ox : Ok x) (oy : Ok y) (h : muB u [(x, y)] = true) :
    Mgu s ((l.take (k + 1)).zip (m.take (k + 1))) (muL u [(x, y)]) ∧ (muL u [(x, y)] = s ∨ s.length < (muL u [(x, y)]).length) := by
  rcases mgu_or _ _ u x y hu.ok ox oy (Nat.le_refl _) (Nat.le_refl _) with ⟨v, hv, hvl⟩ | hno
  · rw [(mu_yes hv).1, zip_take hx hy]
    refine ⟨mgu_trans hu hv, ?_⟩
    rcases hvl with rfl | hvl
    · exact hl
    · rcases hl with rfl | hl
      · exact .inr hvl
      · exact .inr (by omega)
  · rw [(mu_no hno).2] at h; cases h
theorem nou_next {s u : List Bd} {l m : List Tm} {k : Nat} {x y : Tm} (hx : l[k]? = some x) (hy : m[k]? = some y) (hu : Mgu s ((l.take k).zip (m.take k)) u) (ox : Ok x) (oy : Ok y) (h : muB u [(x, y)] = false) : NoU s (l.zip m) := by
  have h1 : NoU s ((l.take (k + 1)).zip (m.take (k + 1))) := by
    rw [zip_take hx hy]
    exact nou_right hu (mu_false hu.ok (pair_ok ox oy) h)
  have e : l.zip m = (l.take (k + 1)).zip (m.take (k + 1)) ++ (l.drop (k + 1)).zip (m.drop (k + 1)) := by
    have hl := (List.getElem?_eq_some_iff.1 hx).1
    have hm := (List.getElem?_eq_some_iff.1 hy).1
    rw [← List.zip_append (by rw [List.length_take, List.length_take]; omega), List.take_append_drop, List.take_append_drop]
  rw [e]
  exact nou_left h1
theorem mu_args {s u : List Bd} {p q : Tm} (hk : ¬ p.kind = 1) (he : p.kind = q.kind ∧ p.num = q.num ∧ p.name = q.name) (hl : p.args.length = q.args.length) (hu : Mgu s (p.args.zip q.args) u) : muL s [(p, q)] = u ∧ muB s [(p, q)] = true :=
  mu_yes (mgu_congr (fun f _ => args_eqn hk he hl) hu)
theorem no_args {s : List Bd} {p q : Tm} (hk : ¬ p.kind = 1) (he : p.kind = q.kind ∧ p.num = q.num ∧ p.name = q.name) (hl : p.args.length = q.args.length) (hn : NoU s (p.args.zip q.args)) : muL s [(p, q)] = [] ∧ muB s [(p, q)] = false :=
  mu_no (nou_congr (fun f _ => args_eqn hk he hl) hn)

set_option maxRecDepth 100000 in
set_option maxHeartbeats 4000000 in
theorem uni_step (s : List Bd) (a b : Tm) (hs : SubstP s) (ha : Ok a) (hb : Ok b) (IH : ∀ u x y, SubstP u → Ok x → Ok y → (s.length < u.length ∨ u = s ∧ (putT s x).nodes < (putT s a).nodes) → UniP u x y) : UniP s a b := by
  intro Vs Va Vb w hA hP hQ
  obtain ⟨sa, sc, rfl⟩ := hA.slice
  obtain ⟨aa, ac, rfl⟩ := hP.slice
  obtain ⟨ba, bc, rfl⟩ := hQ.slice
  have hl4 : s.length ≤ 400 := hs.1.2.2
  have hL : s.length ≤ 1048576 := by omega
  have HWK := Lib.hid (mu_walk hs ha hb)
  generalize muL s [(a, b)] = ul at HWK ⊢
  generalize muB s [(a, b)] = ub at HWK ⊢
  have HOP := Lib.hid (walk_ok hs ha)
  have HOQ := Lib.hid (walk_ok hs hb)
  have HFP := Lib.hid (fun h => walk_free hs (t := a) h)
  have HFQ := Lib.hid (fun h => walk_free hs (t := b) h)
  have HPW := Lib.hid (put_walk hs a)
  have HS := Lib.hid hs
  have HIH := Lib.hid IH
  have hal1 : Below w.heap.size w (w.alloc (.cells #[.int .i64 a.kind, .int .i64 a.num, .string a.name, .slice aa a.args.length ac] 27)) := belowAlloc (Below.refl _ _) _
  have HX := Lib.hid (at_box_of w #[.int .i64 a.kind, .int .i64 a.num, .string a.name, .slice aa a.args.length ac] 27 w.heap.size rfl)
  have HR := Lib.hid (at_box_of (w.alloc (.cells #[.int .i64 a.kind, .int .i64 a.num, .string a.name, .slice aa a.args.length ac] 27)) #[.int .i64 b.kind, .int .i64 b.num, .string b.name, .slice ba b.args.length bc] 27 (w.heap.size + 1) (by simp))
  replace HX := Lib.hid (HX.out.read (belowAlloc (Below.refl _ _) (.cells #[.int .i64 b.kind, .int .i64 b.num, .string b.name, .slice ba b.args.length bc] 27)))
  have HW := Lib.hid (belowAlloc hal1 (.cells #[.int .i64 b.kind, .int .i64 b.num, .string b.name, .slice ba b.args.length bc] 27))
  have HLS : Hid (ListS bdE w (fun k => k < w.heap.size) (.slice sa s.length sc) s) := Lib.hid hA.lowB
  have HA := Lib.hid hP.inS
  have HB := Lib.hid hQ.inS
  have HC := Lib.hid (specWalk5_any s a _ _ (fun k => k < w.heap.size) _ hL (hA.lowB.kept HW.out) (hP.inS.kept HW.out) (fun k hk => Nat.lt_of_lt_of_le hk HW.out.size))
  clear hal1 hA hP hQ hs ha hb IH
  generalize walkT s a = p at HC HWK HOP HFP HPW
  go_enter Tryz.func70, Tryz.ntmps70
  go_upto_region 1 with (fail)
  generalize hw0 : (w.alloc (.cells #[.int .i64 a.kind, .int .i64 a.num, .string a.name, .slice aa a.args.length ac] 27)).alloc (.cells #[.int .i64 b.kind, .int .i64 b.num, .string b.name, .slice ba b.args.length bc] 27) = w0 at HX HR HW HC ⊢
  clear hw0
  obtain ⟨c0, c1, c2, c3⟩ := HX.out.cells
  have z0 := HX.out.le
  go_wp2_with fail
  refine HC.out.mono ?_
  rintro e w1 ⟨u, rfl, hu, hb⟩
  obtain ⟨pa, pc, rfl⟩ := hu.at.slice
  have HU := Lib.hid hu
  have HX1 := Lib.hid (HX.out.read hb)
  have HR1 := Lib.hid (HR.out.read hb)
  have HW1 := Lib.hid (belowOn HW.out (Nat.le_refl _) hb)
  clear hu hb HC HX HR HW c0 c1 c2 c3 z0
  obtain ⟨c0, c1, c2, c3, cf⟩ := box_cells HX1.out.now
  have z0 := HX1.out.le
  go_upto_region 2 with (fail)
  have HST := Lib.hid (store4 HX1.out.now (.int .i64 p.kind) (.int .i64 p.num) (.string p.name) (.slice pa p.args.length pc))
  generalize hw2 : (((w1.setCell ⟨w.heap.size, 0, none⟩ (.int .i64 p.kind)).setCell ⟨w.heap.size, 1, none⟩ (.int .i64 p.num)).setCell ⟨w.heap.size, 2, none⟩ (.string p.name)).setCell ⟨w.heap.size, 3, none⟩ (.slice pa p.args.length pc) = w2 at HST ⊢
  clear hw2 c0 c1 c2 c3 cf z0
  have HX2 : Hid (At w2 w.heap.size (w.heap.size + 1) (BoxP w.heap.size #[.int .i64 p.kind, .int .i64 p.num, .string p.name, .slice pa p.args.length pc] 27)) := Lib.hid ⟨HST.out.1, stays_box _ _ _, by have h1 := HX1.out.le; have h2 := HST.out.2.size; omega⟩
  have HR2 := Lib.hid (HR1.out.only HST.out.2 (.inr (Nat.le_refl _)))
  have HW2 := Lib.hid (HW1.out.trans (HST.out.2.below (fun k hk => by have := hk.1; omega) HW1.out.size))
  have HU2 := Lib.hid (HU.out.frame HST.out.2.size fun k hk hks => HST.out.2.block k hks fun h => by have h1 := h.1; have h2 : k < w.heap.size := hk; omega)
  clear HST HX1 HR1 HW1 HU
  have HC := Lib.hid (specWalk5_any s b _ _ (fun k => k < w.heap.size) _ hL (HLS.out.kept HW2.out) (HB.out.kept HW2.out) (fun k hk => Nat.lt_of_lt_of_le hk HW2.out.size))
  generalize walkT s b = q at HC HWK HOQ HFQ
  obtain ⟨c0, c1, c2, c3⟩ := HR2.out.cells
  have z0 := HR2.out.le
  go_wp2_with fail
  refine HC.out.mono ?_
  rintro e w3 ⟨u, rfl, hu, hb⟩
  obtain ⟨qa, qc, rfl⟩ := hu.at.slice
  have HV3 := Lib.hid hu
  have HU3 := Lib.hid (HU2.out.kept hb)
  have HX3 := Lib.hid (HX2.out.read hb)
  have HR3 := Lib.hid (HR2.out.read hb)
  have HW3 := Lib.hid (belowOn HW2.out (Nat.le_refl _) hb)
  clear hu hb HC HX2 HR2 HW2 HU2 c0 c1 c2 c3 z0
  obtain ⟨c0, c1, c2, c3, cf⟩ := box_cells HR3.out.now
  have z0 := HR3.out.le
  go_upto_region 3 with (fail)
  have HST := Lib.hid (store4 HR3.out.now (.int .i64 q.kind) (.int .i64 q.num) (.string q.name) (.slice qa q.args.length qc))
  generalize hw4 : (((w3.setCell ⟨w.heap.size + 1, 0, none⟩ (.int .i64 q.kind)).setCell ⟨w.heap.size + 1, 1, none⟩ (.int .i64 q.num)).setCell ⟨w.heap.size + 1, 2, none⟩ (.string q.name)).setCell ⟨w.heap.size + 1, 3, none⟩ (.slice qa q.args.length qc) = w4 at HST ⊢
  clear hw4 c0 c1 c2 c3 cf z0
  have HY : Hid (At w4 (w.heap.size + 1) (w.heap.size + 1 + 1) (BoxP (w.heap.size + 1) #[.int .i64 q.kind, .int .i64 q.num, .string q.name, .slice qa q.args.length qc] 27)) := Lib.hid ⟨HST.out.1, stays_box _ _ _, by have h1 := HR3.out.le; have h2 := HST.out.2.size; omega⟩
  have HX := Lib.hid (HX3.out.only HST.out.2 (.inl (Nat.le_refl _)))
  have HW := Lib.hid (HW3.out.trans (HST.out.2.below (fun k hk => by have := hk.1; omega) HW3.out.size))
  have HP : Hid (ArgsAt w4 (.slice pa p.args.length pc) p.args) := Lib.hid (HU3.out.frame HST.out.2.size fun k hk hks => HST.out.2.block k hks fun h => by have h1 := h.1; have h2 : k < w.heap.size := hk; omega).at
  have HQ : Hid (ArgsAt w4 (.slice qa q.args.length qc) q.args) := Lib.hid (HV3.out.frame HST.out.2.size fun k hk hks => HST.out.2.block k hks fun h => by have h1 := h.1; have h2 : k < w.heap.size := hk; omega).at
  have HLW : Hid (ListS bdE w4 Any (.slice sa s.length sc) s) := Lib.hid (HLS.out.kept HW.out).any
  clear HST HX3 HR3 HW3 HU3 HV3 HLS HA HB
  generalize w.heap.size + 1 = bq at HY ⊢
  generalize hbp : w.heap.size = bp at HX HW ⊢
  obtain ⟨c0, c1, c2, c3⟩ := HX.out.cells
  have z0 := HX.out.le
  obtain ⟨k0, k1, k2, k3⟩ := HY.out.cells
  have z1 := HY.out.le
  by_cases hp : p.kind = 1
  · have dp : (p.kind == 1) = true := by rw [hp]; rfl
    have HVP := Lib.hid (var_is HOP.out.2 hp)
    have HRP := Lib.hid (vrange HOP.out.2 hp)
    have HGP := Lib.hid (HFP.out hp)
    by_cases hq : q.kind = 1
    · have dq : (q.kind == 1) = true := by rw [hq]; rfl
      have HVQ := Lib.hid (var_is HOQ.out.2 hq)
      have HRQ := Lib.hid (vrange HOQ.out.2 hq)
      have HGQ := Lib.hid (HFQ.out hq)
      have HPP : Hid (putT s p = p) := Lib.hid (by rw [HVP.out]; exact putT_free HGP.out)
      have HQQ : Hid (putT s q = q) := Lib.hid (by rw [HVQ.out]; exact putT_free HGQ.out)
      clear hp hq
      by_cases h3 : p.num < q.num
      · have hI := specBind_any s q.num p _ _ w4 HS.out HRQ.out HGQ.out HOP.out (by rw [HPP.out]; intro h; omega) HLW.out HP.out
        rw [← HVQ.out, (mu_swap HS.out HOQ.out HOP.out).1, (mu_swap HS.out HOQ.out HOP.out).2, ← HWK.out.1, ← HWK.out.2] at hI
        have HC := Lib.hid hI
        clear hI
        go_wp2_with fail
        refine HC.out.mono ?_
        rintro e w5 ⟨v5, rfl, hv5, hb⟩
        have HV5 := Lib.hid hv5
        have HB5 := Lib.hid (belowOn HW.out (Nat.le_of_eq hbp.symm) hb)
        clear hv5 hb HC c0 c1 c2 c3 z0 k0 k1 k2 k3 z1
        go_wp2
        go_ret2
        exact ⟨_, rfl, HV5.out, by rw [hbp]; exact HB5.out⟩
      · by_cases h4 : p.num = q.num
        · have d4 : (p.num == q.num) = true := by rw [h4]; exact beq_self_eq_true _
          have hpq : p = q := by rw [HVP.out, HVQ.out, h4]
          have HE : Hid (ul = s ∧ ub = true) := Lib.hid (by rw [HWK.out.1, HWK.out.2, hpq]; exact mu_same HS.out)
          obtain ⟨rfl, rfl⟩ := HE.out
          clear hpq h4
          go_wp2
          go_ret2
          exact ⟨_, rfl, HLW.out, by rw [hbp]; exact HW.out⟩
        · have d4 : (p.num == q.num) = false := beq_eq_false_iff_ne.2 h4
          have hI := specBind_any s p.num q _ _ w4 HS.out HRP.out HGP.out HOQ.out (by rw [HQQ.out]; intro h; omega) HLW.out HQ.out
          rw [← HVP.out, ← HWK.out.1, ← HWK.out.2] at hI
          have HC := Lib.hid hI
          clear hI h4
          go_wp2_with fail
          refine HC.out.mono ?_
          rintro e w5 ⟨v5, rfl, hv5, hb⟩
          have HV5 := Lib.hid hv5
          have HB5 := Lib.hid (belowOn HW.out (Nat.le_of_eq hbp.symm) hb)
          clear hv5 hb HC c0 c1 c2 c3 z0 k0 k1 k2 k3 z1
          go_wp2
          go_ret2
          exact ⟨_, rfl, HV5.out, by rw [hbp]; exact HB5.out⟩
    · have dq : (q.kind == 1) = false := beq_eq_false_iff_ne.2 hq
      have hI := specBind_any s p.num q _ _ w4 HS.out HRP.out HGP.out HOQ.out (fun h => put_notvar hq h.1) HLW.out HQ.out
      rw [← HVP.out, ← HWK.out.1, ← HWK.out.2] at hI
      have HC := Lib.hid hI
      clear hI hp hq
      go_wp2_with fail
      refine HC.out.mono ?_
      rintro e w5 ⟨v5, rfl, hv5, hb⟩
      have HV5 := Lib.hid hv5
      have HB5 := Lib.hid (belowOn HW.out (Nat.le_of_eq hbp.symm) hb)
      clear hv5 hb HC c0 c1 c2 c3 z0 k0 k1 k2 k3 z1
      go_wp2
      go_ret2
      exact ⟨_, rfl, HV5.out, by rw [hbp]; exact HB5.out⟩
  · have dp : (p.kind == 1) = false := beq_eq_false_iff_ne.2 hp
    have HNP := Lib.hid hp
    by_cases hq : q.kind = 1
    · have dq : (q.kind == 1) = true := by rw [hq]; rfl
      have HVQ := Lib.hid (var_is HOQ.out.2 hq)
      have hI := specBind_any s q.num p _ _ w4 HS.out (vrange HOQ.out.2 hq) (HFQ.out hq) HOP.out (fun h => put_notvar hp h.1) HLW.out HP.out
      rw [← HVQ.out, (mu_swap HS.out HOQ.out HOP.out).1, (mu_swap HS.out HOQ.out HOP.out).2, ← HWK.out.1, ← HWK.out.2] at hI
      have HC := Lib.hid hI
      clear hI hp hq
      go_wp2_with fail
      refine HC.out.mono ?_
      rintro e w5 ⟨v5, rfl, hv5, hb⟩
      have HV5 := Lib.hid hv5
      have HB5 := Lib.hid (belowOn HW.out (Nat.le_of_eq hbp.symm) hb)
      clear hv5 hb HC c0 c1 c2 c3 z0 k0 k1 k2 k3 z1
      go_wp2
      go_ret2
      exact ⟨_, rfl, HV5.out, by rw [hbp]; exact HB5.out⟩
    · have dq : (q.kind == 1) = false := beq_eq_false_iff_ne.2 hq
      have HNQ := Lib.hid hq
      clear hp hq
      by_cases h3 : p.kind = q.kind ∧ p.num = q.num ∧ p.name = q.name
      · have HEQ := Lib.hid h3
        have HLEN := Lib.hid (good_len HOP.out.2 HOQ.out.2 h3.1)
        have HWL := Lib.hid (show ul = muL s [(p, q)] ∧ ub = muB s [(p, q)] from HWK.out)
        have e1 : (p.kind != q.kind) = false := by rw [h3.1]; exact bne_self_eq_false _
        have e2 : (p.num != q.num) = false := by rw [h3.2.1]; exact bne_self_eq_false _
        have e3 : (p.name.toList == q.name.toList) = true := by rw [h3.2.2]; exact beq_self_eq_true _
        have e4 : (p.name.toList != q.name.toList) = false := by rw [h3.2.2]; exact bne_self_eq_false _
        have HPL : Hid (p.args.length ≤ 1048576) := Lib.hid (by have h1 := good_sz HOP.out.2; have h2 := HOP.out.1; have h3 := length_szL p.args; have h4 := sz_eq p; omega)
        have hpl := HPL.out
        clear h3
        go_wp2
        clear e1 e2 e3 e4 c0 c1 c2 c3 z0 k0 k1 k2 k3 z1 dp dq
        go_loopw [0, 98] (fun sv kv wr => ∃ (k : Nat) (u : List Bd), k ≤ p.args.length ∧ kv = .int .i64 k ∧ Hid (ListS bdE wr Any sv u) ∧ Hid (Mgu s ((p.args.take k).zip (q.args.take k)) u ∧ (u = s ∨ s.length < u.length)) ∧ Hid (Below w4.heap.size w4 wr)) (fun _ kv _ => p.args.length - (intOf kv).toNat)
        case atStart => exact ⟨0, s, Nat.zero_le _, rfl, HLW, Lib.hid ⟨mgu_refl HS.out fun f _ => solE_nil f, .inl rfl⟩, Lib.hid (Below.refl _ _)⟩
        case round =>
          obtain ⟨k, u, hk, rfl, HU, HM, HB⟩ := hrel
          obtain ⟨ua, uc, rfl⟩ := HU.out.slice
          by_cases hlt : k < p.args.length
          · have hltI : (k : Int) < (p.args.length : Int) := by omega
            have hltQ : k < q.args.length := by have := HLEN.out; omega
            have hltJ : (k : Int) < (q.args.length : Int) := by omega
            obtain ⟨x, hx⟩ : ∃ x, p.args[k]? = some x := ⟨_, List.getElem?_eq_getElem hlt⟩
            obtain ⟨y, hy⟩ : ∃ y, q.args[k]? = some y := ⟨_, List.getElem?_eq_getElem hltQ⟩
            obtain ⟨g, off, u1, u2, rfl, hg, _, hc, hxa⟩ := HP.out.elem hx
            obtain ⟨g', off', y1, y2, rfl, hg', _, hc', hya⟩ := HQ.out.elem hy
            obtain ⟨d0, d1, d2, d3⟩ := hc wr HB.out
            have HXE := Lib.hid hx
            have HYE := Lib.hid hy
            have HOX := Lib.hid (arg_ok HOP.out (List.mem_of_getElem? hx))
            have HOY := Lib.hid (arg_ok HOQ.out (List.mem_of_getElem? hy))
            have HCD : Hid (s.length < u.length ∨ u = s ∧ (putT s x).nodes < (putT s a).nodes) := Lib.hid (by
              rcases HM.out.2 with h | h
              · exact .inr ⟨h, by rw [← HPW.out]; exact arg_less HOP.out.2 (List.mem_of_getElem? HXE.out)⟩
              · exact .inl h)
            have HUN := Lib.hid (HIH.out u x y HM.out.1.ok HOX.out HOY.out HCD.out)
            have hal : Below wr.heap.size wr (wr.alloc (.cells #[.int .i64 x.kind, .int .i64 x.num, .string x.name, .slice u1 x.args.length u2] 27)) := belowAlloc (Below.refl _ _) _
            have HXB := Lib.hid (at_box_of wr #[.int .i64 x.kind, .int .i64 x.num, .string x.name, .slice u1 x.args.length u2] 27 wr.heap.size rfl)
            have HU1 := Lib.hid (HU.out.kept hal)
            have HB1 := Lib.hid (belowOn HB.out (Nat.le_refl _) hal)
            have HXA := Lib.hid (hxa.kept (belowOn HB.out (Nat.le_refl _) hal))
            have HYA := Lib.hid (hya.kept (belowOn HB.out (Nat.le_refl _) hal))
            have HC2 := Lib.hid (fun W hW => hc' W (belowOn (belowOn HB.out (Nat.le_refl _) hal) (Nat.le_refl _) hW))
            clear hc hc' hxa hya hx hy hal
            go_upto_region 16 with (fail)
            generalize hw5 : wr.alloc (.cells #[.int .i64 x.kind, .int .i64 x.num, .string x.name, .slice u1 x.args.length u2] 27) = w5 at HXB HU1 HB1 HXA HYA HC2 ⊢
            clear hw5 d0 d1 d2 d3 HU HB
            generalize wr.heap.size = nx at HXB ⊢
            have hself : Below w5.heap.size w5 w5 := Below.refl _ _
            have hdrew : Below w5.heap.size w5 w5.drew := hself.drew
            have HCE : Hid (∀ W, Below w5.heap.size w5 W → W.cell? ⟨bq, 3, none⟩ = some (.slice (some ⟨g', off', none⟩) q.args.length qc)) := Lib.hid fun W hW => ((HY.out.read HB1.out).read hW).cells.2.2.2
            obtain ⟨d0, d1, d2, d3⟩ := HC2.out w5 hself
            obtain ⟨f0, f1, f2, f3⟩ := HC2.out w5.drew hdrew
            obtain ⟨c0, c1, c2, c3⟩ := HXB.out.cells
            obtain ⟨k0, k1, k2, k3⟩ := (HXB.out.read hdrew).cells
            have r3 := HCE.out w5 hself
            have r3d := HCE.out w5.drew hdrew
            have HCC : Hid (∀ W, Below w5.heap.size w5 W → Calls Tryz.prog 70 #[.slice ua u.length uc, .agg #[.int .i64 x.kind, .int .i64 x.num, .string x.name, .slice u1 x.args.length u2], .agg #[.int .i64 y.kind, .int .i64 y.num, .string y.name, .slice y1 y.args.length y2]] W fun e w' => ∃ v, e = .returned (.tuple #[v, .bool (muB u [(x, y)])]) ∧ ListS bdE w' Any v (muL u [(x, y)]) ∧ Below w5.heap.size w5 w') := Lib.hid fun W hW =>
              (HUN.out _ _ _ W (HU1.out.kept hW) (HXA.out.kept hW) (HYA.out.kept hW)).mono fun e w' ⟨v, he, hv, hb⟩ => ⟨v, he, hv, belowOn hW (Nat.le_refl _) hb⟩
            clear HXB HU1 HXA HYA HC2 HUN HP HQ HX HLW
            go_region_law (go_simp; go_at_call 70; (with_reducible refine Calls.mono (HCC.out _ ?_) ?_); (first | exact hself | exact hdrew); rintro e wB ⟨v5, rfl, hv5, hb5⟩; have HV5 := Lib.hid hv5; have HB5 := Lib.hid hb5; clear hv5 hb5)
            all_goals
              have HBB := Lib.hid (belowOn HB1.out (Nat.le_refl _) HB5.out)
              clear d0 d1 d2 d3 f0 f1 f2 f3 c0 c1 c2 c3 k0 k1 k2 k3 r3 r3d
              cases hm : muB u [(x, y)] with
              | false =>
                have HE : Hid (ul = [] ∧ ub = false) := Lib.hid (by rw [HWL.out.1, HWL.out.2]; exact no_args HNP.out HEQ.out HLEN.out (nou_next HXE.out HYE.out HM.out.1 HOX.out HOY.out hm))
                obtain ⟨rfl, rfl⟩ := HE.out
                clear hm
                go_wp2
                go_ret2
                exact ⟨_, rfl, .nil _ _, by rw [hbp]; exact belowOn HW.out (Nat.le_of_eq hbp.symm) HBB.out⟩
              | true =>
                have HMN := Lib.hid (mgu_next HXE.out HYE.out HM.out.1 HM.out.2 HOX.out HOY.out hm)
                clear hm
                go_wp2
                go_roundw
                case rel => exact ⟨k + 1, muL u [(x, y)], by omega, by go_num, HV5, HMN, HBB⟩
                case measure => simp [intOf]; omega
          · obtain rfl : k = p.args.length := by omega
            have HMU : Hid (Mgu s (p.args.zip q.args) u) := Lib.hid (by have h := HM.out.1; have e := HLEN.out; rw [List.take_length, e, List.take_length] at h; exact h)
            have HE : Hid (ul = u ∧ ub = true) := Lib.hid (by rw [HWL.out.1, HWL.out.2]; exact mu_args HNP.out HEQ.out HLEN.out HMU.out)
            obtain ⟨rfl, rfl⟩ := HE.out
            go_wp2
            go_ret2
            exact ⟨_, rfl, HU.out, by rw [hbp]; exact belowOn HW.out (Nat.le_of_eq hbp.symm) HB.out⟩
      · have HE : Hid (ul = [] ∧ ub = false) := Lib.hid (by rw [HWK.out.1, HWK.out.2]; exact mu_no (clash_no HNP.out HNQ.out h3))
        obtain ⟨rfl, rfl⟩ := HE.out
        have HCS : (p.kind != q.kind) = true ∨ ((p.kind != q.kind) = false ∧ (p.num != q.num) = true) ∨ ((p.kind != q.kind) = false ∧ (p.num != q.num) = false ∧ (p.name.toList == q.name.toList) = false ∧ (p.name.toList != q.name.toList) = true) := by
          by_cases h1 : p.kind = q.kind
          · by_cases h2 : p.num = q.num
            · exact .inr (.inr ⟨by rw [h1]; exact bne_self_eq_false _, by rw [h2]; exact bne_self_eq_false _, beq_eq_false_iff_ne.2 fun h => h3 ⟨h1, h2, toList_inj h⟩, bne_iff_ne.2 fun h => h3 ⟨h1, h2, toList_inj h⟩⟩)
            · exact .inr (.inl ⟨by rw [h1]; exact bne_self_eq_false _, bne_iff_ne.2 h2⟩)
          · exact .inl (bne_iff_ne.2 h1)
        clear h3
        rcases HCS with d1 | ⟨d1, d2⟩ | ⟨d1, d2, d3, d4⟩
        all_goals
          go_wp2
          go_ret2
          exact ⟨_, rfl, .nil _ _, by rw [hbp]; exact HW.out⟩
theorem specUni_any : ∀ (n m : Nat) (s : List Bd) (a b : Tm), SubstP s → Ok a → Ok b → 401 - s.length ≤ n → (putT s a).nodes ≤ m → UniP s a b := by
  intro n
  induction n with
  | zero => intro m s a b hs _ _ hn; have := hs.1.2.2; omega
  | succ n ihn =>
    intro m
    induction m with
    | zero => intro s a b _ _ _ _ hm; have := nodes_pos (putT s a); omega
    | succ m ihm =>
      intro s a b hs ha hb hn hm
      refine uni_step s a b hs ha hb fun u x y hu hx hy hc => ?_
      rcases hc with hlt | ⟨rfl, hlt⟩
      · exact ihn _ u x y hu hx hy (by omega) (Nat.le_refl _)
      · exact ihm u x y hu hx hy hn (by omega)
theorem specUnifyOne_any (s : List Bd) (a b : Tm) (hs : SubstP s) (ha : Ok a) (hb : Ok b) : UniP s a b := specUni_any _ _ s a b hs ha hb (Nat.le_refl _) (Nat.le_refl _)
end Go.Proofs.YtealiilcnmdmdaaGreat

