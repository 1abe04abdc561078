/-
  What the laws of unification ask, plain: the order of equations and of their sides, joins, ground values.
-/
import Derived.Test.YtbbgiefnmihmdaaGreatUnifT
namespace Go.Proofs.YtbbgiefnmihmdaaGreat
open Go.RowKit
set_option linter.unusedVariables false
set_option linter.unusedSimpArgs false

theorem two_okE {a b c d : Tm} (ha : Ok a) (hb : Ok b) (hc : Ok c) (hd : Ok d) : OkE [(a, b), (c, d)] := by
  intro p hp
  simp only [List.mem_cons, List.not_mem_nil, or_false] at hp
  rcases hp with rfl | rfl
  · exact ⟨ha, hb⟩
  · exact ⟨hc, hd⟩
theorem one_okE {a b : Tm} (ha : Ok a) (hb : Ok b) : OkE [(a, b)] := by
  intro p hp
  rw [List.mem_singleton] at hp
  subst hp
  exact ⟨ha, hb⟩
theorem ua_two {s : List Bd} {a b c d : Tm} (hs : SubstP s) (ha : Ok a) (hb : Ok b) (hc : Ok c) (hd : Ok d) : UaP s [a, c] [b, d] :=
  ⟨hs, by simp [ha, hc], by simp [hb, hd], rfl⟩
theorem ua_one {s : List Bd} {a b : Tm} (hs : SubstP s) (ha : Ok a) (hb : Ok b) : UaP s [a] [b] := ⟨hs, by simp [ha], by simp [hb], rfl⟩
/-- Equations in another order, their sides exchanged. -/
theorem ua_order {s : List Bd} {a b c d : Tm} (hs : SubstP s) (ha : Ok a) (hb : Ok b) (hc : Ok c) (hd : Ok d) : uaL s [a, c] [b, d] = uaL s [d, b] [c, a] ∧ uaB s [a, c] [b, d] = uaB s [d, b] [c, a] := by
  rw [(ua_yes (ua_two hs ha hb hc hd)).1, (ua_yes (ua_two hs ha hb hc hd)).2, (ua_yes (ua_two hs hd hc hb ha)).1, (ua_yes (ua_two hs hd hc hb ha)).2]
  refine mu_congr hs (two_okE ha hb hc hd) fun f _ => ?_
  show SolE f [(a, b), (c, d)] ↔ SolE f [(d, c), (b, a)]
  rw [solE_cons, solE_cons, solE_cons, solE_cons]
  exact ⟨fun h => ⟨h.2.1.symm, h.1.symm, solE_nil f⟩, fun h => ⟨h.2.1.symm, h.1.symm, solE_nil f⟩⟩
/-- One equation after the other. -/
theorem ua_after {s : List Bd} {a b c d : Tm} (hs : SubstP s) (ha : Ok a) (hb : Ok b) (hc : Ok c) (hd : Ok d) :
    (unB s a b = true → SubstP (unL s a b) ∧ uaL s [a, c] [b, d] = unL (unL s a b) c d ∧ uaB s [a, c] [b, d] = unB (unL s a b) c d) ∧ (unB s a b = false → uaB s [a, c] [b, d] = false) := by
  have e1 := ua_yes (ua_one hs ha hb)
  have e2 := ua_yes (ua_two hs ha hb hc hd)
  rw [unB, unL, e1.1, e1.2, e2.1, e2.2]
  show (muB s [(a, b)] = true → SubstP (muL s [(a, b)]) ∧ muL s [(a, b), (c, d)] = unL (muL s [(a, b)]) c d ∧ muB s [(a, b), (c, d)] = unB (muL s [(a, b)]) c d) ∧ (muB s [(a, b)] = false → muB s [(a, b), (c, d)] = false)
  refine ⟨fun h => ?_, fun h => ?_⟩
  · have hu := mu_true hs (one_okE ha hb) h
    have e3 := ua_yes (ua_one hu.ok hc hd)
    rw [unL, unB, e3.1, e3.2]
    exact ⟨hu.ok, mu_step hu (one_okE hc hd)⟩
  · exact (mu_no (nou_left (E := [(a, b)]) (F := [(c, d)]) (mu_false hs (one_okE ha hb) h))).2
/-- The join of a substitution with itself. -/
theorem js_self {s : List Bd} (hs : SubstP s) : jsL s s = s ∧ jsB s s = true := by
  have h := mu_yes (mgu_refl (E := eqnsB s) hs fun f hf => eqns_sat.2 hf)
  rw [jsL, jsB, if_pos ⟨hs, hs⟩, if_pos ⟨hs, hs⟩]
  exact h
/-- A substitution that satisfies another is an instance of it. -/
theorem more_of {s u : List Bd} (hs : SubstP s) (hu : SubstP u) (h : Sat (sgm u) s) : moreB s u = true := by
  refine more_true.2 ⟨hs, hu, fun b hb => ?_⟩
  have e : putT u (varTm b.v) = putT u b.t := by
    have := h b hb
    rw [← put_ev (hs.good b hb)] at this
    exact this
  have hn := sgm_small hu b.v
  exact ⟨hn, by rw [← e]; exact hn, by rw [e, cmp_self]; rfl⟩
theorem filter_two {α : Type} (p : α → Bool) : ∀ l : List α, l.length = (l.filter p).length + (l.filter fun x => !p x).length
  | [] => rfl
  | x :: l => by
    have := filter_two p l
    cases hp : p x with
    | true => rw [List.filter_cons_of_pos hp, List.filter_cons_of_neg (by simp [hp])]; simp only [List.length_cons]; omega
    | false => rw [List.filter_cons_of_neg (by simp [hp]), List.filter_cons_of_pos (by simp [hp])]; simp only [List.length_cons]; omega
theorem bound_count {s u : List Bd} (hs : SubstP s) (hu : SubstP u) (h : Sat (sgm u) s) : u.length = s.length + (u.filter fun b => !getB s b.v).length := by
  have e := filter_two (fun b : Bd => getB s b.v) u
  have hp : (u.filter fun b => getB s b.v).Pairwise (fun a b => a.v < b.v) := hu.asc.sublist List.filter_sublist
  have h1 := asc_count hs.asc hp fun b hb => by
    have := (List.mem_filter.1 hb).2
    intro hn
    rw [getB_none.2 hn] at this
    cases this
  have h2 := asc_count hp hs.asc fun b hb => by
    obtain ⟨c, hc, hcv⟩ := getO_ne.1 (dom_sub hs hu h (getO_ne.2 ⟨b, hb, rfl⟩))
    refine getO_ne.2 ⟨c, List.mem_filter.2 ⟨hc, ?_⟩, hcv⟩
    cases hg : getB s c.v with
    | true => rfl
    | false => exact absurd hcv.symm (by have := getO_none.1 (getB_none.1 hg) b hb; omega)
  omega
/-- Ground values for variables in order are a substitution; what satisfies them. -/
theorem ground_subst {g : List Bd} (hp : g.Pairwise (fun a b => a.v < b.v)) (hl : g.length ≤ 400) (h : ∀ b ∈ g, (0 ≤ b.v ∧ b.v ≤ 100000) ∧ Ok b.t ∧ b.t.vl = []) : SubstP g :=
  subst_mk hp hl fun b hb => ⟨(h b hb).1, (h b hb).2.1, fun (hk : b.t.kind = 1 ∧ b.v ≤ b.t.num) => (by have := (h b hb).2.2; rw [vl_of_var hk.1] at this; cases this), fun u hu => by rw [(h b hb).2.2] at hu; cases hu⟩
theorem holds_sat {g s : List Bd} (hs : ∀ b ∈ s, Good b.t) : (∀ b ∈ s, putT g (varTm b.v) = putT g b.t) ↔ Sat (sgm g) s :=
  ⟨fun h b hb => by have := h b hb; rw [put_ev (hs b hb)] at this; exact this, fun h b hb => by rw [put_ev (hs b hb)]; exact h b hb⟩
/-- What the law of joins asks. -/
theorem js_said {s t : List Bd} (hs : SubstP s) (ht : SubstP t) :
    (jsB s t = true → SubstP (jsL s t) ∧ moreB s (jsL s t) = true ∧ moreB t (jsL s t) = true ∧ (jsL s t).length = s.length + ((jsL s t).filter fun b => !getB s b.v).length ∧ ∀ f, Sat f (jsL s t) ↔ Sat f s ∧ Sat f t) ∧
    (jsB s t = false → ∀ g, SubstP g → ¬ (Sat (sgm g) s ∧ Sat (sgm g) t)) := by
  rw [jsL, jsB, if_pos ⟨hs, ht⟩, if_pos ⟨hs, ht⟩]
  refine ⟨fun h => ?_, fun h g hg hh => mu_false hs (eqns_ok ht) h g hg hh.1 (eqns_sat.2 hh.2)⟩
  have hu := mu_true hs (eqns_ok ht) h
  obtain ⟨h1, h2⟩ := (hu.iff _).1 (sgm_sat hu.ok)
  exact ⟨hu.ok, more_of hs hu.ok h1, more_of ht hu.ok (eqns_sat.1 h2), bound_count hs hu.ok h1, fun f => by rw [hu.iff, eqns_sat]⟩
/-- What the law of unifiers asks of ground values. -/
theorem un_ground {a b : Tm} (ha : Ok a) (hb : Ok b) {g : List Bd} (hg : SubstP g) :
    (unB [] a b = true → SubstP (unL [] a b) ∧ putT (unL [] a b) a = putT (unL [] a b) b ∧ (Sat (sgm g) (unL [] a b) ↔ putT g a = putT g b)) ∧
    (unB [] a b = false → ¬ putT g a = putT g b) := by
  have e := ua_yes (ua_one substP_nil ha hb)
  rw [unL, unB, e.1, e.2]
  show (muB [] [(a, b)] = true → SubstP (muL [] [(a, b)]) ∧ putT (muL [] [(a, b)]) a = putT (muL [] [(a, b)]) b ∧ (Sat (sgm g) (muL [] [(a, b)]) ↔ putT g a = putT g b)) ∧ (muB [] [(a, b)] = false → ¬ putT g a = putT g b)
  have hnil : ∀ f, Sat f [] := fun f c hc => by cases hc
  refine ⟨fun h => ?_, fun h hh => mu_false substP_nil (one_okE ha hb) h g hg (hnil _) (by rw [sol_one, ← put_ev ha.2, ← put_ev hb.2]; exact hh)⟩
  have hu := mu_true substP_nil (one_okE ha hb) h
  have h2 := ((hu.iff _).1 (sgm_sat hu.ok)).2
  rw [sol_one, ← put_ev ha.2, ← put_ev hb.2] at h2
  refine ⟨hu.ok, h2, ?_⟩
  rw [hu.iff, sol_one, ← put_ev ha.2, ← put_ev hb.2]
  exact ⟨fun k => k.2, fun k => ⟨hnil _, k⟩⟩
end Go.Proofs.YtbbgiefnmihmdaaGreat

