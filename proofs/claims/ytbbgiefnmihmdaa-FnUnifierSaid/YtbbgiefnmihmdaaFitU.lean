/-
  The size of a unified term, plain: where a term and one that is like it have few variables and small parts, what their unifier makes of them fits.
-/
import Derived.Test.YtbbgiefnmihmdaaSuppP
import Derived.Test.YtbbgiefnmihmdaaUnifyLaw
import Derived.Test.YtbbgiefnmihmdaaAlike
namespace Go.Proofs.Ytbbgiefnmihmdaa
open Go.RowKit
set_option linter.unusedVariables false
set_option linter.unusedSimpArgs false

theorem likeS_or {P D : Tm → Prop} (hP : PClosed P) (hD : ∀ d, D d → P d) {a b : Tm} (h : LikeT D a b) : ∀ s, SubstP s → SuppU P s → Ok a → Ok b → P a → OutS P s [(a, b)] := by
  induction h with
  | same a => exact fun s hs hsu ha hb pa => .inl ⟨s, mgu_refl hs (fun f _ => by rw [sol_one]), .inl rfl, hsu⟩
  | draw a d h => exact fun s hs hsu ha hb pa => mguS_or hP _ _ s a d hs hsu ha hb ⟨a, pa, ha.2, rfl⟩ ⟨d, hD d h, hb.2, rfl⟩ (Nat.le_refl _) (Nat.le_refl _)
  | pair a b c d h1 h2 ih1 ih2 =>
    intro s hs hsu ha hb pa
    obtain ⟨oa, ob⟩ := ok_two ha
    obtain ⟨oc, od⟩ := ok_two hb
    obtain ⟨pa1, pa2⟩ := hP _ _ pa
    refine outS_congr (fun f _ => pair_eqn) ?_
    rcases ih1 s hs hsu oa oc pa1 with ⟨u, hu, hl, hsu'⟩ | hno
    · rcases ih2 u hu.ok hsu' ob od pa2 with ⟨w, hw, hl', hsw⟩ | hno
      · refine .inl ⟨w, mgu_trans hu hw, ?_, hsw⟩
        rcases hl with rfl | hl
        · exact hl'
        · rcases hl' with rfl | hl'
          · exact .inr hl
          · exact .inr (by omega)
      · exact .inr (nou_right hu hno)
    · exact .inr (nou_left hno)
theorem mu_like {P D : Tm → Prop} (hP : PClosed P) (hD : ∀ d, D d → P d) {a b : Tm} (h : LikeT D a b) (ha : Ok a) (hb : Ok b) (pa : P a) (hm : muB [] [(a, b)] = true) : SuppU P (muL [] [(a, b)]) := by
  rcases likeS_or hP hD h [] substP_nil (fun c hc => by cases hc) ha hb pa with ⟨u, hu, _, hsu⟩ | hno
  · rw [(mu_yes hu).1]; exact hsu
  · rw [(mu_no hno).2] at hm; cases hm
theorem ev_in_lt {f : Int → Tm} {t : Tm} (h : Good t) {v : Int} (hv : v ∈ t.vl) (hk : ¬ t.kind = 1) : (f v).nodes < (evT f t).nodes := by
  cases h with
  | nil => simp [Tm.vl, vlL] at hv
  | var i h0 h1 => exact absurd rfl hk
  | sym s h => simp [Tm.vl, vlL] at hv
  | int i h0 h1 => simp [Tm.vl, vlL] at hv
  | pair a b ha hb =>
    rw [ev_pair]
    rw [vl_pair, List.mem_append] at hv
    simp only [Tm.nodes, nodesL]
    rcases hv with hv | hv
    · have := ev_in (f := f) ha hv; omega
    · have := ev_in (f := f) hb hv; omega
theorem ev_lv {f : Int → Tm} {m : Nat} (hm : 1 ≤ m) {t : Tm} (h : Good t) : (∀ v ∈ t.vl, (f v).nodes + 1 ≤ 2 * m) → (evT f t).nodes + 1 ≤ (t.nodes + 1) * m := by
  induction h with
  | nil => intro _; rw [ev_leaf f (by decide)]; simp only [Tm.nodes, nodesL]; omega
  | var i h0 h1 => intro hf; rw [ev_var]; have := hf i (by simp [Tm.vl]); simp only [Tm.nodes, nodesL]; omega
  | sym s h => intro _; rw [ev_leaf f (by decide)]; simp only [Tm.nodes, nodesL]; omega
  | int i h0 h1 => intro _; rw [ev_leaf f (by decide)]; simp only [Tm.nodes, nodesL]; omega
  | pair a b ha hb iha ihb =>
    intro hf
    have h1 := iha fun v hv => hf v (by rw [vl_pair]; exact List.mem_append_left _ hv)
    have h2 := ihb fun v hv => hf v (by rw [vl_pair]; exact List.mem_append_right _ hv)
    rw [ev_pair]
    simp only [Tm.nodes, nodesL]
    have e : (1 + (a.nodes + (b.nodes + 0)) + 1) * m = (a.nodes + 1) * m + (b.nodes + 1) * m := by rw [← Nat.add_mul]; congr 1; omega
    rw [e]
    omega
def rankU (u : List Bd) (n : Nat) : Nat := (u.filter fun x => decide (x.t.nodes ≤ n)).length
theorem rank_le (u : List Bd) (n : Nat) : rankU u n ≤ u.length := List.length_filter_le _ _
theorem rank_pos {u : List Bd} {b : Bd} (hb : b ∈ u) : 1 ≤ rankU u b.t.nodes := by
  have : b ∈ u.filter fun x => decide (x.t.nodes ≤ b.t.nodes) := List.mem_filter.2 ⟨hb, by simp⟩
  exact List.length_pos_of_mem this
theorem rank_lt : ∀ {u : List Bd} {b : Bd} {n : Nat}, b ∈ u → n < b.t.nodes → rankU u n < rankU u b.t.nodes
  | x :: u, b, n, hb, hn => by
    have hmono : ∀ l : List Bd, rankU l n ≤ rankU l b.t.nodes := by
      intro l
      induction l with
      | nil => exact Nat.le_refl _
      | cons y l ih =>
        unfold rankU at ih ⊢
        by_cases h1 : y.t.nodes ≤ n
        · rw [List.filter_cons_of_pos (by simpa using h1), List.filter_cons_of_pos (by simp; omega)]
          simp only [List.length_cons]; omega
        · rw [List.filter_cons_of_neg (by simpa using h1)]
          by_cases h2 : y.t.nodes ≤ b.t.nodes
          · rw [List.filter_cons_of_pos (by simpa using h2)]; simp only [List.length_cons]; omega
          · rw [List.filter_cons_of_neg (by simpa using h2)]; exact ih
    have hm := hmono u
    rcases List.mem_cons.1 hb with rfl | hb
    · unfold rankU at hm ⊢
      rw [List.filter_cons_of_neg (by simp; omega), List.filter_cons_of_pos (by simp)]
      simp only [List.length_cons]; omega
    · have ih := rank_lt hb hn
      unfold rankU at ih ⊢
      by_cases h1 : x.t.nodes ≤ n
      · rw [List.filter_cons_of_pos (by simpa using h1), List.filter_cons_of_pos (by simp; omega)]
        simp only [List.length_cons]; omega
      · rw [List.filter_cons_of_neg (by simpa using h1)]
        by_cases h2 : x.t.nodes ≤ b.t.nodes
        · rw [List.filter_cons_of_pos (by simpa using h2)]; simp only [List.length_cons]; omega
        · rw [List.filter_cons_of_neg (by simpa using h2)]; exact ih
theorem pow_pos4 : ∀ n : Nat, 1 ≤ 4 ^ n
  | 0 => Nat.le_refl _
  | n + 1 => by rw [Nat.pow_succ]; have := pow_pos4 n; omega
theorem supp_small {P : Tm → Prop} {u : List Bd} (hu : SubstP u) (hs : SuppU P u) (hP : ∀ t, P t → t.nodes ≤ 7) : ∀ (n : Nat) (b : Bd), b ∈ u → b.t.nodes ≤ n → b.t.nodes + 1 ≤ 2 * 4 ^ rankU u b.t.nodes := by
  intro n
  induction n with
  | zero => intro b hb hn; have := nodes_pos b.t; omega
  | succ n ih =>
    intro b hb hn
    have hg := hu.good b hb
    by_cases hk : b.t.kind = 1
    · have e : b.t.nodes = 1 := by rw [var_is hg hk]; rfl
      have := pow_pos4 (rankU u b.t.nodes)
      omega
    · obtain ⟨t, pt, gt, kt, e⟩ := hs b hb hk
      rw [put_ev gt] at e
      obtain ⟨r, hr⟩ : ∃ r, rankU u b.t.nodes = r + 1 := ⟨rankU u b.t.nodes - 1, by have := rank_pos hb; omega⟩
      have key : ∀ v ∈ t.vl, (sgm u v).nodes + 1 ≤ 2 * 4 ^ r := by
        intro v hv
        have hlt := ev_in_lt (f := sgm u) gt hv kt
        rw [e] at hlt
        have p1 := pow_pos4 r
        cases hgo : getO u v with
        | none => rw [sgm_free hgo]; show 1 + 0 + 1 ≤ _; omega
        | some y =>
          obtain ⟨c, hc, hcv, rfl⟩ := getO_some hgo
          rw [sgm_bound hgo] at hlt ⊢
          have h1 := ih c hc (by omega)
          have h2 := rank_lt hb hlt
          have h3 : 4 ^ rankU u c.t.nodes ≤ 4 ^ r := Nat.pow_le_pow_right (by decide) (by omega)
          omega
      have h1 := ev_lv (pow_pos4 r) gt key
      rw [e] at h1
      have h2 : (t.nodes + 1) * 4 ^ r ≤ 8 * 4 ^ r := Nat.mul_le_mul_right _ (by have := hP t pt; omega)
      rw [hr, Nat.pow_succ]
      omega
theorem mu_dom {a b : Tm} {u : List Bd} (hu : Mgu [] [(a, b)] u) (ha : Good a) (hb : Good b) : ∀ c ∈ u, c.v ∈ a.vl ∨ c.v ∈ b.vl := by
  intro c hc
  by_cases h1 : c.v ∈ a.vl
  · exact .inl h1
  by_cases h2 : c.v ∈ b.vl
  · exact .inr h2
  exfalso
  have hsat := sgm_sat hu.ok
  have hsol := ((hu.iff _).1 hsat).2
  rw [sol_one] at hsol
  have hff : ∀ (t : Tm), Good t → ¬ c.v ∈ t.vl → evT (fun v => if v = c.v then Tm.mk 4 0 ⟨#[]⟩ [sgm u c.v, sgm u c.v] else sgm u v) t = evT (sgm u) t := fun t ht hn => ev_congr ht fun v hv => by
    have : ¬ v = c.v := fun e => hn (e ▸ hv)
    simp only [if_neg this]
  have hs2 := (hu.iff (fun v => if v = c.v then Tm.mk 4 0 ⟨#[]⟩ [sgm u c.v, sgm u c.v] else sgm u v)).2 ⟨(fun d hd => by cases hd), by
    rw [sol_one]
    show evT _ a = evT _ b
    rw [hff a ha h1, hff b hb h2]
    exact hsol⟩
  have e := hs2 c hc
  simp only [if_pos] at e
  rw [hff c.t (hu.ok.good c hc) (fun hv => by
    have := (hu.ok.2 c hc).2 c.v hv
    exact (getO_ne.2 ⟨c, hc, rfl⟩) this), ← hsat c hc] at e
  have := congrArg Tm.nodes e
  simp only [Tm.nodes, nodesL] at this
  omega
/-- The parts that the law of unifiers draws. -/
def SmallG (n : Nat) (t : Tm) : Prop := Good t ∧ (∀ v ∈ t.vl, v < 4) ∧ t.nodes ≤ n
theorem small_closed : PClosed (SmallG 7) := fun x y h => by
  obtain ⟨h1, h2, h3⟩ := h
  simp only [Tm.nodes, nodesL] at h3
  rw [vl_pair] at h2
  cases h1 with
  | pair _ _ hx hy => exact ⟨⟨hx, fun v hv => h2 v (List.mem_append_left _ hv), by omega⟩, ⟨hy, fun v hv => h2 v (List.mem_append_right _ hv), by omega⟩⟩
theorem SmallG.ok {n : Nat} {t : Tm} (h : SmallG n t) (hn : n ≤ 5000) : Ok t := ⟨by have := h.2.2; omega, h.1⟩
theorem like_small {a b : Tm} (h : LikeT (SmallG 3) a b) : Good a → (∀ v ∈ a.vl, v < 4) → Good b ∧ (∀ v ∈ b.vl, v < 4) ∧ b.nodes ≤ 3 * a.nodes := by
  induction h with
  | same a => exact fun h1 h2 => ⟨h1, h2, by omega⟩
  | draw a d h => exact fun h1 h2 => ⟨h.1, h.2.1, by have := h.2.2; have := nodes_pos a; omega⟩
  | pair a b c d h1 h2 ih1 ih2 =>
    intro h hv
    rw [vl_pair] at hv
    cases h with
    | pair _ _ hx hy =>
      obtain ⟨g1, v1, n1⟩ := ih1 hx fun v h => hv v (List.mem_append_left _ h)
      obtain ⟨g2, v2, n2⟩ := ih2 hy fun v h => hv v (List.mem_append_right _ h)
      refine ⟨.pair _ _ g1 g2, fun v h => ?_, by simp only [Tm.nodes, nodesL]; omega⟩
      rw [vl_pair, List.mem_append] at h
      exact h.elim (v1 v) (v2 v)
/-- What a unifier makes of a drawn term and of one that is like it fits. -/
theorem un_fits {a b : Tm} (ha : SmallG 7 a) (h : LikeT (SmallG 3) a b) (hm : unB [] a b = true) : (putT (unL [] a b) a).nodes ≤ 5000 ∧ (putT (unL [] a b) b).nodes ≤ 5000 := by
  obtain ⟨gb, vb, nb⟩ := like_small h ha.1 ha.2.1
  have hb : Ok b := ⟨by have := ha.2.2; omega, gb⟩
  have e := ua_yes (ua_one substP_nil (ha.ok (by decide)) hb)
  rw [unB, e.2] at hm
  rw [unL, e.1]
  show (putT (muL [] [(a, b)]) a).nodes ≤ 5000 ∧ (putT (muL [] [(a, b)]) b).nodes ≤ 5000
  have hm' : muB [] [(a, b)] = true := hm
  have hu := mu_true substP_nil (one_okE (ha.ok (by decide)) hb) hm'
  have hs := mu_like small_closed (fun d hd => ⟨hd.1, hd.2.1, by have := hd.2.2; omega⟩) h (ha.ok (by decide)) hb ha hm'
  have hd := mu_dom hu ha.1 gb
  generalize muL [] [(a, b)] = u at hu hs hd ⊢
  have hl : u.length ≤ 4 := by
    have := asc_len (hi := 4) u 0 (by decide) hu.ok.asc fun c hc => ⟨(hu.ok.var hc).1, (hd c hc).elim (ha.2.1 _) (vb _)⟩
    omega
  have hsm := fun v => (show (sgm u v).nodes + 1 ≤ 2 * 256 from by
    cases hg : getO u v with
    | none => rw [sgm_free hg]; show 1 + 0 + 1 ≤ _; omega
    | some y =>
      obtain ⟨c, hc, hcv, rfl⟩ := getO_some hg
      rw [sgm_bound hg]
      have h1 := supp_small hu.ok hs (fun t ht => ht.2.2) _ c hc (Nat.le_refl _)
      have h2 : 4 ^ rankU u c.t.nodes ≤ 4 ^ 4 := Nat.pow_le_pow_right (by decide) (by have := rank_le u c.t.nodes; omega)
      have h3 : (4 : Nat) ^ 4 = 256 := by decide
      omega)
  have hA := ev_lv (f := sgm u) (m := 256) (by decide) ha.1 fun v _ => hsm v
  have hsol := ((hu.iff _).1 (sgm_sat hu.ok)).2
  rw [sol_one] at hsol
  have h7 := ha.2.2
  have h8 : (a.nodes + 1) * 256 ≤ 8 * 256 := Nat.mul_le_mul_right _ (by omega)
  rw [put_ev ha.1, put_ev gb]
  have h9 : evT (sgm u) a = evT (sgm u) b := hsol
  rw [← h9]
  omega
end Go.Proofs.Ytbbgiefnmihmdaa

