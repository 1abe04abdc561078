/-
  What a most general unifier binds, plain: every value that is no variable is what the unifier makes of a part of the given terms.
-/
import Derived.Test.YtbbgiefnmihmdaaUnifT
namespace Go.Proofs.Ytbbgiefnmihmdaa
open Go.RowKit
set_option linter.unusedVariables false
set_option linter.unusedSimpArgs false

/-- Parts that are closed under the arguments of pairs. -/
def PClosed (P : Tm → Prop) : Prop := ∀ x y, P (.mk 4 0 ⟨#[]⟩ [x, y]) → P x ∧ P y
def SuppU (P : Tm → Prop) (s : List Bd) : Prop := ∀ b ∈ s, ¬ b.t.kind = 1 → ∃ t, P t ∧ Good t ∧ ¬ t.kind = 1 ∧ putT s t = b.t
def Rep (P : Tm → Prop) (s : List Bd) (a : Tm) : Prop := ∃ t, P t ∧ Good t ∧ putT s t = putT s a
/-- What a substitution makes equal, one that satisfies it makes equal. -/
theorem put_later {s u : List Bd} (h : Sat (sgm u) s) {t a : Tm} (ht : Good t) (ha : Good a) (e : putT s t = putT s a) : putT u t = putT u a := by
  rw [put_ev ht, put_ev ha, ← sat_put h ht, ← sat_put h ha, e]
theorem Rep.later {P : Tm → Prop} {s u : List Bd} {a : Tm} (hr : Rep P s a) (h : Sat (sgm u) s) (ha : Good a) : Rep P u a := by
  obtain ⟨t, h1, h2, h3⟩ := hr
  exact ⟨t, h1, h2, put_later h h2 ha h3⟩
/-- A part that is no variable itself. -/
theorem Rep.solid {P : Tm → Prop} {s : List Bd} {a : Tm} (hs : SubstP s) (hr : Rep P s a) (hsu : SuppU P s) (hk : ¬ (putT s a).kind = 1) : ∃ t, P t ∧ Good t ∧ ¬ t.kind = 1 ∧ putT s t = putT s a := by
  obtain ⟨t, h1, h2, h3⟩ := hr
  by_cases hv : t.kind = 1
  · cases hg : getO s t.num with
    | none =>
      have e : putT s t = t := by rw [var_is h2 hv]; exact putT_free hg
      rw [← h3, e] at hk
      exact absurd hv hk
    | some y =>
      obtain ⟨b, hb, hbv, rfl⟩ := getO_some hg
      have e : putT s t = b.t := by rw [var_is h2 hv]; exact putT_of hg
      rw [e] at h3
      rw [← h3] at hk ⊢
      exact hsu b hb hk
  · exact ⟨t, h1, h2, hv, h3⟩
theorem put_pairs {s : List Bd} {t x y : Tm} (ht : Good t) (hk : ¬ t.kind = 1) (e : putT s t = putT s (.mk 4 0 ⟨#[]⟩ [x, y])) : ∃ z q, t = .mk 4 0 ⟨#[]⟩ [z, q] ∧ Good z ∧ Good q ∧ putT s z = putT s x ∧ putT s q = putT s y := by
  rw [putT_two (s := s) (t := .mk 4 0 ⟨#[]⟩ [x, y]) (x := x) (y := y) rfl rfl] at e
  by_cases h4 : t.kind = 4
  · obtain ⟨z, q, rfl, hz, hq⟩ := good_pair ht h4
    rw [putT_two (s := s) (t := .mk 4 0 ⟨#[]⟩ [z, q]) (x := z) (y := q) rfl rfl] at e
    simp only [Tm.mk.injEq, List.cons.injEq, and_true, true_and] at e
    exact ⟨z, q, rfl, hz, hq, e.1, e.2⟩
  · rw [putT_atom hk h4] at e
    rw [e] at h4
    exact absurd rfl h4
/-- One variable more is bound. -/
theorem supp_bind {P : Tm → Prop} {s : List Bd} {v : Int} {t : Tm} (hs : SubstP s) (hsu : SuppU P s) (hm : Mgu s [(varTm v, t)] (bindS s v (putT s t))) (ht : Good t) (hr : Rep P s t) : SuppU P (bindS s v (putT s t)) := by
  have hu := hm.ok
  have hsat := ((hm.iff _).1 (sgm_sat hu)).1
  have hx := putT_good hs.good t.nodes t (Nat.le_refl _) ht
  have self : ∀ c ∈ bindS s v (putT s t), putT (bindS s v (putT s t)) c.t = c.t := fun c hc => putT_same (hu.good c hc) (hu.2 c hc).2
  have hput : ∀ {z y : Tm}, Good z → Good y → putT s z = y → putT (bindS s v (putT s t)) z = putT (bindS s v (putT s t)) y := fun {z y} hz hy e => by
    rw [put_ev hz, put_ev hy, ← e, sat_put hsat hz]
  have new : ∀ c ∈ bindS s v (putT s t), c.t = putT s t → ¬ c.t.kind = 1 → ∃ z, P z ∧ Good z ∧ ¬ z.kind = 1 ∧ putT (bindS s v (putT s t)) z = c.t := by
    intro c hc e hk
    rw [e] at hk
    obtain ⟨z, z1, z2, z3, z4⟩ := hr.solid hs hsu hk
    refine ⟨z, z1, z2, z3, ?_⟩
    have h5 := self c hc
    rw [e] at h5 ⊢
    rw [hput z2 hx z4, h5]
  intro c hc hk
  rcases bind_mem.1 hc with rfl | ⟨b, hb, rfl⟩
  · exact new _ hc rfl hk
  · have hg := hs.good b hb
    by_cases hkb : b.t.kind = 1
    · have e : b.t.put v (putT s t) = putT s t := by
        by_cases hv : b.t.num = v
        · exact put_var ⟨hkb, hv⟩
        · have e0 : b.t.put v (putT s t) = b.t := put_atom (fun h => hv h.2) (good_leaf hg (by omega))
          have hk' : ¬ (b.t.put v (putT s t)).kind = 1 := hk
          rw [e0] at hk'
          exact absurd hkb hk'
      exact new _ hc e hk
    · obtain ⟨z, z1, z2, z3, z4⟩ := hsu b hb hkb
      refine ⟨z, z1, z2, z3, ?_⟩
      rw [hput z2 hg z4, put_ev hg, ← hsat b hb]
      exact sgm_bound (get_asc hu.asc _ hc)
def OutS (P : Tm → Prop) (s : List Bd) (E : List (Tm × Tm)) : Prop := (∃ u, Mgu s E u ∧ (u = s ∨ s.length < u.length) ∧ SuppU P u) ∨ NoU s E
theorem outS_congr {P : Tm → Prop} {s : List Bd} {E F : List (Tm × Tm)} (h : ∀ f, Sat f s → (SolE f E ↔ SolE f F)) (ho : OutS P s E) : OutS P s F := ho.imp (fun ⟨u, h1, h2⟩ => ⟨u, mgu_congr h h1, h2⟩) (nou_congr h)
theorem bindS_or {P : Tm → Prop} {s : List Bd} {v : Int} {t : Tm} (hs : SubstP s) (hsu : SuppU P s) (hv : 0 ≤ v ∧ v ≤ 100000) (hfree : getO s v = none) (ht : Good t) (hr : Rep P s t) (ho : ¬ ((putT s t).kind = 1 ∧ v ≤ (putT s t).num)) : OutS P s [(varTm v, t)] := by
  by_cases h1 : 5000 < (putT s t).nodes
  · exact .inr (bind_no hs hfree ht ho (.inl h1))
  by_cases h2 : v ∈ (putT s t).vl
  · refine .inr (bind_no hs hfree ht ho (.inr (.inl ⟨h2, fun hk => ho ⟨hk, ?_⟩⟩)))
    rw [vl_of_var hk] at h2
    have : v = (putT s t).num := by simpa using h2
    omega
  by_cases h3 : 400 ≤ s.length
  · exact .inr (bind_no hs hfree ht ho (.inr (.inr (.inl h3))))
  by_cases h4 : ∃ b ∈ s, 5000 < (b.t.put v (putT s t)).nodes
  · exact .inr (bind_no hs hfree ht ho (.inr (.inr (.inr h4))))
  have hm := bind_mgu hs hv hfree ht (by omega) h2 ho (by omega) fun b hb => by
    have : ¬ 5000 < (b.t.put v (putT s t)).nodes := fun h => h4 ⟨b, hb, h⟩
    omega
  exact .inl ⟨_, hm, .inr (by rw [bind_length]; omega), supp_bind hs hsu hm ht hr⟩
theorem twoS_or {P : Tm → Prop} {s : List Bd} {a b : Tm} (hs : SubstP s) (hsu : SuppU P s) (ha : Ok a) (hb : Ok b) (hra : Rep P s a) (hrb : Rep P s b) (hfa : a.kind = 1 → getO s a.num = none) (hfb : b.kind = 1 → getO s b.num = none) (hp : ¬ (a.kind = 4 ∧ b.kind = 4)) : OutS P s [(a, b)] := by
  by_cases h1 : a.kind = 1
  · have ea := var_is ha.2 h1
    have ra := vrange ha.2 h1
    have fa := hfa h1
    by_cases h2 : b.kind = 1
    · have eb := var_is hb.2 h2
      have rb := vrange hb.2 h2
      have fb := hfb h2
      have pa : putT s a = a := by rw [ea]; exact putT_free fa
      have pb : putT s b = b := by rw [eb]; exact putT_free fb
      by_cases h3 : a.num < b.num
      · have := bindS_or (t := a) hs hsu rb fb ha.2 hra (by rw [pa]; intro h; omega)
        rw [← eb] at this
        exact outS_congr (fun f _ => swap_eqn) this
      · by_cases h4 : a.num = b.num
        · refine .inl ⟨s, mgu_refl hs fun f _ => ?_, .inl rfl, hsu⟩
          rw [sol_one, ea, eb, h4]
        · have := bindS_or (t := b) hs hsu ra fa hb.2 hrb (by rw [pb]; intro h; omega)
          rwa [← ea] at this
    · have := bindS_or (t := b) hs hsu ra fa hb.2 hrb (fun h => put_notvar h2 h.1)
      rwa [← ea] at this
  · by_cases h2 : b.kind = 1
    · have eb := var_is hb.2 h2
      have := bindS_or (t := a) hs hsu (vrange hb.2 h2) (hfb h2) ha.2 hra (fun h => put_notvar h1 h.1)
      rw [← eb] at this
      exact outS_congr (fun f _ => swap_eqn) this
    · by_cases h3 : a.kind = b.kind ∧ a.num = b.num ∧ a.name = b.name
      · have ha4 : ¬ a.kind = 4 := fun h => hp ⟨h, by omega⟩
        have e := good_fields h3 (by rw [good_leaf ha.2 ha4, good_leaf hb.2 (by omega)])
        refine .inl ⟨s, mgu_refl hs fun f _ => ?_, .inl rfl, hsu⟩
        rw [sol_one, e]
      · exact .inr (clash_no h1 h2 h3)
theorem rep_args {P : Tm → Prop} (hP : PClosed P) {s : List Bd} (hs : SubstP s) (hsu : SuppU P s) {x y : Tm} (hr : Rep P s (.mk 4 0 ⟨#[]⟩ [x, y])) : Rep P s x ∧ Rep P s y := by
  obtain ⟨t, t1, t2, t3, t4⟩ := hr.solid hs hsu (by rw [putT_two (x := x) (y := y) rfl rfl]; show ¬ (4 : Int) = 1; decide)
  obtain ⟨z, q, rfl, hz, hq, e1, e2⟩ := put_pairs t2 t3 t4
  obtain ⟨p1, p2⟩ := hP z q t1
  exact ⟨⟨z, p1, hz, e1⟩, ⟨q, p2, hq, e2⟩⟩
theorem mguS_or {P : Tm → Prop} (hP : PClosed P) : ∀ (n m : Nat) (s : List Bd) (a b : Tm), SubstP s → SuppU P s → Ok a → Ok b → Rep P s a → Rep P s b → 401 - s.length ≤ n → (putT s a).nodes ≤ m → OutS P s [(a, b)] := by
  intro n
  induction n with
  | zero => intro m s a b hs _ _ _ _ _ hn; have := hs.1.2.2; omega
  | succ n ihn =>
    intro m
    induction m with
    | zero => intro s a b _ _ _ _ _ _ _ hm; have := nodes_pos (putT s a); omega
    | succ m ihm =>
      intro s a b hs hsu ha hb hra hrb hn hm
      refine outS_congr (fun f hf => walk_eqn hf ha.2 hb.2) ?_
      have oa := walk_ok hs ha
      have ob := walk_ok hs hb
      have wra : Rep P s (walkT s a) := by obtain ⟨t, h1, h2, h3⟩ := hra; exact ⟨t, h1, h2, by rw [put_walk hs]; exact h3⟩
      have wrb : Rep P s (walkT s b) := by obtain ⟨t, h1, h2, h3⟩ := hrb; exact ⟨t, h1, h2, by rw [put_walk hs]; exact h3⟩
      by_cases hp : (walkT s a).kind = 4 ∧ (walkT s b).kind = 4
      · obtain ⟨x, y, ea, hx, hy⟩ := good_pair oa.2 hp.1
        obtain ⟨z, q, eb, hz, hq⟩ := good_pair ob.2 hp.2
        have hw := put_walk hs a
        rw [ea] at oa hw wra
        rw [eb] at ob wrb
        rw [ea, eb]
        obtain ⟨ox, oy⟩ := ok_two oa
        obtain ⟨oz, oq⟩ := ok_two ob
        obtain ⟨rx, ry⟩ := rep_args hP hs hsu wra
        obtain ⟨rz, rq⟩ := rep_args hP hs hsu wrb
        rw [putT_two (x := x) (y := y) rfl rfl] at hw
        have hnn : 1 + nodesL [putT s x, putT s y] ≤ m + 1 := by rw [← hw, nodes_eq] at hm; exact hm
        simp only [nodesL] at hnn
        refine outS_congr (fun f _ => pair_eqn) ?_
        rcases ihm s x z hs hsu ox oz rx rz hn (by omega) with ⟨u, hu, hl, hsu'⟩ | hno
        · have hsat := ((hu.iff _).1 (sgm_sat hu.ok)).1
          rcases hl with rfl | hlt
          · rcases ihm u y q hs hsu oy oq ry rq hn (by omega) with ⟨w, hw, hl, hsw⟩ | hno
            · exact .inl ⟨w, mgu_trans hu hw, hl, hsw⟩
            · exact .inr (nou_right hu hno)
          · rcases ihn (putT u y).nodes u y q hu.ok hsu' oy oq (ry.later hsat hy) (rq.later hsat hq) (by omega) (Nat.le_refl _) with ⟨w, hw, hl, hsw⟩ | hno
            · refine .inl ⟨w, mgu_trans hu hw, .inr ?_, hsw⟩
              rcases hl with rfl | hl
              · exact hlt
              · omega
            · exact .inr (nou_right hu hno)
        · exact .inr (nou_left hno)
      · exact twoS_or hs hsu oa ob wra wrb (fun h => walk_free hs h) (fun h => walk_free hs h) hp
/-- The unifier of two terms: its values are what it makes of their parts. -/
theorem mu_supp {P : Tm → Prop} (hP : PClosed P) {a b : Tm} (ha : Ok a) (hb : Ok b) (pa : P a) (pb : P b) (h : muB [] [(a, b)] = true) : SuppU P (muL [] [(a, b)]) := by
  rcases mguS_or hP _ _ [] a b substP_nil (fun c hc => by cases hc) ha hb ⟨a, pa, ha.2, rfl⟩ ⟨b, pb, hb.2, rfl⟩ (Nat.le_refl _) (Nat.le_refl _) with ⟨u, hu, _, hsu⟩ | hno
  · rw [(mu_yes hu).1]; exact hsu
  · rw [(mu_no hno).2] at h; cases h
end Go.Proofs.Ytbbgiefnmihmdaa

