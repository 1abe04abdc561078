/-
  Unification, plain: either there is a most general unifier that fits, or no substitution that fits is a unifier; the answers of chapter 6.
-/
import Derived.Test.YtealiilcnmdmdaaGreatBindP
namespace Go.Proofs.YtealiilcnmdmdaaGreat
open Go.RowKit
set_option linter.unusedVariables false
set_option linter.unusedSimpArgs false

/-- One or the other; a unifier that is not the substitution itself binds more. -/
def Out (s : List Bd) (E : List (Tm × Tm)) : Prop := (∃ u, Mgu s E u ∧ (u = s ∨ s.length < u.length)) ∨ NoU s E
theorem out_congr {s : List Bd} {E F : List (Tm × Tm)} (h : ∀ f, Sat f s → (SolE f E ↔ SolE f F)) (ho : Out s E) : Out s F := ho.imp (fun ⟨u, h1, h2⟩ => ⟨u, mgu_congr h h1, h2⟩) (nou_congr h)
theorem bind_length (s : List Bd) (v : Int) (x : Tm) : (bindS s v x).length = s.length + 1 := by unfold bindS; rw [insB_length, List.length_map]
theorem bind_or {s : List Bd} {v : Int} {t : Tm} (hs : SubstP s) (hv : 0 ≤ v ∧ v ≤ 100000) (hfree : getO s v = none) (ht : Good t) (ho : ¬ ((putT s t).kind = 1 ∧ v ≤ (putT s t).num)) : Out s [(varTm v, t)] := by
  by_cases h1 : 5000 < (putT s t).nodes
  · exact .inr (bind_no hs hfree ht ho (.inl h1))
  by_cases h2 : v ∈ (putT s t).vl
  · refine .inr (bind_no hs hfree ht ho (.inr (.inl ⟨h2, fun hk => ho ⟨hk, ?_⟩⟩)))
    rw [vl_of_var hk] at h2
    have : v = (putT s t).num := by simpa using h2
    omega
  by_cases h3 : 400 ≤ s.length
  · exact .inr (bind_no hs hfree ht ho (.inr (.inr (.inl h3))))
  by_cases h4 : ∃ b ∈ s, 5000 < (b.t.put v (putT s t)).nodes
  · exact .inr (bind_no hs hfree ht ho (.inr (.inr (.inr h4))))
  refine .inl ⟨_, bind_mgu hs hv hfree ht (by omega) h2 ho (by omega) fun b hb => ?_, .inr (by rw [bind_length]; omega)⟩
  have : ¬ 5000 < (b.t.put v (putT s t)).nodes := fun h => h4 ⟨b, hb, h⟩
  omega
theorem put_walk {s : List Bd} (hs : SubstP s) (t : Tm) : putT s (walkT s t) = putT s t := by
  unfold walkT
  by_cases hk : t.kind = 1
  · rw [if_pos hk]
    cases hg : getO s t.num with
    | none => rfl
    | some y =>
      obtain ⟨b, hb, _, rfl⟩ := getO_some hg
      rw [putT_var (t := t) hk, hg]
      show putT s b.t = b.t
      exact putT_same (hs.good b hb) (hs.2 b hb).2
  · rw [if_neg hk]
theorem put_notvar {s : List Bd} {t : Tm} (hk : ¬ t.kind = 1) : ¬ (putT s t).kind = 1 := by
  by_cases h4 : t.kind = 4
  · rw [putT_pair h4]; show ¬ (4 : Int) = 1; decide
  · rw [putT_atom hk h4]; exact hk
theorem good_leaf {t : Tm} (h : Good t) (h4 : ¬ t.kind = 4) : t.args = [] := by
  rcases good_args_cases h with ⟨h, _⟩ | ⟨_, h⟩
  · exact absurd h h4
  · exact h
theorem good_fields {a b : Tm} (h : a.kind = b.kind ∧ a.num = b.num ∧ a.name = b.name) (hl : a.args = b.args) : a = b := by
  cases a with
  | mk k i s l =>
    cases b with
    | mk k' i' s' m =>
      obtain ⟨e1, e2, e3⟩ := h
      have e1' : k = k' := e1
      have e2' : i = i' := e2
      have e3' : s = s' := e3
      have e4' : l = m := hl
      rw [e1', e2', e3', e4']
theorem good_pair {t : Tm} (h : Good t) (h4 : t.kind = 4) : ∃ x y, t = .mk 4 0 ⟨#[]⟩ [x, y] ∧ Good x ∧ Good y := by
  cases h with
  | nil => cases h4
  | sym n hn => cases h4
  | int r h0 h1 => cases h4
  | var i h0 h1 => cases h4
  | pair x y hx hy => exact ⟨x, y, rfl, hx, hy⟩
/-- Two walked terms that are not both pairs. -/
theorem two_or {s : List Bd} {a b : Tm} (hs : SubstP s) (ha : Ok a) (hb : Ok b) (hfa : a.kind = 1 → getO s a.num = none) (hfb : b.kind = 1 → getO s b.num = none) (hp : ¬ (a.kind = 4 ∧ b.kind = 4)) : Out s [(a, b)] := by
  by_cases h1 : a.kind = 1
  · have ea := var_is ha.2 h1
    have ra := vrange ha.2 h1
    have fa := hfa h1
    by_cases h2 : b.kind = 1
    · have eb := var_is hb.2 h2
      have rb := vrange hb.2 h2
      have fb := hfb h2
      have pa : putT s a = a := by rw [ea]; exact putT_free fa
      have pb : putT s b = b := by rw [eb]; exact putT_free fb
      by_cases h3 : a.num < b.num
      · have := bind_or (t := a) hs rb fb ha.2 (by rw [pa]; intro h; omega)
        rw [← eb] at this
        exact out_congr (fun f _ => swap_eqn) this
      · by_cases h4 : a.num = b.num
        · refine .inl ⟨s, mgu_refl hs fun f _ => ?_, .inl rfl⟩
          rw [sol_one, ea, eb, h4]
        · have := bind_or (t := b) hs ra fa hb.2 (by rw [pb]; intro h; omega)
          rwa [← ea] at this
    · have := bind_or (t := b) hs ra fa hb.2 (fun h => put_notvar h2 h.1)
      rwa [← ea] at this
  · by_cases h2 : b.kind = 1
    · have eb := var_is hb.2 h2
      have := bind_or (t := a) hs (vrange hb.2 h2) (hfb h2) ha.2 (fun h => put_notvar h1 h.1)
      rw [← eb] at this
      exact out_congr (fun f _ => swap_eqn) this
    · by_cases h3 : a.kind = b.kind ∧ a.num = b.num ∧ a.name = b.name
      · have ha4 : ¬ a.kind = 4 := fun h => hp ⟨h, by omega⟩
        have e := good_fields h3 (by rw [good_leaf ha.2 ha4, good_leaf hb.2 (by omega)])
        refine .inl ⟨s, mgu_refl hs fun f _ => ?_, .inl rfl⟩
        rw [sol_one, e]
      · exact .inr (clash_no h1 h2 h3)
theorem ok_two {x y : Tm} (h : Ok (.mk 4 0 ⟨#[]⟩ [x, y])) : Ok x ∧ Ok y := by
  obtain ⟨h1, h2⟩ := h
  have h3 : 1 + nodesL [x, y] ≤ 5000 := by rw [nodes_eq] at h1; exact h1
  simp only [nodesL] at h3
  cases h2 with
  | pair _ _ hx hy => exact ⟨⟨by omega, hx⟩, ⟨by omega, hy⟩⟩
theorem pair_eqn {f : Int → Tm} {x y z q : Tm} : SolE f ([(x, z)] ++ [(y, q)]) ↔ SolE f [(.mk 4 0 ⟨#[]⟩ [x, y], .mk 4 0 ⟨#[]⟩ [z, q])] := by
  rw [solE_app, sol_one, sol_one, sol_one]
  show evT f x = evT f z ∧ evT f y = evT f q ↔ evT f (.mk 4 0 ⟨#[]⟩ [x, y]) = evT f (.mk 4 0 ⟨#[]⟩ [z, q])
  rw [ev_pair, ev_pair]
  simp
theorem mgu_or : ∀ (n m : Nat) (s : List Bd) (a b : Tm), SubstP s → Ok a → Ok b → 401 - s.length ≤ n → (putT s a).nodes ≤ m → Out s [(a, b)] := by
  intro n
  induction n with
  | zero => intro m s a b hs _ _ hn; have := hs.1.2.2; omega
  | succ n ihn =>
    intro m
    induction m with
    | zero => intro s a b _ _ _ _ hm; have := nodes_pos (putT s a); omega
    | succ m ihm =>
      intro s a b hs ha hb hn hm
      refine out_congr (fun f hf => walk_eqn hf ha.2 hb.2) ?_
      have oa := walk_ok hs ha
      have ob := walk_ok hs hb
      by_cases hp : (walkT s a).kind = 4 ∧ (walkT s b).kind = 4
      · obtain ⟨x, y, ea, hx, hy⟩ := good_pair oa.2 hp.1
        obtain ⟨z, q, eb, hz, hq⟩ := good_pair ob.2 hp.2
        have hw := put_walk hs a
        rw [ea] at oa hw
        rw [eb] at ob
        rw [ea, eb]
        obtain ⟨ox, oy⟩ := ok_two oa
        obtain ⟨oz, oq⟩ := ok_two ob
        rw [putT_two (x := x) (y := y) rfl rfl] at hw
        have hnn : 1 + nodesL [putT s x, putT s y] ≤ m + 1 := by rw [← hw, nodes_eq] at hm; exact hm
        simp only [nodesL] at hnn
        refine out_congr (fun f _ => pair_eqn) ?_
        rcases ihm s x z hs ox oz hn (by omega) with ⟨u, hu, rfl | hlt⟩ | hno
        · rcases ihm u y q hs oy oq hn (by omega) with ⟨w, hw, hl⟩ | hno
          · exact .inl ⟨w, mgu_trans hu hw, hl⟩
          · exact .inr (nou_right hu hno)
        · rcases ihn (putT u y).nodes u y q hu.ok oy oq (by omega) (Nat.le_refl _) with ⟨w, hw, hl⟩ | hno
          · refine .inl ⟨w, mgu_trans hu hw, .inr ?_⟩
            rcases hl with rfl | hl
            · exact hlt
            · omega
          · exact .inr (nou_right hu hno)
        · exact .inr (nou_left hno)
      · exact two_or hs oa ob (fun h => walk_free hs h) (fun h => walk_free hs h) hp
/-- Equations all of whose terms are valid. -/
def OkE (E : List (Tm × Tm)) : Prop := ∀ p ∈ E, Ok p.1 ∧ Ok p.2
theorem out_all : ∀ (E : List (Tm × Tm)) (s : List Bd), SubstP s → OkE E → Out s E
  | [], s, hs, _ => .inl ⟨s, mgu_refl hs fun f _ => solE_nil f, .inl rfl⟩
  | p :: E, s, hs, hE => by
    obtain ⟨ha, hb⟩ := hE p (by simp)
    have hE' : OkE E := fun q hq => hE q (by simp [hq])
    rcases mgu_or _ _ s p.1 p.2 hs ha hb (Nat.le_refl _) (Nat.le_refl _) with ⟨u, hu, hl⟩ | hno
    · rcases out_all E u hu.ok hE' with ⟨w, hw, hl'⟩ | hno
      · refine .inl ⟨w, mgu_trans (E := [p]) hu hw, ?_⟩
        rcases hl with rfl | hl
        · exact hl'
        · rcases hl' with rfl | hl'
          · exact .inr hl
          · exact .inr (by omega)
      · exact .inr (nou_right (E := [p]) hu hno)
    · exact .inr (nou_left (E := [p]) hno)
theorem mu_true {s : List Bd} {E : List (Tm × Tm)} (hs : SubstP s) (hE : OkE E) (h : muB s E = true) : Mgu s E (muL s E) := by
  rcases out_all E s hs hE with ⟨u, hu, _⟩ | hno
  · rw [(mu_yes hu).1]; exact hu
  · rw [(mu_no hno).2] at h; cases h
theorem mu_false {s : List Bd} {E : List (Tm × Tm)} (hs : SubstP s) (hE : OkE E) (h : muB s E = false) : NoU s E := by
  rcases out_all E s hs hE with ⟨u, hu, _⟩ | hno
  · rw [(mu_yes hu).2] at h; cases h
  · exact hno
theorem mu_subst {s : List Bd} {E : List (Tm × Tm)} : muL s E = [] ∨ SubstP (muL s E) := by
  by_cases h : ∃ u, Mgu s E u
  · obtain ⟨u, hu⟩ := h
    rw [(mu_yes hu).1]
    exact .inr hu.ok
  · left
    unfold muL
    exact dif_neg h
/-- Equations that the same valuations solve have the same answer. -/
theorem mu_congr {s : List Bd} {E F : List (Tm × Tm)} (hs : SubstP s) (hE : OkE E) (h : ∀ f, Sat f s → (SolE f E ↔ SolE f F)) : muL s E = muL s F ∧ muB s E = muB s F := by
  rcases out_all E s hs hE with ⟨u, hu, _⟩ | hno
  · have h1 := mu_yes hu
    have h2 := mu_yes (mgu_congr h hu)
    exact ⟨by rw [h1.1, h2.1], by rw [h1.2, h2.2]⟩
  · have h1 := mu_no hno
    have h2 := mu_no (nou_congr h hno)
    exact ⟨by rw [h1.1, h2.1], by rw [h1.2, h2.2]⟩
/-- Solved in two steps. -/
theorem mu_step {s u : List Bd} {E F : List (Tm × Tm)} (hu : Mgu s E u) (hF : OkE F) : muL s (E ++ F) = muL u F ∧ muB s (E ++ F) = muB u F := by
  rcases out_all F u hu.ok hF with ⟨w, hw, _⟩ | hno
  · have h1 := mu_yes hw
    have h2 := mu_yes (mgu_trans hu hw)
    exact ⟨by rw [h1.1, h2.1], by rw [h1.2, h2.2]⟩
  · have h1 := mu_no hno
    have h2 := mu_no (nou_right hu hno)
    exact ⟨by rw [h1.1, h2.1], by rw [h1.2, h2.2]⟩

/-! The answers of UnifyAll, Unify, JoinSubst, NewBindings, IsUnifier. -/
def UaP (s : List Bd) (l r : List Tm) : Prop := SubstP s ∧ (∀ t ∈ l, Ok t) ∧ (∀ t ∈ r, Ok t) ∧ l.length = r.length
open Classical in
noncomputable def uaL (s : List Bd) (l r : List Tm) : List Bd := if UaP s l r then muL s (l.zip r) else []
open Classical in
noncomputable def uaB (s : List Bd) (l r : List Tm) : Bool := if UaP s l r then muB s (l.zip r) else false
theorem ua_yes {s : List Bd} {l r : List Tm} (h : UaP s l r) : uaL s l r = muL s (l.zip r) ∧ uaB s l r = muB s (l.zip r) := ⟨by rw [uaL, if_pos h], by rw [uaB, if_pos h]⟩
theorem ua_no {s : List Bd} {l r : List Tm} (h : ¬ UaP s l r) : uaL s l r = [] ∧ uaB s l r = false := ⟨by rw [uaL, if_neg h], by rw [uaB, if_neg h]⟩
theorem zip_ok {s : List Bd} {l r : List Tm} (h : UaP s l r) : OkE (l.zip r) := fun p hp => ⟨h.2.1 p.1 (List.of_mem_zip hp).1, h.2.2.1 p.2 (List.of_mem_zip hp).2⟩
noncomputable def unL (s : List Bd) (a b : Tm) : List Bd := uaL s [a] [b]
noncomputable def unB (s : List Bd) (a b : Tm) : Bool := uaB s [a] [b]
/-- The equations that bindings say. -/
def eqnsB (t : List Bd) : List (Tm × Tm) := t.map fun b => (varTm b.v, b.t)
theorem eqns_ok {t : List Bd} (h : SubstP t) : OkE (eqnsB t) := fun p hp => by
  obtain ⟨b, hb, rfl⟩ := List.mem_map.1 hp
  exact ⟨varTm_ok (h.var hb), ⟨h.nodes b hb, h.good b hb⟩⟩
theorem eqns_sat {f : Int → Tm} {t : List Bd} : SolE f (eqnsB t) ↔ Sat f t := by
  constructor
  · intro h b hb
    have := h (varTm b.v, b.t) (List.mem_map.2 ⟨b, hb, rfl⟩)
    rwa [ev_varTm] at this
  · intro h p hp
    obtain ⟨b, hb, rfl⟩ := List.mem_map.1 hp
    show evT f (varTm b.v) = _
    rw [ev_varTm]
    exact h b hb
open Classical in
noncomputable def jsL (s t : List Bd) : List Bd := if SubstP s ∧ SubstP t then muL s (eqnsB t) else []
open Classical in
noncomputable def jsB (s t : List Bd) : Bool := if SubstP s ∧ SubstP t then muB s (eqnsB t) else false
/-- The join does not depend on the order. -/
theorem js_comm (s t : List Bd) : jsL s t = jsL t s ∧ jsB s t = jsB t s := by
  by_cases h : SubstP s ∧ SubstP t
  · have h' : SubstP t ∧ SubstP s := ⟨h.2, h.1⟩
    rw [jsL, jsB, jsL, jsB, if_pos h, if_pos h, if_pos h', if_pos h']
    have flip : ∀ {s t u : List Bd}, SubstP s → SubstP t → Mgu s (eqnsB t) u → Mgu t (eqnsB s) u := fun hs ht hu => ⟨hu.ok, fun f => by rw [hu.iff, eqns_sat, eqns_sat]; exact and_comm⟩
    rcases out_all (eqnsB t) s h.1 (eqns_ok h.2) with ⟨u, hu, _⟩ | hno
    · have h1 := mu_yes hu
      have h2 := mu_yes (flip h.1 h.2 hu)
      exact ⟨by rw [h1.1, h2.1], by rw [h1.2, h2.2]⟩
    · have h1 := mu_no hno
      have h2 := mu_no (s := t) (E := eqnsB s) fun w hw k1 k2 => hno w hw (eqns_sat.1 k2) (eqns_sat.2 k1)
      exact ⟨by rw [h1.1, h2.1], by rw [h1.2, h2.2]⟩
  · have h' : ¬ (SubstP t ∧ SubstP s) := fun k => h ⟨k.2, k.1⟩
    rw [jsL, jsB, jsL, jsB, if_neg h, if_neg h, if_neg h', if_neg h']
    exact ⟨rfl, rfl⟩
end Go.Proofs.YtealiilcnmdmdaaGreat

