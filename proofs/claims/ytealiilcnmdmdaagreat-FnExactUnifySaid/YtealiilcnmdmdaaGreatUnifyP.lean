/-
  Unification, plain: what a valuation of the variables makes of terms, what satisfies substitutions and equations; most general unifiers that fit: there is at most one.
-/
import Derived.Test.YtealiilcnmdmdaaGreatPutP
import Derived.Test.YtealiilcnmdmdaaGreatInsAsc
import Derived.Test.YtealiilcnmdmdaaGreatOrder
namespace Go.Proofs.YtealiilcnmdmdaaGreat
open Go.RowKit
set_option linter.unusedVariables false
set_option linter.unusedSimpArgs false

mutual
/-- What a valuation makes of a term. -/
def evT (f : Int → Tm) : Tm → Tm | .mk k i s l => if k = 1 then f i else .mk k i s (evL f l)
def evL (f : Int → Tm) : List Tm → List Tm | [] => [] | t :: l => evT f t :: evL f l
end
theorem ev_var (f : Int → Tm) (i : Int) : evT f (.mk 1 i ⟨#[]⟩ []) = f i := by rw [evT, if_pos rfl]
theorem ev_varTm (f : Int → Tm) (i : Int) : evT f (varTm i) = f i := ev_var f i
theorem ev_pair (f : Int → Tm) (a b : Tm) : evT f (.mk 4 0 ⟨#[]⟩ [a, b]) = .mk 4 0 ⟨#[]⟩ [evT f a, evT f b] := by rw [evT, if_neg (by decide), evL, evL, evL]
theorem ev_leaf (f : Int → Tm) {k i : Int} {s : ByteArray} (h : ¬ k = 1) : evT f (.mk k i s []) = .mk k i s [] := by rw [evT, if_neg h, evL]
theorem ev_kind {f : Int → Tm} {t : Tm} (h : ¬ t.kind = 1) : (evT f t).kind = t.kind ∧ (evT f t).num = t.num ∧ (evT f t).name = t.name := by
  cases t with
  | mk k i s l =>
    have h' : ¬ k = 1 := h
    rw [evT, if_neg h']
    exact ⟨rfl, rfl, rfl⟩
/-- Only the variables matter. -/
theorem ev_congr {f g : Int → Tm} {t : Tm} (h : Good t) (hv : ∀ v ∈ t.vl, f v = g v) : evT f t = evT g t := by
  induction h with
  | nil => rw [ev_leaf f (by decide), ev_leaf g (by decide)]
  | sym n hn => rw [ev_leaf f (by decide), ev_leaf g (by decide)]
  | int r h0 h1 => rw [ev_leaf f (by decide), ev_leaf g (by decide)]
  | var i h0 h1 => rw [ev_var, ev_var]; exact hv i (by simp [Tm.vl])
  | pair x y _ _ ihx ihy =>
    rw [vl_pair] at hv
    rw [ev_pair, ev_pair, ihx fun v h => hv v (List.mem_append_left _ h), ihy fun v h => hv v (List.mem_append_right _ h)]
theorem ev_self {t : Tm} (h : Good t) : evT varTm t = t := by
  induction h with
  | nil => rw [ev_leaf _ (by decide)]
  | sym n hn => rw [ev_leaf _ (by decide)]
  | int r h0 h1 => rw [ev_leaf _ (by decide)]
  | var i h0 h1 => rw [ev_var]; rfl
  | pair x y _ _ ihx ihy => rw [ev_pair, ihx, ihy]
theorem ev_nodes {f : Int → Tm} {t : Tm} (h : Good t) : t.nodes ≤ (evT f t).nodes := by
  induction h with
  | nil => rw [ev_leaf f (by decide)]; exact Nat.le_refl _
  | sym n hn => rw [ev_leaf f (by decide)]; exact Nat.le_refl _
  | int r h0 h1 => rw [ev_leaf f (by decide)]; exact Nat.le_refl _
  | var i h0 h1 => rw [ev_var]; have := nodes_pos (f i); rw [nodes_eq]; show 1 + nodesL [] ≤ _; rw [nodesL_nil]; omega
  | pair x y _ _ ihx ihy =>
    rw [ev_pair, nodes_eq, nodes_eq (.mk 4 0 ⟨#[]⟩ [evT f x, evT f y])]
    show 1 + nodesL [x, y] ≤ 1 + nodesL [evT f x, evT f y]
    simp only [nodesL]
    omega
theorem ev_in {f : Int → Tm} {t : Tm} (h : Good t) {v : Int} (hv : v ∈ t.vl) : (f v).nodes ≤ (evT f t).nodes := by
  induction h with
  | nil => simp [Tm.vl, vlL] at hv
  | sym n hn => simp [Tm.vl, vlL] at hv
  | int r h0 h1 => simp [Tm.vl, vlL] at hv
  | var i h0 h1 => have : v = i := by simpa [Tm.vl] using hv
                   subst this; rw [ev_var]; exact Nat.le_refl _
  | pair x y _ _ ihx ihy =>
    rw [vl_pair, List.mem_append] at hv
    rw [ev_pair, nodes_eq (.mk 4 0 ⟨#[]⟩ [evT f x, evT f y])]
    show _ ≤ 1 + nodesL [evT f x, evT f y]
    simp only [nodesL]
    rcases hv with hv | hv
    · have := ihx hv
      omega
    · have := ihy hv
      omega
theorem ev_occurs {f : Int → Tm} {t : Tm} (h : Good t) {v : Int} (hv : v ∈ t.vl) (hk : ¬ t.kind = 1) : ¬ f v = evT f t := by
  intro e
  cases h with
  | nil => simp [Tm.vl, vlL] at hv
  | sym n hn => simp [Tm.vl, vlL] at hv
  | int r h0 h1 => simp [Tm.vl, vlL] at hv
  | var i h0 h1 => exact hk rfl
  | pair x y hx hy =>
    rw [vl_pair, List.mem_append] at hv
    have hn := congrArg Tm.nodes e
    rw [ev_pair, nodes_eq (.mk 4 0 ⟨#[]⟩ [evT f x, evT f y])] at hn
    have hn2 : (f v).nodes = 1 + nodesL [evT f x, evT f y] := hn
    simp only [nodesL] at hn2
    rcases hv with hv | hv
    · have := ev_in (f := f) hx hv
      omega
    · have := ev_in (f := f) hy hv
      omega

/-- A valuation satisfies a list of bindings; equations. -/
def Sat (f : Int → Tm) (s : List Bd) : Prop := ∀ b ∈ s, f b.v = evT f b.t
def SolE (f : Int → Tm) (E : List (Tm × Tm)) : Prop := ∀ p ∈ E, evT f p.1 = evT f p.2
/-- A substitution as a valuation. -/
def sgm (s : List Bd) (v : Int) : Tm := putT s (varTm v)
theorem sgm_bound {s : List Bd} {v : Int} {t : Tm} (h : getO s v = some t) : sgm s v = t := putT_of h
theorem sgm_free {s : List Bd} {v : Int} (h : getO s v = none) : sgm s v = varTm v := putT_free h
theorem put_ev {s : List Bd} {t : Tm} (h : Good t) : putT s t = evT (sgm s) t := by
  induction h with
  | nil => rw [ev_leaf _ (by decide), putT_atom (by simp [Tm.kind]) (by simp [Tm.kind])]
  | sym n hn => rw [ev_leaf _ (by decide), putT_atom (by simp [Tm.kind]) (by simp [Tm.kind])]
  | int r h0 h1 => rw [ev_leaf _ (by decide), putT_atom (by simp [Tm.kind]) (by simp [Tm.kind])]
  | var i h0 h1 => rw [ev_var]; rfl
  | pair x y _ _ ihx ihy => rw [ev_pair, putT_two (x := x) (y := y) rfl rfl, ihx, ihy]
theorem sat_put {f : Int → Tm} {s : List Bd} (hs : Sat f s) {t : Tm} (h : Good t) : evT f (putT s t) = evT f t := by
  induction h with
  | nil => rw [putT_atom (by simp [Tm.kind]) (by simp [Tm.kind])]
  | sym n hn => rw [putT_atom (by simp [Tm.kind]) (by simp [Tm.kind])]
  | int r h0 h1 => rw [putT_atom (by simp [Tm.kind]) (by simp [Tm.kind])]
  | var i h0 h1 =>
    rw [ev_var]
    cases hg : getO s i with
    | none =>
      have e : putT s (Tm.mk 1 i ⟨#[]⟩ []) = varTm i := putT_free hg
      rw [e, ev_varTm]
    | some y =>
      have e : putT s (Tm.mk 1 i ⟨#[]⟩ []) = y := putT_of hg
      obtain ⟨b, hb, rfl, rfl⟩ := getO_some hg
      rw [e, hs b hb]
  | pair x y _ _ ihx ihy => rw [putT_two (x := x) (y := y) rfl rfl, ev_pair, ev_pair, ihx, ihy]
theorem get_asc : ∀ {s : List Bd}, s.Pairwise (fun a b => a.v < b.v) → ∀ b ∈ s, getO s b.v = some b.t
  | [], _, b, hb => by cases hb
  | c :: s, h, b, hb => by
    obtain ⟨h1, h2⟩ := List.pairwise_cons.1 h
    rw [getO]
    rcases List.mem_cons.1 hb with rfl | hb
    · exact if_pos rfl
    · have := h1 b hb
      rw [if_neg (by omega)]
      exact get_asc h2 b hb
theorem sgm_sat {s : List Bd} (h : SubstP s) : Sat (sgm s) s := fun b hb => by
  rw [sgm_bound (get_asc h.asc b hb), ← put_ev (h.good b hb), putT_same (h.good b hb) (h.2 b hb).2]
/-- What a substitution makes of a variable is small. -/
theorem sgm_small {s : List Bd} (h : SubstP s) (v : Int) : (sgm s v).nodes ≤ 5000 := by
  cases hg : getO s v with
  | none => rw [sgm_free hg, varTm, nodes_eq]; show 1 + nodesL [] ≤ _; rw [nodesL_nil]; decide
  | some y =>
    obtain ⟨b, hb, rfl, rfl⟩ := getO_some hg
    rw [sgm_bound hg]
    exact h.nodes b hb
theorem getO_ne {s : List Bd} {v : Int} : getO s v ≠ none ↔ ∃ b ∈ s, b.v = v := by
  constructor
  · intro h
    cases hg : getO s v with
    | none => exact absurd hg h
    | some y =>
      obtain ⟨b, hb, h1, _⟩ := getO_some hg
      exact ⟨b, hb, h1⟩
  · rintro ⟨b, hb, rfl⟩ h
    exact getO_none.1 h b hb rfl
/-- What a greater variable is bound to binds it in every substitution that satisfies it. -/
theorem dom_one {w : List Bd} (hw : SubstP w) {v : Int} {x : Tm} (hx : Good x) (ho : ¬ (x.kind = 1 ∧ v ≤ x.num)) (hs : sgm w v = evT (sgm w) x) : getO w v ≠ none := by
  intro hn
  rw [sgm_free hn] at hs
  by_cases hk : x.kind = 1
  · have hlt : x.num < v := by
      have : ¬ v ≤ x.num := fun h => ho ⟨hk, h⟩
      omega
    have e : evT (sgm w) x = sgm w x.num := by
      cases hx with
      | var i h0 h1 => exact ev_var _ i
      | nil => cases hk
      | sym n hn => cases hk
      | int r h0 h1 => cases hk
      | pair a b _ _ => cases hk
    rw [e] at hs
    cases hg : getO w x.num with
    | none =>
      rw [sgm_free hg] at hs
      have : v = x.num := congrArg Tm.num hs
      omega
    | some y =>
      rw [sgm_bound hg] at hs
      obtain ⟨c, hc, h1, h2⟩ := getO_some hg
      refine (hw.2 c hc).1 ⟨by rw [h2, ← hs]; rfl, ?_⟩
      have : c.t.num = v := by rw [h2, ← hs]; rfl
      omega
  · have := (ev_kind (f := sgm w) hk).1
    rw [← hs] at this
    exact hk this.symm
theorem dom_sub {s w : List Bd} (h : SubstP s) (hw : SubstP w) (hs : Sat (sgm w) s) {v : Int} (hv : getO s v ≠ none) : getO w v ≠ none := by
  obtain ⟨b, hb, rfl⟩ := getO_ne.1 hv
  exact dom_one hw (h.good b hb) (h.2 b hb).1 (hs b hb)
/-- Lists in ascending order that bind alike are one. -/
theorem bd_ext : ∀ {u w : List Bd}, u.Pairwise (fun a b => a.v < b.v) → w.Pairwise (fun a b => a.v < b.v) → (∀ v, getO u v = getO w v) → u = w
  | [], [], _, _, _ => rfl
  | [], c :: w, _, _, h => by have := h c.v; rw [getO, getO, if_pos rfl] at this; cases this
  | b :: u, [], _, _, h => by have := h b.v; rw [getO, getO, if_pos rfl] at this; cases this
  | b :: u, c :: w, h1, h2, h => by
    obtain ⟨p1, p2⟩ := List.pairwise_cons.1 h1
    obtain ⟨q1, q2⟩ := List.pairwise_cons.1 h2
    have key : b.v = c.v := by
      have e1 := h b.v
      have e2 : (if b.v = c.v then some b.t else getO u c.v) = (if c.v = c.v then some c.t else getO w c.v) := h c.v
      rw [getO, if_pos rfl] at e1
      rw [if_pos (rfl : c.v = c.v)] at e2
      obtain ⟨d, hd, hdv, _⟩ := getO_some e1.symm
      have l1 : c.v ≤ b.v := by
        rcases List.mem_cons.1 hd with rfl | hd
        · omega
        · have := q1 d hd; omega
      have l2 : b.v ≤ c.v := by
        by_cases e : b.v = c.v
        · omega
        · rw [if_neg e] at e2
          obtain ⟨d, hd, hdv, _⟩ := getO_some e2
          have := p1 d hd
          omega
      omega
    have ht : b.t = c.t := by
      have e1 := h b.v
      rw [getO, getO, if_pos rfl, if_pos key.symm] at e1
      exact Option.some.inj e1
    have hbc : b = c := by cases b; cases c; cases key; cases ht; rfl
    subst hbc
    rw [bd_ext p2 q2 fun v => ?_]
    have e := h v
    rw [getO, getO] at e
    by_cases hv : b.v = v
    · subst hv
      rw [getO_none.2 fun d hd e => by have := p1 d hd; omega, getO_none.2 fun d hd e => by have := q1 d hd; omega]
    · rwa [if_neg hv, if_neg hv] at e
/-- Substitutions that the same valuations satisfy are one. -/
theorem subst_ext {u w : List Bd} (hu : SubstP u) (hw : SubstP w) (h1 : Sat (sgm u) w) (h2 : Sat (sgm w) u) : u = w := by
  refine bd_ext hu.asc hw.asc fun v => ?_
  cases hg : getO u v with
  | none =>
    cases hg' : getO w v with
    | none => rfl
    | some y => exact absurd hg (dom_sub hw hu h1 (by rw [hg']; simp))
  | some x =>
    cases hg' : getO w v with
    | none => exact absurd hg' (dom_sub hu hw h2 (by rw [hg]; simp))
    | some y =>
      obtain ⟨c, hc, rfl, rfl⟩ := getO_some hg'
      have e := h1 c hc
      rw [sgm_bound hg, ← put_ev (hw.good c hc), putT_same (hw.good c hc) fun z hz => ?_] at e
      · rw [e]
      · cases hz' : getO u z with
        | none => rfl
        | some q => exact absurd ((hw.2 c hc).2 z hz) (dom_sub hu hw h2 (by rw [hz']; simp))
/-- Bound variables in ascending order that are bound in another list are not more than its. -/
theorem asc_count : ∀ {w s : List Bd}, w.Pairwise (fun a b => a.v < b.v) → s.Pairwise (fun a b => a.v < b.v) → (∀ b ∈ s, getO w b.v ≠ none) → s.length ≤ w.length
  | [], [], _, _, _ => Nat.le_refl _
  | [], b :: s, _, _, h => absurd rfl (h b (by simp))
  | c :: w, [], _, _, _ => Nat.zero_le _
  | c :: w, b :: s, h1, h2, h => by
    obtain ⟨p1, p2⟩ := List.pairwise_cons.1 h1
    obtain ⟨q1, q2⟩ := List.pairwise_cons.1 h2
    have hcb : c.v ≤ b.v := by
      obtain ⟨d, hd, hdv⟩ := getO_ne.1 (h b (by simp))
      rcases List.mem_cons.1 hd with rfl | hd
      · omega
      · have := p1 d hd; omega
    have := asc_count p2 q2 fun d hd => by
      have hb := q1 d hd
      have := h d (by simp [hd])
      rw [getO, if_neg (by omega)] at this
      exact this
    simp only [List.length_cons]
    omega

/-- The most general substitution that satisfies a substitution and equations; that none that fits does. -/
structure Mgu (s : List Bd) (E : List (Tm × Tm)) (u : List Bd) : Prop where
  ok : SubstP u
  iff : ∀ f, Sat f u ↔ Sat f s ∧ SolE f E
def NoU (s : List Bd) (E : List (Tm × Tm)) : Prop := ∀ w, SubstP w → Sat (sgm w) s → SolE (sgm w) E → False
theorem mgu_one {s u w : List Bd} {E : List (Tm × Tm)} (hu : Mgu s E u) (hw : Mgu s E w) : u = w :=
  subst_ext hu.ok hw.ok ((hw.iff _).2 ((hu.iff _).1 (sgm_sat hu.ok))) ((hu.iff _).2 ((hw.iff _).1 (sgm_sat hw.ok)))
theorem mgu_not {s u : List Bd} {E : List (Tm × Tm)} (hu : Mgu s E u) (hn : NoU s E) : False := by
  obtain ⟨h1, h2⟩ := (hu.iff _).1 (sgm_sat hu.ok)
  exact hn u hu.ok h1 h2
theorem solE_nil (f : Int → Tm) : SolE f [] := fun p hp => by cases hp
theorem solE_cons {f : Int → Tm} {p : Tm × Tm} {E : List (Tm × Tm)} : SolE f (p :: E) ↔ evT f p.1 = evT f p.2 ∧ SolE f E := by simp [SolE]
theorem solE_app {f : Int → Tm} {E F : List (Tm × Tm)} : SolE f (E ++ F) ↔ SolE f E ∧ SolE f F := by
  simp only [SolE, List.mem_append]
  exact ⟨fun h => ⟨fun p hp => h p (.inl hp), fun p hp => h p (.inr hp)⟩, fun h p hp => hp.elim (h.1 p) (h.2 p)⟩
theorem mgu_refl {s : List Bd} {E : List (Tm × Tm)} (hs : SubstP s) (h : ∀ f, Sat f s → SolE f E) : Mgu s E s := ⟨hs, fun f => ⟨fun h1 => ⟨h1, h f h1⟩, fun h1 => h1.1⟩⟩
theorem mgu_trans {s u w : List Bd} {E F : List (Tm × Tm)} (h1 : Mgu s E u) (h2 : Mgu u F w) : Mgu s (E ++ F) w :=
  ⟨h2.ok, fun f => by rw [h2.iff, h1.iff, solE_app]; exact ⟨fun h => ⟨h.1.1, h.1.2, h.2⟩, fun h => ⟨⟨h.1, h.2.1⟩, h.2.2⟩⟩⟩
theorem nou_left {s : List Bd} {E F : List (Tm × Tm)} (h : NoU s E) : NoU s (E ++ F) := fun w hw h1 h2 => h w hw h1 (solE_app.1 h2).1
theorem nou_right {s u : List Bd} {E F : List (Tm × Tm)} (h1 : Mgu s E u) (h2 : NoU u F) : NoU s (E ++ F) := fun w hw h3 h4 => h2 w hw ((h1.iff _).2 ⟨h3, (solE_app.1 h4).1⟩) (solE_app.1 h4).2
theorem mgu_congr {s u : List Bd} {E F : List (Tm × Tm)} (h : ∀ f, Sat f s → (SolE f E ↔ SolE f F)) (hu : Mgu s E u) : Mgu s F u :=
  ⟨hu.ok, fun f => by rw [hu.iff]; exact ⟨fun k => ⟨k.1, (h f k.1).1 k.2⟩, fun k => ⟨k.1, (h f k.1).2 k.2⟩⟩⟩
theorem nou_congr {s : List Bd} {E F : List (Tm × Tm)} (h : ∀ f, Sat f s → (SolE f E ↔ SolE f F)) (hn : NoU s E) : NoU s F := fun w hw h1 h2 => hn w hw h1 ((h _ h1).2 h2)
open Classical in
/-- Whether there is a most general unifier that fits. -/
noncomputable def muB (s : List Bd) (E : List (Tm × Tm)) : Bool := decide (∃ u, Mgu s E u)
open Classical in
noncomputable def muL (s : List Bd) (E : List (Tm × Tm)) : List Bd := if h : ∃ u, Mgu s E u then Classical.choose h else []
open Classical in
theorem mu_yes {s u : List Bd} {E : List (Tm × Tm)} (h : Mgu s E u) : muL s E = u ∧ muB s E = true := by
  have hx : ∃ u, Mgu s E u := ⟨u, h⟩
  exact ⟨by rw [muL, dif_pos hx]; exact mgu_one (Classical.choose_spec hx) h, by unfold muB; exact decide_eq_true hx⟩
open Classical in
theorem mu_no {s : List Bd} {E : List (Tm × Tm)} (h : NoU s E) : muL s E = [] ∧ muB s E = false := by
  have hx : ¬ ∃ u, Mgu s E u := fun ⟨u, hu⟩ => mgu_not hu h
  exact ⟨by rw [muL, dif_neg hx], by unfold muB; exact decide_eq_false hx⟩
end Go.Proofs.YtealiilcnmdmdaaGreat

