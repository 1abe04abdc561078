/-
  One step of unification, plain: a variable is bound; when it can't be; the cases of two terms.
-/
import Derived.Test.YtealiilcnmdmdaaGreatUnifyP
namespace Go.Proofs.YtealiilcnmdmdaaGreat
open Go.RowKit
set_option linter.unusedVariables false
set_option linter.unusedSimpArgs false

theorem put_v1 (v : Int) (x : Tm) : (Tm.mk 1 v ⟨#[]⟩ []).put v x = x := put_var (t := .mk 1 v ⟨#[]⟩ []) ⟨rfl, rfl⟩
theorem put_v2 {i v : Int} (h : ¬ i = v) (x : Tm) : (Tm.mk 1 i ⟨#[]⟩ []).put v x = .mk 1 i ⟨#[]⟩ [] := put_atom (t := .mk 1 i ⟨#[]⟩ []) (fun k => h k.2) rfl
theorem vrange {t : Tm} (h : Good t) (hk : t.kind = 1) : 0 ≤ t.num ∧ t.num ≤ 100000 := by
  cases h with
  | nil => cases hk
  | sym n hn => cases hk
  | int r h0 h1 => cases hk
  | var i h0 h1 => exact ⟨h0, h1⟩
  | pair x y _ _ => cases hk
theorem ev_put {f : Int → Tm} {v : Int} {x t : Tm} (h : Good t) (e : f v = evT f x) : evT f (t.put v x) = evT f t := by
  induction h with
  | nil => rw [put_atom (by simp [Tm.kind]) rfl]
  | sym n hn => rw [put_atom (by simp [Tm.kind]) rfl]
  | int r h0 h1 => rw [put_atom (by simp [Tm.kind]) rfl]
  | var i h0 h1 =>
    by_cases hi : i = v
    · subst hi
      rw [put_v1, ev_var, e]
    · rw [put_v2 hi]
  | pair a b _ _ iha ihb => rw [put_pair (x := a) (y := b) (by simp [Tm.kind]) rfl]; show evT f (.mk 4 0 ⟨#[]⟩ [a.put v x, b.put v x]) = _; rw [ev_pair, ev_pair, iha, ihb]
theorem put_vars {v : Int} {x t : Tm} (h : Good t) : ∀ u ∈ (t.put v x).vl, (u ∈ t.vl ∧ u ≠ v) ∨ (v ∈ t.vl ∧ u ∈ x.vl) := by
  induction h with
  | nil => intro u hu; rw [put_atom (by simp [Tm.kind]) rfl] at hu; simp [Tm.vl, vlL] at hu
  | sym n hn => intro u hu; rw [put_atom (by simp [Tm.kind]) rfl] at hu; simp [Tm.vl, vlL] at hu
  | int r h0 h1 => intro u hu; rw [put_atom (by simp [Tm.kind]) rfl] at hu; simp [Tm.vl, vlL] at hu
  | var i h0 h1 =>
    intro u hu
    by_cases hi : i = v
    · subst hi
      rw [put_v1] at hu
      exact .inr ⟨by simp [Tm.vl], hu⟩
    · rw [put_v2 hi] at hu
      have : u = i := by simpa [Tm.vl] using hu
      subst this
      exact .inl ⟨by simp [Tm.vl], hi⟩
  | pair a b _ _ iha ihb =>
    intro u hu
    rw [put_pair (x := a) (y := b) (by simp [Tm.kind]) rfl] at hu
    have hu2 : u ∈ (Tm.mk 4 0 ⟨#[]⟩ [a.put v x, b.put v x]).vl := hu
    rw [vl_pair, List.mem_append] at hu2
    rw [vl_pair]
    rcases hu2 with hu | hu
    · rcases iha u hu with ⟨h1, h2⟩ | ⟨h1, h2⟩
      · exact .inl ⟨List.mem_append_left _ h1, h2⟩
      · exact .inr ⟨List.mem_append_left _ h1, h2⟩
    · rcases ihb u hu with ⟨h1, h2⟩ | ⟨h1, h2⟩
      · exact .inl ⟨List.mem_append_right _ h1, h2⟩
      · exact .inr ⟨List.mem_append_right _ h1, h2⟩
theorem put_kind {v : Int} {x t : Tm} (h : Good t) (hk : (t.put v x).kind = 1) : t.kind = 1 ∧ (t.put v x = t ∨ (t.num = v ∧ t.put v x = x)) := by
  by_cases h1 : t.kind = 1
  · refine ⟨h1, ?_⟩
    by_cases hv : t.num = v
    · exact .inr ⟨hv, put_var ⟨h1, hv⟩⟩
    · refine .inl (put_atom (fun h => hv h.2) ?_)
      rcases good_args_cases h with ⟨h4, _⟩ | ⟨_, ha⟩
      · omega
      · exact ha
  · rw [put_eq, if_neg (fun h => h1 h.1)] at hk
    exact absurd hk h1
theorem subst_mk {l : List Bd} (hp : l.Pairwise (fun a b => a.v < b.v)) (hl : l.length ≤ 400) (hb : ∀ b ∈ l, (0 ≤ b.v ∧ b.v ≤ 100000) ∧ Ok b.t ∧ ¬ (b.t.kind = 1 ∧ b.v ≤ b.t.num) ∧ ∀ u ∈ b.t.vl, getO l u = none) : SubstP l := by
  refine ⟨⟨fun k x hx => ?_, fun k x y hx hy => ?_, hl⟩, fun b h => ⟨(hb b h).2.2.1, (hb b h).2.2.2⟩⟩
  · have := hb x (List.mem_of_getElem? hx)
    exact ⟨this.1, this.2.1⟩
  · obtain ⟨h1, e1⟩ := List.getElem?_eq_some_iff.1 hx
    obtain ⟨h2, e2⟩ := List.getElem?_eq_some_iff.1 hy
    have := List.pairwise_iff_getElem.1 hp k (k + 1) h1 h2 (by omega)
    rwa [e1, e2] at this
theorem SubstP.var {s : List Bd} (h : SubstP s) {b : Bd} (hb : b ∈ s) : 0 ≤ b.v ∧ b.v ≤ 100000 := by
  obtain ⟨i, hi⟩ := List.getElem?_of_mem hb
  exact (h.1.1 i b hi).1
theorem put_free {s : List Bd} (hs : SubstP s) {t : Tm} (h : Good t) : ∀ u ∈ (putT s t).vl, getO s u = none := by
  intro u hu
  rcases putT_vl h u hu with ⟨_, h2⟩ | ⟨v, _, y, hy, h2⟩
  · exact h2
  · obtain ⟨b, hb, _, rfl⟩ := getO_some hy
    exact (hs.2 b hb).2 u h2

/-- A variable bound: it is replaced in all that is bound, and put in its place. -/
def bindS (s : List Bd) (v : Int) (x : Tm) : List Bd := insB (s.map fun b => ⟨b.v, b.t.put v x⟩) ⟨v, x⟩
theorem bind_mem {s : List Bd} {v : Int} {x : Tm} {c : Bd} : c ∈ bindS s v x ↔ c = ⟨v, x⟩ ∨ ∃ b ∈ s, c = ⟨b.v, b.t.put v x⟩ := by
  unfold bindS
  rw [insB_mem, List.mem_map]
  exact ⟨fun h => h.imp id fun ⟨b, hb, e⟩ => ⟨b, hb, e.symm⟩, fun h => h.imp id fun ⟨b, hb, e⟩ => ⟨b, hb, e.symm⟩⟩
theorem bind_sat {f : Int → Tm} {s : List Bd} {v : Int} {x : Tm} (hg : ∀ b ∈ s, Good b.t) : Sat f (bindS s v x) ↔ Sat f s ∧ f v = evT f x := by
  constructor
  · intro h
    have hv : f v = evT f x := h ⟨v, x⟩ (bind_mem.2 (.inl rfl))
    refine ⟨fun b hb => ?_, hv⟩
    have := h ⟨b.v, b.t.put v x⟩ (bind_mem.2 (.inr ⟨b, hb, rfl⟩))
    rw [← ev_put (hg b hb) hv]
    exact this
  · rintro ⟨h, hv⟩ c hc
    rcases bind_mem.1 hc with rfl | ⟨b, hb, rfl⟩
    · exact hv
    · show f b.v = evT f (b.t.put v x)
      rw [ev_put (hg b hb) hv]
      exact h b hb
theorem map_asc {s : List Bd} {g : Bd → Bd} (h : s.Pairwise (fun a b => a.v < b.v)) (hg : ∀ b, (g b).v = b.v) : (s.map g).Pairwise (fun a b => a.v < b.v) :=
  List.pairwise_map.2 (h.imp fun {a b} hab => by rw [hg, hg]; exact hab)
theorem bind_subst {s : List Bd} {v : Int} {x : Tm} (hs : SubstP s) (hv : 0 ≤ v ∧ v ≤ 100000) (hfree : getO s v = none) (hx : Ok x) (hxv : ∀ u ∈ x.vl, getO s u = none ∧ u ≠ v) (ho : ¬ (x.kind = 1 ∧ v ≤ x.num)) (hl : s.length < 400) (hfit : ∀ b ∈ s, (b.t.put v x).nodes ≤ 5000) : SubstP (bindS s v x) := by
  have hout : ∀ u, getO s u = none → u ≠ v → getO (bindS s v x) u = none := by
    intro u h1 h2
    rw [getO_none]
    intro c hc
    rcases bind_mem.1 hc with rfl | ⟨b, hb, rfl⟩
    · exact fun e => h2 e.symm
    · exact getO_none.1 h1 b hb
  refine subst_mk (insB_asc (map_asc hs.asc fun b => rfl) fun c hc => ?_) (by unfold bindS; rw [insB_length, List.length_map]; omega) fun c hc => ?_
  · obtain ⟨b, hb, rfl⟩ := List.mem_map.1 hc
    exact getO_none.1 hfree b hb
  · rcases bind_mem.1 hc with rfl | ⟨b, hb, rfl⟩
    · exact ⟨hv, hx, ho, fun u hu => hout u (hxv u hu).1 (hxv u hu).2⟩
    · have hg := hs.good b hb
      obtain ⟨hob, hfb⟩ := hs.2 b hb
      refine ⟨(show 0 ≤ b.v ∧ b.v ≤ 100000 from hs.var hb), ⟨hfit b hb, good_put hx.2 hg⟩, fun ⟨hk, hle⟩ => ?_, fun u hu => ?_⟩
      · obtain ⟨h1, h2 | ⟨h2, h3⟩⟩ := put_kind hg hk
        · have hle' : b.v ≤ (b.t.put v x).num := hle
          rw [h2] at hle'
          exact hob ⟨h1, hle'⟩
        · have hle' : b.v ≤ (b.t.put v x).num := hle
          have hk' : (b.t.put v x).kind = 1 := hk
          rw [h3] at hle' hk'
          have h4 : ¬ v ≤ x.num := fun h => ho ⟨hk', h⟩
          have h5 : ¬ b.v ≤ b.t.num := fun h => hob ⟨h1, h⟩
          omega
      · rcases put_vars hg u hu with ⟨h1, h2⟩ | ⟨h1, h2⟩
        · exact hout u (hfb u h1) h2
        · exact hout u (hxv u h2).1 (hxv u h2).2
theorem sol_one {f : Int → Tm} {p : Tm × Tm} : SolE f [p] ↔ evT f p.1 = evT f p.2 := by rw [solE_cons]; exact ⟨fun h => h.1, fun h => ⟨h, solE_nil f⟩⟩
/-- A variable that is free is bound. -/
theorem bind_mgu {s : List Bd} {v : Int} {t : Tm} (hs : SubstP s) (hv : 0 ≤ v ∧ v ≤ 100000) (hfree : getO s v = none) (ht : Good t) (hn : (putT s t).nodes ≤ 5000) (hocc : ¬ v ∈ (putT s t).vl) (ho : ¬ ((putT s t).kind = 1 ∧ v ≤ (putT s t).num)) (hl : s.length < 400) (hfit : ∀ b ∈ s, (b.t.put v (putT s t)).nodes ≤ 5000) :
    Mgu s [(varTm v, t)] (bindS s v (putT s t)) := by
  refine ⟨bind_subst hs hv hfree ⟨hn, putT_good hs.good t.nodes t (Nat.le_refl _) ht⟩ (fun u hu => ⟨put_free hs ht u hu, fun e => hocc (e ▸ hu)⟩) ho hl hfit, fun f => ?_⟩
  rw [bind_sat hs.good, sol_one, ev_varTm]
  exact ⟨fun h => ⟨h.1, by rw [h.2, sat_put h.1 ht]⟩, fun h => ⟨h.1, by rw [sat_put h.1 ht]; exact h.2⟩⟩
/-- Where it can't be bound, no substitution that fits satisfies the equation. -/
theorem bind_no {s : List Bd} {v : Int} {t : Tm} (hs : SubstP s) (hfree : getO s v = none) (ht : Good t) (ho : ¬ ((putT s t).kind = 1 ∧ v ≤ (putT s t).num))
    (h : 5000 < (putT s t).nodes ∨ (v ∈ (putT s t).vl ∧ ¬ (putT s t).kind = 1) ∨ 400 ≤ s.length ∨ ∃ b ∈ s, 5000 < (b.t.put v (putT s t)).nodes) : NoU s [(varTm v, t)] := by
  intro w hw h1 h2
  have hx := putT_good hs.good t.nodes t (Nat.le_refl _) ht
  have e : sgm w v = evT (sgm w) (putT s t) := by
    rw [sol_one, ev_varTm] at h2
    rw [sat_put h1 ht]; exact h2
  have hsm := sgm_small hw
  rcases h with h | ⟨h, hk⟩ | h | ⟨b, hb, h⟩
  · have h3 := ev_nodes (f := sgm w) hx
    rw [← e] at h3
    have := hsm v
    omega
  · exact ev_occurs hx h hk e
  · have ha := insB_asc (b := ⟨v, putT s t⟩) hs.asc fun c hc => getO_none.1 hfree c hc
    have := asc_count hw.asc ha fun c hc => by
      rcases insB_mem.1 hc with rfl | hc
      · exact dom_one hw hx ho e
      · exact dom_sub hs hw h1 (getO_ne.2 ⟨c, hc, rfl⟩)
    rw [insB_length] at this
    have := hw.1.2.2
    omega
  · have h3 := ev_nodes (f := sgm w) (good_put (v := v) hx (hs.good b hb))
    rw [ev_put (hs.good b hb) e, ← h1 b hb] at h3
    have := hsm b.v
    omega

/-- A bound variable replaced. -/
def walkT (s : List Bd) (t : Tm) : Tm := if t.kind = 1 then (match getO s t.num with | some x => x | none => t) else t
theorem walk_ok {s : List Bd} (hs : SubstP s) {t : Tm} (h : Ok t) : Ok (walkT s t) := by
  unfold walkT
  by_cases hk : t.kind = 1
  · rw [if_pos hk]
    cases hg : getO s t.num with
    | none => exact h
    | some y =>
      obtain ⟨b, hb, _, rfl⟩ := getO_some hg
      exact ⟨hs.nodes b hb, hs.good b hb⟩
  · rw [if_neg hk]; exact h
theorem var_is {t : Tm} (h : Good t) (hk : t.kind = 1) : t = varTm t.num := by
  cases h with
  | nil => cases hk
  | sym n hn => cases hk
  | int r h0 h1 => cases hk
  | var i h0 h1 => rfl
  | pair x y _ _ => cases hk
theorem walk_ev {f : Int → Tm} {s : List Bd} (hs : Sat f s) {t : Tm} (h : Good t) : evT f (walkT s t) = evT f t := by
  unfold walkT
  by_cases hk : t.kind = 1
  · rw [if_pos hk]
    cases hg : getO s t.num with
    | none => rfl
    | some y =>
      obtain ⟨b, hb, hbv, rfl⟩ := getO_some hg
      show evT f b.t = _
      rw [← hs b hb, hbv, var_is h hk, ev_varTm]
      rfl
  · rw [if_neg hk]
theorem walk_free {s : List Bd} (hs : SubstP s) {t : Tm} (hk : (walkT s t).kind = 1) : getO s (walkT s t).num = none := by
  unfold walkT at hk ⊢
  by_cases h1 : t.kind = 1
  · rw [if_pos h1] at hk ⊢
    cases hg : getO s t.num with
    | none => exact hg
    | some y =>
      rw [hg] at hk
      obtain ⟨b, hb, _, rfl⟩ := getO_some hg
      have hk' : b.t.kind = 1 := hk
      exact (hs.2 b hb).2 b.t.num (by rw [vl_of_var hk']; simp)
  · rw [if_neg h1] at hk
    exact absurd hk h1
/-- The equation of two terms is that of the two walked. -/
theorem walk_eqn {f : Int → Tm} {s : List Bd} (hs : Sat f s) {a b : Tm} (ha : Good a) (hb : Good b) : SolE f [(walkT s a, walkT s b)] ↔ SolE f [(a, b)] := by
  rw [sol_one, sol_one, walk_ev hs ha, walk_ev hs hb]
theorem swap_eqn {f : Int → Tm} {a b : Tm} : SolE f [(a, b)] ↔ SolE f [(b, a)] := by rw [sol_one, sol_one]; exact eq_comm
theorem clash_no {s : List Bd} {a b : Tm} (ha : ¬ a.kind = 1) (hb : ¬ b.kind = 1) (h : ¬ (a.kind = b.kind ∧ a.num = b.num ∧ a.name = b.name)) : NoU s [(a, b)] := by
  intro w _ _ h2
  rw [sol_one] at h2
  obtain ⟨a1, a2, a3⟩ := ev_kind (f := sgm w) ha
  obtain ⟨b1, b2, b3⟩ := ev_kind (f := sgm w) hb
  have h2' : evT (sgm w) a = evT (sgm w) b := h2
  rw [h2'] at a1 a2 a3
  exact h ⟨a1.symm.trans b1, a2.symm.trans b2, a3.symm.trans b3⟩
theorem evL_zip {f : Int → Tm} : ∀ {l m : List Tm}, l.length = m.length → (evL f l = evL f m ↔ SolE f (l.zip m))
  | [], [], _ => ⟨fun _ => solE_nil f, fun _ => rfl⟩
  | a :: l, b :: m, h => by
    rw [evL, evL, List.zip_cons_cons, solE_cons, List.cons.injEq, evL_zip (by simpa using h)]
/-- Two terms of one head are equal exactly if their arguments are. -/
theorem args_eqn {f : Int → Tm} {a b : Tm} (ha : ¬ a.kind = 1) (hk : a.kind = b.kind ∧ a.num = b.num ∧ a.name = b.name) (hl : a.args.length = b.args.length) : SolE f (a.args.zip b.args) ↔ SolE f [(a, b)] := by
  cases a with
  | mk k i s l =>
    cases b with
    | mk k' i' s' m =>
      obtain ⟨e1, e2, e3⟩ := hk
      have e1' : k = k' := e1
      have e2' : i = i' := e2
      have e3' : s = s' := e3
      subst e1' e2' e3'
      have hk1 : ¬ k = 1 := ha
      rw [sol_one]
      show SolE f (l.zip m) ↔ evT f (.mk k i s l) = evT f (.mk k i s m)
      rw [evT, evT, if_neg hk1, if_neg hk1, Tm.mk.injEq, ← evL_zip (show l.length = m.length from hl)]
      exact ⟨fun h => ⟨rfl, rfl, rfl, h⟩, fun h => h.2.2.2⟩
theorem zip_take {l m : List Tm} {k : Nat} {x y : Tm} (hx : l[k]? = some x) (hy : m[k]? = some y) : (l.take (k + 1)).zip (m.take (k + 1)) = (l.take k).zip (m.take k) ++ [(x, y)] := by
  have h1 := (List.getElem?_eq_some_iff.1 hx).1
  have h2 := (List.getElem?_eq_some_iff.1 hy).1
  rw [List.take_add_one, List.take_add_one, hx, hy]
  exact List.zip_append (by rw [List.length_take, List.length_take]; omega)
end Go.Proofs.YtealiilcnmdmdaaGreat

