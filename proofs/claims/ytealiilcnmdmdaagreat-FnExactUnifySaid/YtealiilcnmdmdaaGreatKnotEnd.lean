/-
  The program's solver, plain: what its ties say in the end: the terms filled in, the bindings, that there is no solution that fits.
-/
import Derived.Test.YtealiilcnmdmdaaGreatKnotP
namespace Go.Proofs.YtealiilcnmdmdaaGreat
open Go.RowKit
set_option linter.unusedVariables false
set_option linter.unusedSimpArgs false

/-- What a term has to be. -/
def meanT (s : St) (t : Tm) : Tm := if t.kind = 1 then (match s.M t.num with | some b => s.tm (s.rep b) | none => t) else t
theorem mean_other {s : St} {t : Tm} (h : ¬ t.kind = 1) : meanT s t = t := if_neg h
theorem mean_free {s : St} {t : Tm} (h : t.kind = 1) (hm : s.M t.num = none) : meanT s t = t := by unfold meanT; rw [if_pos h, hm]
theorem mean_knot {s : St} {t : Tm} {b : Nat} (h : t.kind = 1) (hm : s.M t.num = some b) : meanT s t = s.tm (s.rep b) := by unfold meanT; rw [if_pos h, hm]
theorem KInv.mean_ok {s : St} {E : List (Tm × Tm)} (h : KInv s E) {t : Tm} (ht : Ok t) : Ok (meanT s t) := by
  by_cases hk : t.kind = 1
  · cases hm : s.M t.num with
    | none => rw [mean_free hk hm]; exact ht
    | some b => rw [mean_knot hk hm]; exact h.ok _ (h.repD b (h.maps _ b hm).1)
  · rw [mean_other hk]; exact ht
theorem KInv.mean_mean {s : St} {E : List (Tm × Tm)} (h : KInv s E) (t : Tm) : meanT s (meanT s t) = meanT s t := by
  by_cases hk : t.kind = 1
  · cases hm : s.M t.num with
    | none => rw [mean_free hk hm, mean_free hk hm]
    | some b =>
      rw [mean_knot hk hm]
      have hb := (h.maps _ b hm).1
      by_cases hr : (s.tm (s.rep b)).kind = 1
      · rw [mean_knot hr (h.vars _ (h.repD b hb) hr), h.repR b hb]
      · exact mean_other hr
  · rw [mean_other hk, mean_other hk]
/-- A term with all that is known filled in. -/
inductive Fill (s : St) : Tm → Tm → Prop
  | leaf {t : Tm} (h : ¬ (meanT s t).kind = 4) : Fill s t (meanT s t)
  | pair {t x y u v : Tm} (h : meanT s t = pairTm x y) (hx : Fill s x u) (hy : Fill s y v) : Fill s t (pairTm u v)
theorem Fill.one {s : St} {t u : Tm} (h : Fill s t u) : ∀ {v}, Fill s t v → u = v := by
  induction h with
  | leaf h =>
    intro v k
    cases k with
    | leaf _ => rfl
    | pair e _ _ => rw [e] at h; exact absurd rfl h
  | pair e hx hy ihx ihy =>
    intro v k
    cases k with
    | leaf h => rw [e] at h; exact absurd rfl h
    | pair e' hx' hy' =>
      rw [e] at e'
      simp only [pairTm, Tm.mk.injEq, List.cons.injEq, true_and, and_true] at e'
      obtain ⟨rfl, rfl⟩ := e'
      rw [ihx hx', ihy hy']
theorem Fill.inv {s : St} {t u : Tm} (h : Fill s t u) : (¬ (meanT s t).kind = 4 ∧ u = meanT s t) ∨ ∃ x y u' v', meanT s t = pairTm x y ∧ u = pairTm u' v' ∧ Fill s x u' ∧ Fill s y v' := by
  cases h with
  | leaf h => exact .inl ⟨h, rfl⟩
  | pair e hx hy => exact .inr ⟨_, _, _, _, e, rfl, hx, hy⟩
theorem Fill.mean {s : St} {E : List (Tm × Tm)} (h : KInv s E) {t u : Tm} (k : Fill s t u) : Fill s (meanT s t) u := by
  cases k with
  | leaf hk =>
    have := Fill.leaf (s := s) (t := meanT s t) (by rw [h.mean_mean]; exact hk)
    rwa [h.mean_mean] at this
  | pair e hx hy => exact .pair (by rw [h.mean_mean]; exact e) hx hy
/-- A valuation that keeps the ties of the variables. -/
def VTies (s : St) (f : Int → Tm) : Prop := ∀ v b, s.M v = some b → f v = evT f (s.tm (s.rep b))
theorem KInv.vties {s : St} {E : List (Tm × Tm)} (h : KInv s E) {f : Int → Tm} (k : Ties s f) : VTies s f := fun v b hm => by
  have h1 := h.maps v b hm
  have := k b h1.1
  rwa [h1.2, ev_varTm] at this
theorem ev_mean {s : St} {f : Int → Tm} (k : VTies s f) {t : Tm} (ht : Good t) : evT f (meanT s t) = evT f t := by
  by_cases hk : t.kind = 1
  · cases hm : s.M t.num with
    | none => rw [mean_free hk hm]
    | some b => rw [mean_knot hk hm, var_is ht hk, ev_varTm]; exact (k _ b hm).symm
  · rw [mean_other hk]
theorem good_pairTm {x y : Tm} (h : Good (pairTm x y)) : Good x ∧ Good y := by
  cases h with
  | pair _ _ hx hy => exact ⟨hx, hy⟩
theorem Fill.ev {s : St} {E : List (Tm × Tm)} (h : KInv s E) {f : Int → Tm} (k : VTies s f) {t u : Tm} (hf : Fill s t u) : Ok t → evT f u = evT f t := by
  induction hf with
  | leaf _ => intro ht; exact ev_mean k ht.2
  | pair e hx hy ihx ihy =>
    intro ht
    have hm := h.mean_ok ht
    rw [e] at hm
    have h2 := ok_two hm
    rw [← ev_mean k ht.2, e, ev_pairTm]
    exact ⟨ihx h2.1, ihy h2.2⟩
theorem Fill.good {s : St} {E : List (Tm × Tm)} (h : KInv s E) {t u : Tm} (hf : Fill s t u) : Ok t → Good u := by
  induction hf with
  | leaf _ => intro ht; exact (h.mean_ok ht).2
  | pair e hx hy ihx ihy =>
    intro ht
    have hm := h.mean_ok ht
    rw [e] at hm
    have h2 := ok_two hm
    exact .pair _ _ (ihx h2.1) (ihy h2.2)
/-- What is filled in has only variables that are roots. -/
theorem Fill.free {s : St} {E : List (Tm × Tm)} (h : KInv s E) {t u : Tm} (hf : Fill s t u) : Ok t → ∀ v ∈ u.vl, ∀ b, s.M v = some b → s.rep b = b := by
  induction hf with
  | @leaf t hk =>
    intro ht v hv b hm
    have hg := (h.mean_ok ht).2
    by_cases h1 : (meanT s t).kind = 1
    · rw [vl_of_var h1] at hv
      obtain rfl : v = (meanT s t).num := by simpa using hv
      have hmm := h.mean_mean t
      rw [mean_knot h1 hm] at hmm
      have hb := h.maps _ b hm
      have hrb := h.repD b hb.1
      have e1 : (s.tm (s.rep b)).kind = 1 := by rw [hmm]; exact h1
      have e2 := h.vars _ hrb e1
      rw [hmm, hm] at e2
      exact (Option.some.inj e2).symm
    · rw [vl_eq, if_neg h1, good_leaf hg hk, vlL_nil] at hv
      cases hv
  | pair e hx hy ihx ihy =>
    intro ht v hv b hm
    have hmo := h.mean_ok ht
    rw [e] at hmo
    have h2 := ok_two hmo
    rw [pairTm, vl_pair, List.mem_append] at hv
    rcases hv with hv | hv
    · exact ihx h2.1 v hv b hm
    · exact ihy h2.2 v hv b hm
theorem pairTm_nodes (x y : Tm) : (pairTm x y).nodes = 1 + x.nodes + y.nodes := by
  rw [pairTm, nodes_eq]; show 1 + nodesL [x, y] = _; simp only [nodesL]; omega
/-- How much room a term leaves. -/
def RoomS (s : St) (t : Tm) (room r : Int) : Prop := (∃ u, Fill s t u ∧ 0 ≤ r ∧ r = room - u.nodes) ∨ (r < 0 ∧ -1 ≤ r ∧ ∀ f, VTies s f → room < (evT f t).nodes)
theorem room_neg {s : St} {t : Tm} {room : Int} (h : room < 0) (h1 : -1 ≤ room) : RoomS s t room room := .inr ⟨h, h1, fun f _ => by have := nodes_pos (evT f t); omega⟩
theorem leaf_nodes1 {t : Tm} (h : Good t) (h4 : ¬ t.kind = 4) : t.nodes = 1 := by
  rw [nodes_eq, good_leaf h h4, nodesL_nil]
theorem room_leaf {s : St} {E : List (Tm × Tm)} (h : KInv s E) {t : Tm} {room : Int} (ht : Ok t) (hr : 0 ≤ room) (hk : ¬ (meanT s t).kind = 4) : RoomS s t room (room - 1) := by
  have hn := leaf_nodes1 (h.mean_ok ht).2 hk
  by_cases h1 : 1 ≤ room
  · exact .inl ⟨_, .leaf hk, by omega, by rw [hn]; rfl⟩
  · exact .inr ⟨by omega, by omega, fun f _ => by have := nodes_pos (evT f t); omega⟩
theorem room_pair {s : St} {E : List (Tm × Tm)} (h : KInv s E) {t x y : Tm} {room r1 r2 : Int} (ht : Ok t) (hr : 0 ≤ room) (e : meanT s t = pairTm x y) (h1 : RoomS s x (room - 1) r1) (h2 : RoomS s y r1 r2) : RoomS s t room r2 := by
  have hm := h.mean_ok ht
  rw [e] at hm
  have ho := ok_two hm
  have hev : ∀ f, VTies s f → (evT f t).nodes = 1 + (evT f x).nodes + (evT f y).nodes := fun f k => by
    rw [← ev_mean k ht.2, e, pairTm, ev_pair]; exact pairTm_nodes _ _
  rcases h1 with ⟨u, f1, g1, e1⟩ | ⟨g1, g1', n1⟩
  · rcases h2 with ⟨v, f2, g2, e2⟩ | ⟨g2, g2', n2⟩
    · exact .inl ⟨_, .pair e f1 f2, g2, by rw [pairTm_nodes]; omega⟩
    · refine .inr ⟨g2, g2', fun f k => ?_⟩
      have := n2 f k
      have h3 := f1.ev h k ho.1
      rw [hev f k]
      have h4 := ev_nodes (f := f) (f1.good h ho.1)
      rw [h3] at h4
      omega
  · have hall : ∀ f, VTies s f → room < (evT f t).nodes := fun f k => by
      have := n1 f k
      rw [hev f k]
      omega
    rcases h2 with ⟨v, f2, g2, e2⟩ | ⟨g2, g2', n2⟩
    · omega
    · exact .inr ⟨g2, g2', hall⟩

/-! What the ties say in the end. -/
theorem ev_root {s : St} {E : List (Tm × Tm)} (h : KInv s E) (hs : s.steps = []) {f : Int → Tm} (k : VTies s f) :
    ∀ (n : Nat) (b : Nat), b ∈ s.D → ((evT f (s.tm b)).nodes ≤ n ∨ (evT f (s.tm (s.rep b))).nodes ≤ n) → evT f (s.tm b) = evT f (s.tm (s.rep b))
  | 0, b, hb, hn => by have := nodes_pos (evT f (s.tm b)); have := nodes_pos (evT f (s.tm (s.rep b))); omega
  | n + 1, b, hb, hn => by
    have eqv : ∀ {x y : Nat}, Eqv s x y → x ∈ s.D ∧ y ∈ s.D ∧ evT f (s.tm (s.rep x)) = evT f (s.tm (s.rep y)) := by
      intro x y q
      induction q with
      | same hx hy e => exact ⟨hx, hy, by rw [e]⟩
      | leaf hx hy _ _ e => exact ⟨hx, hy, by rw [e]⟩
      | step e => rw [hs] at e; cases e
      | symm _ ih => exact ⟨ih.2.1, ih.1, ih.2.2.symm⟩
      | trans _ _ ih1 ih2 => exact ⟨ih1.1, ih2.2.1, ih1.2.2.trans ih2.2.2⟩
    by_cases hr : s.rep b = b
    · rw [hr]
    · by_cases hk : (s.tm b).kind = 1
      · have := k _ b (h.vars b hb hk)
        rw [← ev_varTm f, ← var_is (h.ok b hb).2 hk] at this
        exact this
      · obtain ⟨x, y, z, q, e1, e2, e3, e4⟩ := h.hard b hb hr hk
        obtain ⟨hx, hz, exz⟩ := eqv e3
        obtain ⟨hy, hq, eyq⟩ := eqv e4
        have hb1 := (h.kids b hb x y e1).2.2
        have hb2 := (h.kids _ (h.repD b hb) z q e2).2.2
        have key : ∀ {x z : Nat}, x ∈ s.D → z ∈ s.D → evT f (s.tm (s.rep x)) = evT f (s.tm (s.rep z)) → ((evT f (s.tm x)).nodes ≤ n ∨ (evT f (s.tm z)).nodes ≤ n) → evT f (s.tm x) = evT f (s.tm z) := by
          intro x z hx hz e hn
          rcases hn with hn | hn
          · have a1 := ev_root h hs k n x hx (.inl hn)
            have a2 := ev_root h hs k n z hz (.inr (by rw [← e, ← a1]; exact hn))
            rw [a1, a2, e]
          · have a2 := ev_root h hs k n z hz (.inl hn)
            have a1 := ev_root h hs k n x hx (.inr (by rw [e, ← a2]; exact hn))
            rw [a1, a2, e]
        rw [hb1, hb2] at hn ⊢
        rw [ev_pairTm]
        have m1 : (evT f (pairTm (s.tm x) (s.tm y))).nodes = 1 + (evT f (s.tm x)).nodes + (evT f (s.tm y)).nodes := by rw [pairTm, ev_pair]; exact pairTm_nodes _ _
        have m2 : (evT f (pairTm (s.tm z) (s.tm q))).nodes = 1 + (evT f (s.tm z)).nodes + (evT f (s.tm q)).nodes := by rw [pairTm, ev_pair]; exact pairTm_nodes _ _
        rw [m1, m2] at hn
        exact ⟨key hx hz exz (by omega), key hy hq eyq (by omega)⟩
theorem KInv.sol {s : St} {E : List (Tm × Tm)} (h : KInv s E) (hs : s.steps = []) {f : Int → Tm} : VTies s f ↔ SolE f E := by
  rw [h.snd f]
  refine ⟨fun k => ⟨fun b hb => ev_root h hs k _ b hb (.inl (Nat.le_refl _)), fun p hp => by rw [hs] at hp; cases hp⟩, fun k => h.vties k.1⟩
/-- Bindings of all bound variables, each with its term filled in. -/
structure Full (s : St) (u : List Bd) : Prop where
  asc : u.Pairwise (fun a b => a.v < b.v)
  mem : ∀ c ∈ u, ∃ b, s.M c.v = some b ∧ s.rep b ≠ b ∧ Fill s (s.tm (s.rep b)) c.t ∧ c.t.nodes ≤ 5000
  all : ∀ v b, s.M v = some b → s.rep b ≠ b → ∃ c ∈ u, c.v = v
theorem inj_length : ∀ {α : Type} [BEq α] [LawfulBEq α] {l m : List α}, l.Nodup → (∀ x ∈ l, x ∈ m) → l.length ≤ m.length
  | _, _, _, [], m, _, _ => Nat.zero_le _
  | α, _, _, x :: l, m, hn, h => by
    obtain ⟨h1, h2⟩ := List.nodup_cons.1 hn
    have hx : x ∈ m := h x (by simp)
    have := inj_length (l := l) (m := m.erase x) h2 fun y hy => (List.mem_erase_of_ne (fun e => h1 (by rw [← e]; exact hy))).2 (h y (by simp [hy]))
    rw [List.length_erase_of_mem hx] at this
    have : 0 < m.length := List.length_pos_of_mem hx
    simp only [List.length_cons]
    omega
theorem full_len {s : St} {E : List (Tm × Tm)} (h : KInv s E) {u : List Bd} (hu : Full s u) : u.length ≤ s.bound := by
  have key : ∃ l : List Nat, l.length = u.length ∧ l.Nodup ∧ (∀ b ∈ l, b ∈ s.D.filter (bndQ s)) ∧ ∀ b ∈ l, ∃ c ∈ u, s.M c.v = some b := by
    have hm := hu.mem
    have ha := hu.asc
    clear hu
    induction u with
    | nil => exact ⟨[], rfl, List.nodup_nil, (fun b hb => by cases hb), fun b hb => by cases hb⟩
    | cons c u ih =>
      obtain ⟨p1, p2⟩ := List.pairwise_cons.1 ha
      obtain ⟨l, l1, l2, l3, l4⟩ := ih (fun d hd => hm d (by simp [hd])) p2
      obtain ⟨b, b1, b2, _⟩ := hm c (by simp)
      have hb := h.maps _ b b1
      refine ⟨b :: l, by simp [l1], List.nodup_cons.2 ⟨fun hbl => ?_, l2⟩, fun d hd => ?_, fun d hd => ?_⟩
      · obtain ⟨e, he, e1⟩ := l4 b hbl
        have e2 := (h.maps _ b e1).2
        rw [hb.2] at e2
        have : c.v = e.v := congrArg Tm.num e2
        have := p1 e he
        omega
      · rcases List.mem_cons.1 hd with rfl | hd
        · exact List.mem_filter.2 ⟨hb.1, by unfold bndQ; rw [hb.2]; exact decide_eq_true ⟨rfl, b2⟩⟩
        · exact l3 d hd
      · rcases List.mem_cons.1 hd with rfl | hd
        · exact ⟨c, by simp, b1⟩
        · obtain ⟨e, he, e1⟩ := l4 d hd
          exact ⟨e, by simp [he], e1⟩
  obtain ⟨l, l1, l2, l3, _⟩ := key
  rw [← l1, h.cnt]
  exact inj_length l2 l3
/-- The bindings are the most general unifier. -/
theorem KInv.mgu {s : St} {E F : List (Tm × Tm)} {o : List Bd} (h : KInv s E) (hs : s.steps = []) (hb : s.bound ≤ 400) {u : List Bd} (hu : Full s u) (hE : ∀ f, SolE f E ↔ Sat f o ∧ SolE f F) : Mgu o F u := by
  have hok : ∀ {v b}, s.M v = some b → Ok (s.tm (s.rep b)) := fun hm => h.ok _ (h.repD _ (h.maps _ _ hm).1)
  refine ⟨subst_mk hu.asc (Nat.le_trans (full_len h hu) hb) fun c hc => ?_, fun f => ?_⟩
  · obtain ⟨b, b1, b2, b3, b4⟩ := hu.mem c hc
    have hm := h.maps _ b b1
    have hv := h.ok b hm.1
    rw [hm.2] at hv
    refine ⟨vrange hv.2 rfl, ⟨b4, b3.good h (hok b1)⟩, fun ⟨k1, k2⟩ => ?_, fun v hv => ?_⟩
    · have hmm : meanT s (s.tm (s.rep b)) = s.tm (s.rep b) := by
        have := h.mean_mean (varTm c.v)
        rw [mean_knot (t := varTm c.v) rfl b1] at this
        exact this
      rcases b3.inv with ⟨hk, e3⟩ | ⟨_, _, _, _, _, e3, _, _⟩
      · rw [e3, hmm] at k1 k2
        have := h.low b hm.1 b2 (by rw [hm.2]; rfl) k1
        rw [hm.2] at this
        have : (s.tm (s.rep b)).num < c.v := this
        omega
      · rw [e3] at k1; cases k1
    · rw [getO_none]
      intro d hd e
      obtain ⟨b', c1, c2, _⟩ := hu.mem d hd
      exact c2 (b3.free h (hok b1) v hv b' (by rw [← e]; exact c1))
  · rw [← hE f, ← h.sol hs]
    constructor
    · intro k
      have fev : ∀ {t w}, Fill s t w → Ok t → evT f w = evT f t := by
        intro t w q
        induction q with
        | @leaf t hk =>
          intro ht
          by_cases h1 : t.kind = 1
          · cases hm : s.M t.num with
            | none => rw [mean_free h1 hm]
            | some b =>
              by_cases hr : s.rep b = b
              · rw [mean_knot h1 hm, hr, (h.maps _ b hm).2, ← var_is ht.2 h1]
              · obtain ⟨c, hc, hcv⟩ := hu.all _ b hm hr
                obtain ⟨b', b1, b2, b3, b4⟩ := hu.mem c hc
                rw [hcv, hm] at b1
                cases b1
                have hf : Fill s t c.t := by
                  have hmk := mean_knot h1 hm
                  have hmm := h.mean_mean t
                  rw [hmk] at hmm
                  rcases b3.inv with ⟨hk2, e3⟩ | ⟨_, _, _, _, e, _, _, _⟩
                  · rw [e3, hmm, ← hmk]; exact .leaf hk
                  · rw [hmm, ← hmk] at e; rw [e] at hk; exact absurd rfl hk
                have e1 := hf.one (.leaf hk)
                have e2 := k c hc
                rw [hcv, e1] at e2
                rw [← e2, var_is ht.2 h1, ev_varTm]
                rfl
          · rw [mean_other h1]
        | @pair t x y w w' e hx hy ihx ihy =>
          intro ht
          have hmo := h.mean_ok ht
          rw [e] at hmo
          have h2 := ok_two hmo
          by_cases h1 : t.kind = 1
          · cases hm : s.M t.num with
            | none => rw [mean_free h1 hm] at e; rw [e] at h1; cases h1
            | some b =>
              have hmk := mean_knot h1 hm
              have hr : s.rep b ≠ b := fun hr => by rw [hmk, hr, (h.maps _ b hm).2] at e; simp [pairTm, varTm] at e
              obtain ⟨c, hc, hcv⟩ := hu.all _ b hm hr
              obtain ⟨b', b1, b2, b3, b4⟩ := hu.mem c hc
              rw [hcv, hm] at b1
              cases b1
              have hmm := h.mean_mean t
              rw [hmk] at hmm
              have e1 := b3.one (.pair (by rw [hmm, ← hmk]; exact e) hx hy)
              have e2 := k c hc
              rw [hcv, e1] at e2
              rw [← e2, var_is ht.2 h1, ev_varTm]
              rfl
          · rw [mean_other h1] at e
            rw [e, ev_pairTm]
            exact ⟨ihx h2.1, ihy h2.2⟩
      intro v b hm
      by_cases hr : s.rep b = b
      · rw [hr, (h.maps _ b hm).2, ev_varTm]
      · obtain ⟨c, hc, hcv⟩ := hu.all _ b hm hr
        obtain ⟨b', b1, b2, b3, b4⟩ := hu.mem c hc
        rw [hcv, hm] at b1
        cases b1
        rw [← fev b3 (hok hm), ← k c hc, hcv]
    · intro k c hc
      obtain ⟨b, b1, b2, b3, b4⟩ := hu.mem c hc
      rw [k _ b b1, b3.ev h k (hok b1)]
/-- No solution that fits: two terms that clash; a term too large; too many bound variables. -/
theorem KInv.too_large {s : St} {E : List (Tm × Tm)} (h : KInv s E) {o : List Bd} {F : List (Tm × Tm)} (hE : ∀ f, SolE f E ↔ Sat f o ∧ SolE f F) {v : Int} {b : Nat} (hm : s.M v = some b) {r : Int}
    (hr : RoomS s (s.tm (s.rep b)) 5000 r) (hn : r < 0) : NoU o F := by
  intro w hw h1 h2
  have hv := h.vties ((h.snd _).1 ((hE (sgm w)).2 ⟨h1, h2⟩)).1
  rcases hr with ⟨u, _, h0, _⟩ | ⟨_, _, hr⟩
  · omega
  · have := hr _ hv
    rw [← hv v b hm] at this
    have := sgm_small hw v
    omega
theorem KInv.too_many {s : St} {E : List (Tm × Tm)} (h : KInv s E) {o : List Bd} {F : List (Tm × Tm)} (hE : ∀ f, SolE f E ↔ Sat f o ∧ SolE f F) (hb : 400 < s.bound) : NoU o F := by
  intro w hw h1 h2
  have hv := h.vties ((h.snd _).1 ((hE (sgm w)).2 ⟨h1, h2⟩)).1
  have hd : ∀ b ∈ s.D.filter (bndQ s), getO w (s.tm b).num ≠ none := by
    intro b hb
    obtain ⟨hbD, hq⟩ := List.mem_filter.1 hb
    have hq' := of_decide_eq_true hq
    have hm := h.vars b hbD hq'.1
    refine dom_one hw (h.ok _ (h.repD b hbD)).2 (fun ⟨k1, k2⟩ => ?_) (hv _ b hm)
    have := h.low b hbD hq'.2 hq'.1 k1
    omega
  have hinj : ((s.D.filter (bndQ s)).map fun b => (s.tm b).num).Nodup := by
    refine List.pairwise_map.2 ?_
    refine List.Pairwise.imp_of_mem ?_ (h.nodup.filter _)
    intro a b ha hb hne e
    obtain ⟨haD, hqa⟩ := List.mem_filter.1 ha
    obtain ⟨hbD, hqb⟩ := List.mem_filter.1 hb
    have k1 := h.vars a haD (of_decide_eq_true hqa).1
    have k2 := h.vars b hbD (of_decide_eq_true hqb).1
    rw [e, k2] at k1
    exact hne (Option.some.inj k1).symm
  have := inj_length (m := w.map fun b => b.v) hinj fun v hv => by
    obtain ⟨b, hb, rfl⟩ := List.mem_map.1 hv
    obtain ⟨c, hc, e⟩ := getO_ne.1 (hd b hb)
    exact List.mem_map.2 ⟨c, hc, e⟩
  rw [List.length_map, List.length_map, ← h.cnt] at this
  have := hw.1.2.2
  omega
theorem KInv.clash {s : St} {E : List (Tm × Tm)} (h : KInv s E) {o : List Bd} {F : List (Tm × Tm)} (hE : ∀ f, SolE f E ↔ Sat f o ∧ SolE f F) {x y : Nat} (hs : (x, y) ∈ s.steps) (h1 : ¬ (s.tm (s.rep x)).kind = 1) (h2 : ¬ (s.tm (s.rep y)).kind = 1)
    (hc : ¬ ((s.tm (s.rep x)).kind = 4 ∧ (s.tm (s.rep y)).kind = 4)) (hne : s.tm (s.rep x) ≠ s.tm (s.rep y)) : NoU o F := by
  obtain ⟨hx, hy⟩ := h.stepsD _ hs
  have gx := (h.ok _ (h.repD x hx)).2
  have gy := (h.ok _ (h.repD y hy)).2
  have hnf : ¬ ((s.tm (s.rep x)).kind = (s.tm (s.rep y)).kind ∧ (s.tm (s.rep x)).num = (s.tm (s.rep y)).num ∧ (s.tm (s.rep x)).name = (s.tm (s.rep y)).name) := by
    intro k
    refine hne (good_fields k ?_)
    have h4x : ¬ (s.tm (s.rep x)).kind = 4 := fun q => hc ⟨q, by rw [← k.1]; exact q⟩
    have h4y : ¬ (s.tm (s.rep y)).kind = 4 := fun q => hc ⟨by rw [k.1]; exact q, q⟩
    rw [good_leaf gx h4x, good_leaf gy h4y]
  intro w hw k1 k2
  have hp := (h.snd _).1 ((hE (sgm w)).2 ⟨k1, k2⟩)
  refine clash_no (s := o) h1 h2 hnf w hw k1 (sol_one.2 ?_)
  show evT (sgm w) (s.tm (s.rep x)) = evT (sgm w) (s.tm (s.rep y))
  rw [← hp.1 x hx, ← hp.1 y hy]
  exact hp.2 _ hs
end Go.Proofs.YtealiilcnmdmdaaGreat

