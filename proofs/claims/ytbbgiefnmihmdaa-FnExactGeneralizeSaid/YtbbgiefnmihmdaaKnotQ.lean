/-
  The program's solver, plain: knots that stand for terms, tied to each other; what a step of the solver keeps; what the ties say in the end.
  The program's solver, plain: what its ties say in the end: the terms filled in, the bindings, that there is no solution that fits.
  The program's solver, plain: how much is still to be done, how many knots there are; what a knot more, or its parts, leave as it was.
-/
import Derived.Test.YtbbgiefnmihmdaaUnifT
namespace Go.Proofs.Ytbbgiefnmihmdaa
open Go.RowKit
set_option linter.unusedVariables false
set_option linter.unusedSimpArgs false

def pairTm (x y : Tm) : Tm := .mk 4 0 ⟨#[]⟩ [x, y]
/-- How many pairs a term has. -/
def pairsN : Nat → Tm → Nat
  | 0, _ => 0
  | n + 1, .mk k i s l => if k = 4 then 1 + (l.map (pairsN n)).sum else 0
/-- What the solver holds. -/
structure St where
  D : List Nat
  tm : Nat → Tm
  rep : Nat → Nat
  parts : Nat → Option (Nat × Nat)
  M : Int → Option Nat
  steps : List (Nat × Nat)
  bound : Nat
def updN {α : Type} (f : Nat → α) (b : Nat) (x : α) : Nat → α := fun c => if c = b then x else f c
theorem updN_self {α : Type} (f : Nat → α) (b : Nat) (x : α) : updN f b x b = x := if_pos rfl
theorem updN_ne {α : Type} (f : Nat → α) {b c : Nat} (x : α) (h : ¬ c = b) : updN f b x c = f c := if_neg h

/-- Knots that are or will be the same. -/
inductive Eqv (s : St) : Nat → Nat → Prop
  | same {x y : Nat} (hx : x ∈ s.D) (hy : y ∈ s.D) (h : s.rep x = s.rep y) : Eqv s x y
  | leaf {x y : Nat} (hx : x ∈ s.D) (hy : y ∈ s.D) (h1 : ¬ (s.tm (s.rep x)).kind = 1) (h4 : ¬ (s.tm (s.rep x)).kind = 4) (h : s.tm (s.rep x) = s.tm (s.rep y)) : Eqv s x y
  | step {x y : Nat} (h : (x, y) ∈ s.steps) : Eqv s x y
  | symm {x y : Nat} (h : Eqv s x y) : Eqv s y x
  | trans {x y z : Nat} (h : Eqv s x y) (k : Eqv s y z) : Eqv s x z
def Ties (s : St) (f : Int → Tm) : Prop := ∀ b ∈ s.D, evT f (s.tm b) = evT f (s.tm (s.rep b))
def Pend (s : St) (f : Int → Tm) : Prop := ∀ p ∈ s.steps, evT f (s.tm p.1) = evT f (s.tm p.2)
def bndQ (s : St) (b : Nat) : Bool := decide ((s.tm b).kind = 1 ∧ s.rep b ≠ b)
structure KInv (s : St) (E : List (Tm × Tm)) : Prop where
  nodup : s.D.Nodup
  ok : ∀ b ∈ s.D, Ok (s.tm b)
  repD : ∀ b ∈ s.D, s.rep b ∈ s.D
  repR : ∀ b ∈ s.D, s.rep (s.rep b) = s.rep b
  vars : ∀ b ∈ s.D, (s.tm b).kind = 1 → s.M (s.tm b).num = some b
  maps : ∀ v b, s.M v = some b → b ∈ s.D ∧ s.tm b = varTm v
  kids : ∀ b ∈ s.D, ∀ x y, s.parts b = some (x, y) → x ∈ s.D ∧ y ∈ s.D ∧ s.tm b = pairTm (s.tm x) (s.tm y)
  low : ∀ b ∈ s.D, s.rep b ≠ b → (s.tm b).kind = 1 → (s.tm (s.rep b)).kind = 1 → (s.tm (s.rep b)).num < (s.tm b).num
  hard : ∀ b ∈ s.D, s.rep b ≠ b → ¬ (s.tm b).kind = 1 → ∃ x y z q, s.parts b = some (x, y) ∧ s.parts (s.rep b) = some (z, q) ∧ Eqv s x z ∧ Eqv s y q
  stepsD : ∀ p ∈ s.steps, p.1 ∈ s.D ∧ p.2 ∈ s.D
  snd : ∀ f, SolE f E ↔ Ties s f ∧ Pend s f
  cnt : s.bound = (s.D.filter (bndQ s)).length
theorem pair_kind (x y : Tm) : (pairTm x y).kind = 4 := rfl
theorem ev_pairTm {f : Int → Tm} {x y z q : Tm} : evT f (pairTm x y) = evT f (pairTm z q) ↔ evT f x = evT f z ∧ evT f y = evT f q := by
  rw [pairTm, pairTm, ev_pair, ev_pair, Tm.mk.injEq]
  simp

/-- Nothing yet. -/
def st0 : St := ⟨[], fun _ => zeroTm, id, fun _ => none, fun _ => none, [], 0⟩
theorem inv0 : KInv st0 [] :=
  ⟨List.nodup_nil, (fun b h => by cases h), (fun b h => by cases h), (fun b h => by cases h), (fun b h => by cases h), (fun v b h => by cases h), (fun b h => by cases h), (fun b h => by cases h), (fun b h => by cases h),
    (fun p h => by cases h), fun f => ⟨fun _ => ⟨(fun b h => by cases h), fun p h => by cases h⟩, fun _ => solE_nil f⟩, rfl⟩

/-- A new knot. -/
def newS (s : St) (b : Nat) (t : Tm) : St :=
  { s with D := b :: s.D, tm := updN s.tm b t, rep := updN s.rep b b, parts := updN s.parts b none, M := fun v => if t.kind = 1 ∧ v = t.num then some b else s.M v }
theorem new_old {s : St} {b c : Nat} (t : Tm) (hb : ¬ b ∈ s.D) (hc : c ∈ s.D) : (newS s b t).tm c = s.tm c ∧ (newS s b t).rep c = s.rep c ∧ (newS s b t).parts c = s.parts c := by
  have hne : ¬ c = b := fun e => hb (e ▸ hc)
  exact ⟨updN_ne _ _ hne, updN_ne _ _ hne, updN_ne _ _ hne⟩
theorem new_self (s : St) (b : Nat) (t : Tm) : (newS s b t).tm b = t ∧ (newS s b t).rep b = b ∧ (newS s b t).parts b = none := ⟨updN_self _ _ _, updN_self _ _ _, updN_self _ _ _⟩
theorem eqv_mono {s s' : St} (hD : ∀ x ∈ s.D, x ∈ s'.D) (h1 : ∀ x ∈ s.D, ∀ y ∈ s.D, s.rep x = s.rep y → Eqv s' x y)
    (h2 : ∀ x ∈ s.D, ∀ y ∈ s.D, ¬ (s.tm (s.rep x)).kind = 1 → ¬ (s.tm (s.rep x)).kind = 4 → s.tm (s.rep x) = s.tm (s.rep y) → Eqv s' x y) (h3 : ∀ x y, (x, y) ∈ s.steps → Eqv s' x y) {x y : Nat} (h : Eqv s x y) : Eqv s' x y := by
  induction h with
  | same hx hy h => exact h1 _ hx _ hy h
  | leaf hx hy k1 k4 h => exact h2 _ hx _ hy k1 k4 h
  | step h => exact h3 _ _ h
  | symm _ ih => exact .symm ih
  | trans _ _ ih1 ih2 => exact .trans ih1 ih2
theorem new_eqv {s : St} {E : List (Tm × Tm)} (h : KInv s E) {b : Nat} (t : Tm) (hb : ¬ b ∈ s.D) {x y : Nat} (k : Eqv s x y) : Eqv (newS s b t) x y := by
  refine eqv_mono (s := s) (s' := newS s b t) (fun x hx => List.mem_cons_of_mem _ hx) (fun x hx y hy e => ?_) (fun x hx y hy k1 k4 e => ?_) (fun x y e => .step e) k
  · exact .same (List.mem_cons_of_mem _ hx) (List.mem_cons_of_mem _ hy) (by rw [(new_old t hb hx).2.1, (new_old t hb hy).2.1, e])
  · refine .leaf (List.mem_cons_of_mem _ hx) (List.mem_cons_of_mem _ hy) ?_ ?_ ?_
    · rw [(new_old t hb hx).2.1, (new_old t hb (h.repD x hx)).1]; exact k1
    · rw [(new_old t hb hx).2.1, (new_old t hb (h.repD x hx)).1]; exact k4
    · rw [(new_old t hb hx).2.1, (new_old t hb (h.repD x hx)).1, (new_old t hb hy).2.1, (new_old t hb (h.repD y hy)).1, e]
theorem filter_new {s : St} {b : Nat} (t : Tm) (hb : ¬ b ∈ s.D) : ((newS s b t).D.filter (bndQ (newS s b t))) = s.D.filter (bndQ s) := by
  show (b :: s.D).filter _ = _
  rw [List.filter_cons_of_neg]
  · refine List.filter_congr fun c hc => ?_
    unfold bndQ
    rw [(new_old t hb hc).1, (new_old t hb hc).2.1]
  · unfold bndQ
    rw [(new_self s b t).2.1]
    simp
theorem KInv.new {s : St} {E : List (Tm × Tm)} (h : KInv s E) {b : Nat} {t : Tm} (hb : ¬ b ∈ s.D) (ht : Ok t) (hv : t.kind = 1 → s.M t.num = none) : KInv (newS s b t) E := by
  have old := fun c (hc : c ∈ s.D) => new_old t hb hc
  obtain ⟨b1, b2, b3⟩ := new_self s b t
  have cases2 : ∀ {c}, c ∈ (newS s b t).D → c = b ∨ c ∈ s.D := fun hc => List.mem_cons.1 hc
  have mem : ∀ {c}, c ∈ s.D → c ∈ (newS s b t).D := fun hc => List.mem_cons_of_mem _ hc
  refine ⟨List.nodup_cons.2 ⟨hb, h.nodup⟩, fun c hc => ?_, fun c hc => ?_, fun c hc => ?_, fun c hc hk => ?_, fun v c hm => ?_, fun c hc x y hp => ?_, fun c hc hr k1 k2 => ?_, fun c hc hr k1 => ?_, fun p hp => ?_, fun f => ?_, ?_⟩
  · rcases cases2 hc with rfl | hc
    · rw [b1]; exact ht
    · rw [(old c hc).1]; exact h.ok c hc
  · rcases cases2 hc with rfl | hc
    · rw [b2]; exact List.mem_cons_self
    · rw [(old c hc).2.1]; exact mem (h.repD c hc)
  · rcases cases2 hc with rfl | hc
    · rw [b2, b2]
    · rw [(old c hc).2.1, (old _ (h.repD c hc)).2.1]; exact h.repR c hc
  · show (if t.kind = 1 ∧ ((newS s b t).tm c).num = t.num then some b else s.M ((newS s b t).tm c).num) = some c
    rcases cases2 hc with rfl | hc
    · rw [b1] at hk ⊢
      exact if_pos ⟨hk, rfl⟩
    · rw [(old c hc).1] at hk ⊢
      have := h.vars c hc hk
      rw [if_neg]
      · exact this
      · rintro ⟨k1, k2⟩
        rw [k2, hv k1] at this
        cases this
  · have hm' : (if t.kind = 1 ∧ v = t.num then some b else s.M v) = some c := hm
    by_cases hc : t.kind = 1 ∧ v = t.num
    · rw [if_pos hc] at hm'
      cases hm'
      refine ⟨List.mem_cons_self, ?_⟩
      rw [b1, var_is ht.2 hc.1, hc.2]
    · rw [if_neg hc] at hm'
      obtain ⟨k1, k2⟩ := h.maps v c hm'
      exact ⟨mem k1, by rw [(old c k1).1]; exact k2⟩
  · rcases cases2 hc with rfl | hc
    · rw [b3] at hp; cases hp
    · rw [(old c hc).2.2] at hp
      obtain ⟨k1, k2, k3⟩ := h.kids c hc x y hp
      exact ⟨mem k1, mem k2, by rw [(old c hc).1, (old x k1).1, (old y k2).1]; exact k3⟩
  · rcases cases2 hc with rfl | hc
    · exact absurd b2 hr
    · have hd := h.repD c hc
      rw [(old c hc).2.1] at hr k2 ⊢
      rw [(old c hc).1] at k1 ⊢
      rw [(old _ hd).1] at k2 ⊢
      exact h.low c hc hr k1 k2
  · rcases cases2 hc with rfl | hc
    · exact absurd b2 hr
    · have hd := h.repD c hc
      rw [(old c hc).2.1] at hr ⊢
      rw [(old c hc).1] at k1
      rw [(old c hc).2.2, (old _ hd).2.2]
      obtain ⟨x, y, z, q, e1, e2, e3, e4⟩ := h.hard c hc hr k1
      exact ⟨x, y, z, q, e1, e2, new_eqv h t hb e3, new_eqv h t hb e4⟩
  · have := h.stepsD p hp
    exact ⟨mem this.1, mem this.2⟩
  · rw [h.snd f]
    refine ⟨fun ⟨k1, k2⟩ => ⟨fun c hc => ?_, fun p hp => ?_⟩, fun ⟨k1, k2⟩ => ⟨fun c hc => ?_, fun p hp => ?_⟩⟩
    · rcases cases2 hc with rfl | hc
      · rw [b2]
      · rw [(old c hc).2.1, (old c hc).1, (old _ (h.repD c hc)).1]; exact k1 c hc
    · have hd := h.stepsD p hp
      rw [(old _ hd.1).1, (old _ hd.2).1]; exact k2 p hp
    · have := k1 c (mem hc)
      rwa [(old c hc).2.1, (old c hc).1, (old _ (h.repD c hc)).1] at this
    · have hd := h.stepsD p hp
      have := k2 p hp
      rwa [(old _ hd.1).1, (old _ hd.2).1] at this
  · rw [filter_new t hb]; exact h.cnt

/-- The parts of a knot laid. -/
def partS (s : St) (b x y : Nat) : St := { s with parts := updN s.parts b (some (x, y)) }
theorem part_eqv {s : St} {b x y : Nat} {u v : Nat} (k : Eqv s u v) : Eqv (partS s b x y) u v :=
  eqv_mono (s := s) (s' := partS s b x y) (fun x hx => hx) (fun x hx y hy e => .same hx hy e) (fun x hx y hy k1 k4 e => .leaf hx hy k1 k4 e) (fun x y e => .step e) k
theorem KInv.part {s : St} {E : List (Tm × Tm)} (h : KInv s E) {b x y : Nat} (hb : b ∈ s.D) (hn : s.parts b = none) (hx : x ∈ s.D) (hy : y ∈ s.D) (he : s.tm b = pairTm (s.tm x) (s.tm y)) : KInv (partS s b x y) E := by
  refine ⟨h.nodup, h.ok, h.repD, h.repR, h.vars, h.maps, fun c hc u v hp => ?_, h.low, fun c hc hr k1 => ?_, h.stepsD, h.snd, h.cnt⟩
  · have hp' : updN s.parts b (some (x, y)) c = some (u, v) := hp
    by_cases e : c = b
    · subst e
      rw [updN_self] at hp'
      cases hp'
      exact ⟨hx, hy, he⟩
    · rw [updN_ne _ _ e] at hp'
      exact h.kids c hc u v hp'
  · obtain ⟨u, v, z, q, e1, e2, e3, e4⟩ := h.hard c hc hr k1
    have n1 : ¬ c = b := fun e => by rw [e, hn] at e1; cases e1
    have n2 : ¬ s.rep c = b := fun e => by rw [e, hn] at e2; cases e2
    exact ⟨u, v, z, q, (updN_ne _ _ n1).trans e1, (updN_ne _ _ n2).trans e2, part_eqv e3, part_eqv e4⟩

/-- An equation of two knots pushed. -/
def pushS (s : St) (x y : Nat) : St := { s with steps := s.steps ++ [(x, y)] }
theorem push_eqv {s : St} {a b x y : Nat} (k : Eqv s x y) : Eqv (pushS s a b) x y :=
  eqv_mono (s := s) (s' := pushS s a b) (fun x hx => hx) (fun x hx y hy e => .same hx hy e) (fun x hx y hy k1 k4 e => .leaf hx hy k1 k4 e) (fun x y e => .step (List.mem_append_left _ e)) k
theorem KInv.push {s : St} {E : List (Tm × Tm)} (h : KInv s E) {x y : Nat} (hx : x ∈ s.D) (hy : y ∈ s.D) : KInv (pushS s x y) (E ++ [(s.tm x, s.tm y)]) := by
  refine ⟨h.nodup, h.ok, h.repD, h.repR, h.vars, h.maps, h.kids, h.low, fun c hc hr k1 => ?_, fun p hp => ?_, fun f => ?_, h.cnt⟩
  · obtain ⟨u, v, z, q, e1, e2, e3, e4⟩ := h.hard c hc hr k1
    exact ⟨u, v, z, q, e1, e2, push_eqv e3, push_eqv e4⟩
  · rcases List.mem_append.1 hp with hp | hp
    · exact h.stepsD p hp
    · cases List.mem_singleton.1 hp
      exact ⟨hx, hy⟩
  · rw [solE_app, h.snd f, sol_one]
    refine ⟨fun ⟨⟨k1, k2⟩, k3⟩ => ⟨k1, fun p hp => ?_⟩, fun ⟨k1, k2⟩ => ⟨⟨k1, fun p hp => k2 p (List.mem_append_left _ hp)⟩, k2 (x, y) (List.mem_append_right _ (by simp))⟩⟩
    rcases List.mem_append.1 hp with hp | hp
    · exact k2 p hp
    · cases List.mem_singleton.1 hp
      exact k3

/-- The last equation is of the roots of its knots, or says nothing. -/
def popS (s : St) (r : List (Nat × Nat)) : St := { s with steps := r }
theorem KInv.skip {s : St} {E : List (Tm × Tm)} (h : KInv s E) {x y : Nat} {r : List (Nat × Nat)} (hs : s.steps = r ++ [(x, y)]) (he : s.rep x = s.rep y ∨ (¬ (s.tm (s.rep x)).kind = 1 ∧ ¬ (s.tm (s.rep x)).kind = 4 ∧ s.tm (s.rep x) = s.tm (s.rep y))) : KInv (popS s r) E := by
  have hx : x ∈ s.D := (h.stepsD (x, y) (by rw [hs]; simp)).1
  have hy : y ∈ s.D := (h.stepsD (x, y) (by rw [hs]; simp)).2
  have hxy : Eqv (popS s r) x y := by
    rcases he with he | ⟨k1, k4, he⟩
    · exact .same hx hy he
    · exact .leaf hx hy k1 k4 he
  have mono : ∀ {u v}, Eqv s u v → Eqv (popS s r) u v := fun k => eqv_mono (s := s) (s' := popS s r) (fun x hx => hx) (fun x hx y hy e => .same hx hy e) (fun x hx y hy k1 k4 e => .leaf hx hy k1 k4 e) (fun u v e => by
    rw [hs] at e
    rcases List.mem_append.1 e with e | e
    · exact .step e
    · cases List.mem_singleton.1 e
      exact hxy) k
  refine ⟨h.nodup, h.ok, h.repD, h.repR, h.vars, h.maps, h.kids, h.low, fun c hc hr k1 => ?_, fun p hp => h.stepsD p (by rw [hs]; exact List.mem_append_left _ hp), fun f => ?_, h.cnt⟩
  · obtain ⟨u, v, z, q, e1, e2, e3, e4⟩ := h.hard c hc hr k1
    exact ⟨u, v, z, q, e1, e2, mono e3, mono e4⟩
  · rw [h.snd f]
    refine ⟨fun ⟨k1, k2⟩ => ⟨k1, fun p hp => k2 p (by rw [hs]; exact List.mem_append_left _ hp)⟩, fun ⟨k1, k2⟩ => ⟨k1, fun p hp => ?_⟩⟩
    rw [hs] at hp
    rcases List.mem_append.1 hp with hp | hp
    · exact k2 p hp
    · cases List.mem_singleton.1 hp
      have e1 : evT f (s.tm x) = evT f (s.tm (s.rep x)) := k1 x hx
      have e2 : evT f (s.tm y) = evT f (s.tm (s.rep y)) := k1 y hy
      show evT f (s.tm x) = evT f (s.tm y)
      rcases he with he | ⟨_, _, he⟩
      · rw [e1, e2, he]
      · rw [e1, e2, he]

/-- A root tied to another one. -/
def linkS (s : St) (r : List (Nat × Nat)) (a b n : Nat) : St := { s with rep := fun x => if s.rep x = a then b else s.rep x, steps := r, bound := n }
theorem link_rep (s : St) (r : List (Nat × Nat)) (a b n x : Nat) : (linkS s r a b n).rep x = if s.rep x = a then b else s.rep x := rfl
theorem KInv.link {s : St} {E : List (Tm × Tm)} (h : KInv s E) {x y a b n : Nat} {r nw : List (Nat × Nat)} (hs : s.steps = r ++ [(x, y)]) (hxy : (a = s.rep x ∧ b = s.rep y) ∨ (a = s.rep y ∧ b = s.rep x)) (hab : a ≠ b)
    (hA : ((s.tm a).kind = 1 ∧ ((s.tm b).kind = 1 → (s.tm b).num < (s.tm a).num) ∧ nw = [] ∧ n = s.bound + 1) ∨
      (∃ u v z q, s.parts a = some (u, v) ∧ s.parts b = some (z, q) ∧ nw = [(v, q), (u, z)] ∧ n = s.bound)) : KInv (linkS s (r ++ nw) a b n) E := by
  have hx : x ∈ s.D := (h.stepsD (x, y) (by rw [hs]; simp)).1
  have hy : y ∈ s.D := (h.stepsD (x, y) (by rw [hs]; simp)).2
  have haD : a ∈ s.D := by
    rcases hxy with ⟨rfl, _⟩ | ⟨rfl, _⟩
    · exact h.repD _ hx
    · exact h.repD _ hy
  have hbD : b ∈ s.D := by
    rcases hxy with ⟨_, rfl⟩ | ⟨_, rfl⟩
    · exact h.repD _ hy
    · exact h.repD _ hx
  have hra : s.rep a = a := by
    rcases hxy with ⟨rfl, _⟩ | ⟨rfl, _⟩
    · exact h.repR _ hx
    · exact h.repR _ hy
  have hrb : s.rep b = b := by
    rcases hxy with ⟨_, rfl⟩ | ⟨_, rfl⟩
    · exact h.repR _ hy
    · exact h.repR _ hx
  have hk4 : ∀ {c u v}, c ∈ s.D → s.parts c = some (u, v) → (s.tm c).kind = 4 := fun hc hp => by rw [(h.kids _ hc _ _ hp).2.2]; rfl
  have hleaf : (s.tm a).kind = 1 ∨ (s.tm a).kind = 4 := by
    rcases hA with ⟨k, _⟩ | ⟨u, v, z, q, e, _⟩
    · exact .inl k
    · exact .inr (hk4 haD e)
  have ra : ∀ {c}, s.rep c = a → (linkS s (r ++ nw) a b n).rep c = b := fun e => if_pos e
  have rn : ∀ {c}, ¬ s.rep c = a → (linkS s (r ++ nw) a b n).rep c = s.rep c := fun e => if_neg e
  have hrepxy : (linkS s (r ++ nw) a b n).rep x = b ∧ (linkS s (r ++ nw) a b n).rep y = b := by
    rcases hxy with ⟨e1, e2⟩ | ⟨e1, e2⟩
    · exact ⟨ra e1.symm, by rw [rn (fun e => hab (by rw [← e, ← e2]))]; exact e2.symm⟩
    · exact ⟨by rw [rn (fun e => hab (by rw [← e, ← e2]))]; exact e2.symm, ra e1.symm⟩
  have mono : ∀ {u v}, Eqv s u v → Eqv (linkS s (r ++ nw) a b n) u v := fun k => eqv_mono (s := s) (s' := linkS s (r ++ nw) a b n) (fun x hx => hx)
    (fun x hx y hy e => .same hx hy (by rw [link_rep, link_rep, e]))
    (fun u hu v hv k1 k4 e => by
      have n1 : ¬ s.rep u = a := fun q => by rw [q] at k1 k4; exact hleaf.elim k1 k4
      have n2 : ¬ s.rep v = a := fun q => by rw [e, q] at k1 k4; exact hleaf.elim k1 k4
      refine .leaf hu hv ?_ ?_ ?_
      · rw [rn n1]; exact k1
      · rw [rn n1]; exact k4
      · rw [rn n1, rn n2]; exact e)
    (fun u v e => by
      rw [hs] at e
      rcases List.mem_append.1 e with e | e
      · exact .step (List.mem_append_left _ e)
      · cases List.mem_singleton.1 e
        exact .same hx hy (hrepxy.1.trans hrepxy.2.symm)) k
  have stp : ∀ {u v}, (u, v) ∈ nw → Eqv (linkS s (r ++ nw) a b n) u v := fun e => .step (List.mem_append_right _ e)
  have hrep2 : ∀ c ∈ s.D, (linkS s (r ++ nw) a b n).rep c ∈ s.D := fun c hc => by
    by_cases e : s.rep c = a
    · rw [ra e]; exact hbD
    · rw [rn e]; exact h.repD c hc
  refine ⟨h.nodup, h.ok, hrep2, fun c hc => ?_, h.vars, h.maps, h.kids, fun c hc hr k1 k2 => ?_, fun c hc hr k1 => ?_, fun p hp => ?_, fun f => ?_, ?_⟩
  · by_cases e : s.rep c = a
    · rw [ra e, rn (fun e' => hab (by rw [← e', hrb]))]; exact hrb
    · rw [rn e, rn (fun e' => e (by rw [← e', h.repR c hc]))]; exact h.repR c hc
  · by_cases e : s.rep c = a
    · rw [ra e] at k2 ⊢
      have k1' : (s.tm c).kind = 1 := k1
      have k2' : (s.tm b).kind = 1 := k2
      show (s.tm b).num < (s.tm c).num
      have hav : (s.tm a).kind = 1 ∧ ((s.tm b).kind = 1 → (s.tm b).num < (s.tm a).num) := by
        rcases hA with ⟨k, k', _⟩ | ⟨u, v, z, q, _, e2, _⟩
        · exact ⟨k, k'⟩
        · rw [hk4 hbD e2] at k2'; cases k2'
      have hba := hav.2 k2'
      by_cases eca : c = a
      · rw [eca]; exact hba
      · have := h.low c hc (by rw [e]; exact fun q => eca q.symm) k1' (by rw [e]; exact hav.1)
        rw [e] at this
        omega
    · rw [rn e] at hr k2 ⊢
      exact h.low c hc hr k1 k2
  · by_cases e : s.rep c = a
    · rw [ra e]
      by_cases eca : c = a
      · subst eca
        rcases hA with ⟨k, _⟩ | ⟨u, v, z, q, e1, e2, e3, _⟩
        · exact absurd k k1
        · exact ⟨u, v, z, q, e1, e2, stp (by rw [e3]; simp), stp (by rw [e3]; simp)⟩
      · obtain ⟨u, v, z, q, e1, e2, e3, e4⟩ := h.hard c hc (by rw [e]; exact fun q => eca q.symm) k1
        rw [e] at e2
        rcases hA with ⟨k, _⟩ | ⟨u2, v2, z2, q2, f1, f2, f3, _⟩
        · rw [hk4 haD e2] at k; cases k
        · rw [f1] at e2
          cases e2
          exact ⟨u, v, z2, q2, e1, f2, .trans (mono e3) (stp (by rw [f3]; simp)), .trans (mono e4) (stp (by rw [f3]; simp))⟩
    · rw [rn e] at hr ⊢
      obtain ⟨u, v, z, q, e1, e2, e3, e4⟩ := h.hard c hc hr k1
      exact ⟨u, v, z, q, e1, e2, mono e3, mono e4⟩
  · rcases List.mem_append.1 hp with hp | hp
    · exact h.stepsD p (by rw [hs]; exact List.mem_append_left _ hp)
    · rcases hA with ⟨_, _, e, _⟩ | ⟨u, v, z, q, e1, e2, e3, _⟩
      · rw [e] at hp; cases hp
      · rw [e3] at hp
        have h1 := h.kids a haD u v e1
        have h2 := h.kids b hbD z q e2
        simp only [List.mem_cons, List.not_mem_nil, or_false] at hp
        rcases hp with rfl | rfl
        · exact ⟨h1.2.1, h2.2.1⟩
        · exact ⟨h1.1, h2.1⟩
  · have hnew : evT f (s.tm a) = evT f (s.tm b) → ∀ p ∈ nw, evT f (s.tm p.1) = evT f (s.tm p.2) := by
      intro hab p hp
      rcases hA with ⟨_, _, e, _⟩ | ⟨u, v, z, q, e1, e2, e3, _⟩
      · rw [e] at hp; cases hp
      · rw [e3] at hp
        rw [(h.kids a haD u v e1).2.2, (h.kids b hbD z q e2).2.2, ev_pairTm] at hab
        simp only [List.mem_cons, List.not_mem_nil, or_false] at hp
        rcases hp with rfl | rfl
        · exact hab.2
        · exact hab.1
    rw [h.snd f]
    constructor
    · rintro ⟨k1, k2⟩
      have exy : evT f (s.tm x) = evT f (s.tm y) := k2 (x, y) (by rw [hs]; simp)
      have eab : evT f (s.tm a) = evT f (s.tm b) := by
        have e1 := k1 x hx
        have e2 := k1 y hy
        rcases hxy with ⟨rfl, rfl⟩ | ⟨rfl, rfl⟩
        · rw [← e1, ← e2, exy]
        · rw [← e1, ← e2, exy]
      refine ⟨fun c hc => ?_, fun p hp => ?_⟩
      · show evT f (s.tm c) = evT f (s.tm _)
        by_cases e : s.rep c = a
        · rw [ra e, k1 c hc, e, eab]
        · rw [rn e]; exact k1 c hc
      · rcases List.mem_append.1 hp with hp | hp
        · exact k2 p (by rw [hs]; exact List.mem_append_left _ hp)
        · exact hnew eab p hp
    · rintro ⟨k1, k2⟩
      have k1' : ∀ c ∈ s.D, evT f (s.tm c) = evT f (s.tm ((linkS s (r ++ nw) a b n).rep c)) := k1
      have eab : evT f (s.tm a) = evT f (s.tm b) := by have := k1' a haD; rwa [ra hra] at this
      refine ⟨fun c hc => ?_, fun p hp => ?_⟩
      · have := k1' c hc
        by_cases e : s.rep c = a
        · rw [ra e] at this; rw [this, e, eab]
        · rwa [rn e] at this
      · rw [hs] at hp
        rcases List.mem_append.1 hp with hp | hp
        · exact k2 p (List.mem_append_left _ hp)
        · cases List.mem_singleton.1 hp
          show evT f (s.tm x) = evT f (s.tm y)
          rw [k1' x hx, k1' y hy, hrepxy.1, hrepxy.2]
  · show n = (s.D.filter (bndQ (linkS s (r ++ nw) a b n))).length
    have hq : ∀ c ∈ s.D, ¬ c = a → bndQ (linkS s (r ++ nw) a b n) c = bndQ s c := by
      intro c hc hca
      have iff : ((linkS s (r ++ nw) a b n).rep c ≠ c) ↔ (s.rep c ≠ c) := by
        by_cases e : s.rep c = a
        · rw [ra e, e]
          exact ⟨fun _ q => hca q.symm, fun _ q => by subst q; exact hab (by rw [← e, hrb])⟩
        · rw [rn e]
      unfold bndQ
      exact decide_eq_decide.2 (and_congr_right fun _ => iff)
    have ha0 : bndQ s a = false := by unfold bndQ; rw [hra]; simp
    have key : ∀ l : List Nat, l.Nodup → (∀ c ∈ l, c ∈ s.D) → (l.filter (bndQ (linkS s (r ++ nw) a b n))).length = (l.filter (bndQ s)).length + (if a ∈ l ∧ bndQ (linkS s (r ++ nw) a b n) a = true then 1 else 0) := by
      intro l
      induction l with
      | nil => intro _ _; simp
      | cons c l ih =>
        intro hn hl
        obtain ⟨n1, n2⟩ := List.nodup_cons.1 hn
        have := ih n2 fun d hd => hl d (List.mem_cons_of_mem _ hd)
        by_cases e : c = a
        · subst e
          rw [List.filter_cons, List.filter_cons, ha0]
          cases hb : bndQ (linkS s (r ++ nw) c b n) c with
          | true =>
            rw [if_neg (fun q => n1 q.1)] at this
            rw [if_pos rfl, if_neg (by decide), if_pos ⟨by simp, rfl⟩, List.length_cons, this]
          | false =>
            rw [if_neg (fun q => n1 q.1)] at this
            rw [if_neg (by decide), if_neg (by decide), if_neg (fun q => by cases q.2), this]
        · have hca : (a ∈ c :: l) ↔ a ∈ l := ⟨fun q => (List.mem_cons.1 q).elim (fun q => absurd q.symm e) id, fun q => List.mem_cons_of_mem _ q⟩
          rw [List.filter_cons, List.filter_cons, hq c (hl c (by simp)) e]
          simp only [hca]
          cases bndQ s c with
          | true => simp only [if_true, List.length_cons, this]; omega
          | false => simpa using this
    rw [key s.D h.nodup fun c hc => hc, ← h.cnt]
    have hbq : bndQ (linkS s (r ++ nw) a b n) a = decide ((s.tm a).kind = 1) := by
      show decide ((s.tm a).kind = 1 ∧ (linkS s (r ++ nw) a b n).rep a ≠ a) = _
      rw [ra hra]
      simp [Ne.symm hab]
    rcases hA with ⟨k, _, _, e⟩ | ⟨u, v, z, q, e1, _, _, e⟩
    · rw [hbq, e, if_pos ⟨haD, by simp [k]⟩]
    · rw [hbq, e, if_neg (fun hh => by have := hh.2; rw [hk4 haD e1] at this; simp at this)]
      rfl
end Go.Proofs.Ytbbgiefnmihmdaa

namespace Go.Proofs.Ytbbgiefnmihmdaa
open Go.RowKit
set_option linter.unusedVariables false
set_option linter.unusedSimpArgs false

/-- What a term has to be. -/
def meanT (s : St) (t : Tm) : Tm := if t.kind = 1 then (match s.M t.num with | some b => s.tm (s.rep b) | none => t) else t
theorem mean_other {s : St} {t : Tm} (h : ¬ t.kind = 1) : meanT s t = t := if_neg h
theorem mean_free {s : St} {t : Tm} (h : t.kind = 1) (hm : s.M t.num = none) : meanT s t = t := by unfold meanT; rw [if_pos h, hm]
theorem mean_knot {s : St} {t : Tm} {b : Nat} (h : t.kind = 1) (hm : s.M t.num = some b) : meanT s t = s.tm (s.rep b) := by unfold meanT; rw [if_pos h, hm]
theorem KInv.mean_ok {s : St} {E : List (Tm × Tm)} (h : KInv s E) {t : Tm} (ht : Ok t) : Ok (meanT s t) := by
  by_cases hk : t.kind = 1
  · cases hm : s.M t.num with
    | none => rw [mean_free hk hm]; exact ht
    | some b => rw [mean_knot hk hm]; exact h.ok _ (h.repD b (h.maps _ b hm).1)
  · rw [mean_other hk]; exact ht
theorem KInv.mean_mean {s : St} {E : List (Tm × Tm)} (h : KInv s E) (t : Tm) : meanT s (meanT s t) = meanT s t := by
  by_cases hk : t.kind = 1
  · cases hm : s.M t.num with
    | none => rw [mean_free hk hm, mean_free hk hm]
    | some b =>
      rw [mean_knot hk hm]
      have hb := (h.maps _ b hm).1
      by_cases hr : (s.tm (s.rep b)).kind = 1
      · rw [mean_knot hr (h.vars _ (h.repD b hb) hr), h.repR b hb]
      · exact mean_other hr
  · rw [mean_other hk, mean_other hk]
/-- A term with all that is known filled in. -/
inductive Fill (s : St) : Tm → Tm → Prop
  | leaf {t : Tm} (h : ¬ (meanT s t).kind = 4) : Fill s t (meanT s t)
  | pair {t x y u v : Tm} (h : meanT s t = pairTm x y) (hx : Fill s x u) (hy : Fill s y v) : Fill s t (pairTm u v)
theorem Fill.one {s : St} {t u : Tm} (h : Fill s t u) : ∀ {v}, Fill s t v → u = v := by
  induction h with
  | leaf h =>
    intro v k
    cases k with
    | leaf _ => rfl
    | pair e _ _ => rw [e] at h; exact absurd rfl h
  | pair e hx hy ihx ihy =>
    intro v k
    cases k with
    | leaf h => rw [e] at h; exact absurd rfl h
    | pair e' hx' hy' =>
      rw [e] at e'
      simp only [pairTm, Tm.mk.injEq, List.cons.injEq, true_and, and_true] at e'
      obtain ⟨rfl, rfl⟩ := e'
      rw [ihx hx', ihy hy']
theorem Fill.inv {s : St} {t u : Tm} (h : Fill s t u) : (¬ (meanT s t).kind = 4 ∧ u = meanT s t) ∨ ∃ x y u' v', meanT s t = pairTm x y ∧ u = pairTm u' v' ∧ Fill s x u' ∧ Fill s y v' := by
  cases h with
  | leaf h => exact .inl ⟨h, rfl⟩
  | pair e hx hy => exact .inr ⟨_, _, _, _, e, rfl, hx, hy⟩
theorem Fill.mean {s : St} {E : List (Tm × Tm)} (h : KInv s E) {t u : Tm} (k : Fill s t u) : Fill s (meanT s t) u := by
  cases k with
  | leaf hk =>
    have := Fill.leaf (s := s) (t := meanT s t) (by rw [h.mean_mean]; exact hk)
    rwa [h.mean_mean] at this
  | pair e hx hy => exact .pair (by rw [h.mean_mean]; exact e) hx hy
/-- A valuation that keeps the ties of the variables. -/
def VTies (s : St) (f : Int → Tm) : Prop := ∀ v b, s.M v = some b → f v = evT f (s.tm (s.rep b))
theorem KInv.vties {s : St} {E : List (Tm × Tm)} (h : KInv s E) {f : Int → Tm} (k : Ties s f) : VTies s f := fun v b hm => by
  have h1 := h.maps v b hm
  have := k b h1.1
  rwa [h1.2, ev_varTm] at this
theorem ev_mean {s : St} {f : Int → Tm} (k : VTies s f) {t : Tm} (ht : Good t) : evT f (meanT s t) = evT f t := by
  by_cases hk : t.kind = 1
  · cases hm : s.M t.num with
    | none => rw [mean_free hk hm]
    | some b => rw [mean_knot hk hm, var_is ht hk, ev_varTm]; exact (k _ b hm).symm
  · rw [mean_other hk]
theorem good_pairTm {x y : Tm} (h : Good (pairTm x y)) : Good x ∧ Good y := by
  cases h with
  | pair _ _ hx hy => exact ⟨hx, hy⟩
theorem Fill.ev {s : St} {E : List (Tm × Tm)} (h : KInv s E) {f : Int → Tm} (k : VTies s f) {t u : Tm} (hf : Fill s t u) : Ok t → evT f u = evT f t := by
  induction hf with
  | leaf _ => intro ht; exact ev_mean k ht.2
  | pair e hx hy ihx ihy =>
    intro ht
    have hm := h.mean_ok ht
    rw [e] at hm
    have h2 := ok_two hm
    rw [← ev_mean k ht.2, e, ev_pairTm]
    exact ⟨ihx h2.1, ihy h2.2⟩
theorem Fill.good {s : St} {E : List (Tm × Tm)} (h : KInv s E) {t u : Tm} (hf : Fill s t u) : Ok t → Good u := by
  induction hf with
  | leaf _ => intro ht; exact (h.mean_ok ht).2
  | pair e hx hy ihx ihy =>
    intro ht
    have hm := h.mean_ok ht
    rw [e] at hm
    have h2 := ok_two hm
    exact .pair _ _ (ihx h2.1) (ihy h2.2)
/-- What is filled in has only variables that are roots. -/
theorem Fill.free {s : St} {E : List (Tm × Tm)} (h : KInv s E) {t u : Tm} (hf : Fill s t u) : Ok t → ∀ v ∈ u.vl, ∀ b, s.M v = some b → s.rep b = b := by
  induction hf with
  | @leaf t hk =>
    intro ht v hv b hm
    have hg := (h.mean_ok ht).2
    by_cases h1 : (meanT s t).kind = 1
    · rw [vl_of_var h1] at hv
      obtain rfl : v = (meanT s t).num := by simpa using hv
      have hmm := h.mean_mean t
      rw [mean_knot h1 hm] at hmm
      have hb := h.maps _ b hm
      have hrb := h.repD b hb.1
      have e1 : (s.tm (s.rep b)).kind = 1 := by rw [hmm]; exact h1
      have e2 := h.vars _ hrb e1
      rw [hmm, hm] at e2
      exact (Option.some.inj e2).symm
    · rw [vl_eq, if_neg h1, good_leaf hg hk, vlL_nil] at hv
      cases hv
  | pair e hx hy ihx ihy =>
    intro ht v hv b hm
    have hmo := h.mean_ok ht
    rw [e] at hmo
    have h2 := ok_two hmo
    rw [pairTm, vl_pair, List.mem_append] at hv
    rcases hv with hv | hv
    · exact ihx h2.1 v hv b hm
    · exact ihy h2.2 v hv b hm
theorem pairTm_nodes (x y : Tm) : (pairTm x y).nodes = 1 + x.nodes + y.nodes := by
  rw [pairTm, nodes_eq]; show 1 + nodesL [x, y] = _; simp only [nodesL]; omega
/-- How much room a term leaves. -/
def RoomS (s : St) (t : Tm) (room r : Int) : Prop := (∃ u, Fill s t u ∧ 0 ≤ r ∧ r = room - u.nodes) ∨ (r < 0 ∧ -1 ≤ r ∧ ∀ f, VTies s f → room < (evT f t).nodes)
theorem room_neg {s : St} {t : Tm} {room : Int} (h : room < 0) (h1 : -1 ≤ room) : RoomS s t room room := .inr ⟨h, h1, fun f _ => by have := nodes_pos (evT f t); omega⟩
theorem leaf_nodes1 {t : Tm} (h : Good t) (h4 : ¬ t.kind = 4) : t.nodes = 1 := by
  rw [nodes_eq, good_leaf h h4, nodesL_nil]
theorem room_leaf {s : St} {E : List (Tm × Tm)} (h : KInv s E) {t : Tm} {room : Int} (ht : Ok t) (hr : 0 ≤ room) (hk : ¬ (meanT s t).kind = 4) : RoomS s t room (room - 1) := by
  have hn := leaf_nodes1 (h.mean_ok ht).2 hk
  by_cases h1 : 1 ≤ room
  · exact .inl ⟨_, .leaf hk, by omega, by rw [hn]; rfl⟩
  · exact .inr ⟨by omega, by omega, fun f _ => by have := nodes_pos (evT f t); omega⟩
theorem room_pair {s : St} {E : List (Tm × Tm)} (h : KInv s E) {t x y : Tm} {room r1 r2 : Int} (ht : Ok t) (hr : 0 ≤ room) (e : meanT s t = pairTm x y) (h1 : RoomS s x (room - 1) r1) (h2 : RoomS s y r1 r2) : RoomS s t room r2 := by
  have hm := h.mean_ok ht
  rw [e] at hm
  have ho := ok_two hm
  have hev : ∀ f, VTies s f → (evT f t).nodes = 1 + (evT f x).nodes + (evT f y).nodes := fun f k => by
    rw [← ev_mean k ht.2, e, pairTm, ev_pair]; exact pairTm_nodes _ _
  rcases h1 with ⟨u, f1, g1, e1⟩ | ⟨g1, g1', n1⟩
  · rcases h2 with ⟨v, f2, g2, e2⟩ | ⟨g2, g2', n2⟩
    · exact .inl ⟨_, .pair e f1 f2, g2, by rw [pairTm_nodes]; omega⟩
    · refine .inr ⟨g2, g2', fun f k => ?_⟩
      have := n2 f k
      have h3 := f1.ev h k ho.1
      rw [hev f k]
      have h4 := ev_nodes (f := f) (f1.good h ho.1)
      rw [h3] at h4
      omega
  · have hall : ∀ f, VTies s f → room < (evT f t).nodes := fun f k => by
      have := n1 f k
      rw [hev f k]
      omega
    rcases h2 with ⟨v, f2, g2, e2⟩ | ⟨g2, g2', n2⟩
    · omega
    · exact .inr ⟨g2, g2', hall⟩

/-! What the ties say in the end. -/
theorem ev_root {s : St} {E : List (Tm × Tm)} (h : KInv s E) (hs : s.steps = []) {f : Int → Tm} (k : VTies s f) :
    ∀ (n : Nat) (b : Nat), b ∈ s.D → ((evT f (s.tm b)).nodes ≤ n ∨ (evT f (s.tm (s.rep b))).nodes ≤ n) → evT f (s.tm b) = evT f (s.tm (s.rep b))
  | 0, b, hb, hn => by have := nodes_pos (evT f (s.tm b)); have := nodes_pos (evT f (s.tm (s.rep b))); omega
  | n + 1, b, hb, hn => by
    have eqv : ∀ {x y : Nat}, Eqv s x y → x ∈ s.D ∧ y ∈ s.D ∧ evT f (s.tm (s.rep x)) = evT f (s.tm (s.rep y)) := by
      intro x y q
      induction q with
      | same hx hy e => exact ⟨hx, hy, by rw [e]⟩
      | leaf hx hy _ _ e => exact ⟨hx, hy, by rw [e]⟩
      | step e => rw [hs] at e; cases e
      | symm _ ih => exact ⟨ih.2.1, ih.1, ih.2.2.symm⟩
      | trans _ _ ih1 ih2 => exact ⟨ih1.1, ih2.2.1, ih1.2.2.trans ih2.2.2⟩
    by_cases hr : s.rep b = b
    · rw [hr]
    · by_cases hk : (s.tm b).kind = 1
      · have := k _ b (h.vars b hb hk)
        rw [← ev_varTm f, ← var_is (h.ok b hb).2 hk] at this
        exact this
      · obtain ⟨x, y, z, q, e1, e2, e3, e4⟩ := h.hard b hb hr hk
        obtain ⟨hx, hz, exz⟩ := eqv e3
        obtain ⟨hy, hq, eyq⟩ := eqv e4
        have hb1 := (h.kids b hb x y e1).2.2
        have hb2 := (h.kids _ (h.repD b hb) z q e2).2.2
        have key : ∀ {x z : Nat}, x ∈ s.D → z ∈ s.D → evT f (s.tm (s.rep x)) = evT f (s.tm (s.rep z)) → ((evT f (s.tm x)).nodes ≤ n ∨ (evT f (s.tm z)).nodes ≤ n) → evT f (s.tm x) = evT f (s.tm z) := by
          intro x z hx hz e hn
          rcases hn with hn | hn
          · have a1 := ev_root h hs k n x hx (.inl hn)
            have a2 := ev_root h hs k n z hz (.inr (by rw [← e, ← a1]; exact hn))
            rw [a1, a2, e]
          · have a2 := ev_root h hs k n z hz (.inl hn)
            have a1 := ev_root h hs k n x hx (.inr (by rw [e, ← a2]; exact hn))
            rw [a1, a2, e]
        rw [hb1, hb2] at hn ⊢
        rw [ev_pairTm]
        have m1 : (evT f (pairTm (s.tm x) (s.tm y))).nodes = 1 + (evT f (s.tm x)).nodes + (evT f (s.tm y)).nodes := by rw [pairTm, ev_pair]; exact pairTm_nodes _ _
        have m2 : (evT f (pairTm (s.tm z) (s.tm q))).nodes = 1 + (evT f (s.tm z)).nodes + (evT f (s.tm q)).nodes := by rw [pairTm, ev_pair]; exact pairTm_nodes _ _
        rw [m1, m2] at hn
        exact ⟨key hx hz exz (by omega), key hy hq eyq (by omega)⟩
theorem KInv.sol {s : St} {E : List (Tm × Tm)} (h : KInv s E) (hs : s.steps = []) {f : Int → Tm} : VTies s f ↔ SolE f E := by
  rw [h.snd f]
  refine ⟨fun k => ⟨fun b hb => ev_root h hs k _ b hb (.inl (Nat.le_refl _)), fun p hp => by rw [hs] at hp; cases hp⟩, fun k => h.vties k.1⟩
/-- Bindings of all bound variables, each with its term filled in. -/
structure Full (s : St) (u : List Bd) : Prop where
  asc : u.Pairwise (fun a b => a.v < b.v)
  mem : ∀ c ∈ u, ∃ b, s.M c.v = some b ∧ s.rep b ≠ b ∧ Fill s (s.tm (s.rep b)) c.t ∧ c.t.nodes ≤ 5000
  all : ∀ v b, s.M v = some b → s.rep b ≠ b → ∃ c ∈ u, c.v = v
theorem inj_length : ∀ {α : Type} [BEq α] [LawfulBEq α] {l m : List α}, l.Nodup → (∀ x ∈ l, x ∈ m) → l.length ≤ m.length
  | _, _, _, [], m, _, _ => Nat.zero_le _
  | α, _, _, x :: l, m, hn, h => by
    obtain ⟨h1, h2⟩ := List.nodup_cons.1 hn
    have hx : x ∈ m := h x (by simp)
    have := inj_length (l := l) (m := m.erase x) h2 fun y hy => (List.mem_erase_of_ne (fun e => h1 (by rw [← e]; exact hy))).2 (h y (by simp [hy]))
    rw [List.length_erase_of_mem hx] at this
    have : 0 < m.length := List.length_pos_of_mem hx
    simp only [List.length_cons]
    omega
theorem full_len {s : St} {E : List (Tm × Tm)} (h : KInv s E) {u : List Bd} (hu : Full s u) : u.length ≤ s.bound := by
  have key : ∃ l : List Nat, l.length = u.length ∧ l.Nodup ∧ (∀ b ∈ l, b ∈ s.D.filter (bndQ s)) ∧ ∀ b ∈ l, ∃ c ∈ u, s.M c.v = some b := by
    have hm := hu.mem
    have ha := hu.asc
    clear hu
    induction u with
    | nil => exact ⟨[], rfl, List.nodup_nil, (fun b hb => by cases hb), fun b hb => by cases hb⟩
    | cons c u ih =>
      obtain ⟨p1, p2⟩ := List.pairwise_cons.1 ha
      obtain ⟨l, l1, l2, l3, l4⟩ := ih (fun d hd => hm d (by simp [hd])) p2
      obtain ⟨b, b1, b2, _⟩ := hm c (by simp)
      have hb := h.maps _ b b1
      refine ⟨b :: l, by simp [l1], List.nodup_cons.2 ⟨fun hbl => ?_, l2⟩, fun d hd => ?_, fun d hd => ?_⟩
      · obtain ⟨e, he, e1⟩ := l4 b hbl
        have e2 := (h.maps _ b e1).2
        rw [hb.2] at e2
        have : c.v = e.v := congrArg Tm.num e2
        have := p1 e he
        omega
      · rcases List.mem_cons.1 hd with rfl | hd
        · exact List.mem_filter.2 ⟨hb.1, by unfold bndQ; rw [hb.2]; exact decide_eq_true ⟨rfl, b2⟩⟩
        · exact l3 d hd
      · rcases List.mem_cons.1 hd with rfl | hd
        · exact ⟨c, by simp, b1⟩
        · obtain ⟨e, he, e1⟩ := l4 d hd
          exact ⟨e, by simp [he], e1⟩
  obtain ⟨l, l1, l2, l3, _⟩ := key
  rw [← l1, h.cnt]
  exact inj_length l2 l3
/-- The bindings are the most general unifier. -/
theorem KInv.mgu {s : St} {E F : List (Tm × Tm)} {o : List Bd} (h : KInv s E) (hs : s.steps = []) (hb : s.bound ≤ 400) {u : List Bd} (hu : Full s u) (hE : ∀ f, SolE f E ↔ Sat f o ∧ SolE f F) : Mgu o F u := by
  have hok : ∀ {v b}, s.M v = some b → Ok (s.tm (s.rep b)) := fun hm => h.ok _ (h.repD _ (h.maps _ _ hm).1)
  refine ⟨subst_mk hu.asc (Nat.le_trans (full_len h hu) hb) fun c hc => ?_, fun f => ?_⟩
  · obtain ⟨b, b1, b2, b3, b4⟩ := hu.mem c hc
    have hm := h.maps _ b b1
    have hv := h.ok b hm.1
    rw [hm.2] at hv
    refine ⟨vrange hv.2 rfl, ⟨b4, b3.good h (hok b1)⟩, fun ⟨k1, k2⟩ => ?_, fun v hv => ?_⟩
    · have hmm : meanT s (s.tm (s.rep b)) = s.tm (s.rep b) := by
        have := h.mean_mean (varTm c.v)
        rw [mean_knot (t := varTm c.v) rfl b1] at this
        exact this
      rcases b3.inv with ⟨hk, e3⟩ | ⟨_, _, _, _, _, e3, _, _⟩
      · rw [e3, hmm] at k1 k2
        have := h.low b hm.1 b2 (by rw [hm.2]; rfl) k1
        rw [hm.2] at this
        have : (s.tm (s.rep b)).num < c.v := this
        omega
      · rw [e3] at k1; cases k1
    · rw [getO_none]
      intro d hd e
      obtain ⟨b', c1, c2, _⟩ := hu.mem d hd
      exact c2 (b3.free h (hok b1) v hv b' (by rw [← e]; exact c1))
  · rw [← hE f, ← h.sol hs]
    constructor
    · intro k
      have fev : ∀ {t w}, Fill s t w → Ok t → evT f w = evT f t := by
        intro t w q
        induction q with
        | @leaf t hk =>
          intro ht
          by_cases h1 : t.kind = 1
          · cases hm : s.M t.num with
            | none => rw [mean_free h1 hm]
            | some b =>
              by_cases hr : s.rep b = b
              · rw [mean_knot h1 hm, hr, (h.maps _ b hm).2, ← var_is ht.2 h1]
              · obtain ⟨c, hc, hcv⟩ := hu.all _ b hm hr
                obtain ⟨b', b1, b2, b3, b4⟩ := hu.mem c hc
                rw [hcv, hm] at b1
                cases b1
                have hf : Fill s t c.t := by
                  have hmk := mean_knot h1 hm
                  have hmm := h.mean_mean t
                  rw [hmk] at hmm
                  rcases b3.inv with ⟨hk2, e3⟩ | ⟨_, _, _, _, e, _, _, _⟩
                  · rw [e3, hmm, ← hmk]; exact .leaf hk
                  · rw [hmm, ← hmk] at e; rw [e] at hk; exact absurd rfl hk
                have e1 := hf.one (.leaf hk)
                have e2 := k c hc
                rw [hcv, e1] at e2
                rw [← e2, var_is ht.2 h1, ev_varTm]
                rfl
          · rw [mean_other h1]
        | @pair t x y w w' e hx hy ihx ihy =>
          intro ht
          have hmo := h.mean_ok ht
          rw [e] at hmo
          have h2 := ok_two hmo
          by_cases h1 : t.kind = 1
          · cases hm : s.M t.num with
            | none => rw [mean_free h1 hm] at e; rw [e] at h1; cases h1
            | some b =>
              have hmk := mean_knot h1 hm
              have hr : s.rep b ≠ b := fun hr => by rw [hmk, hr, (h.maps _ b hm).2] at e; simp [pairTm, varTm] at e
              obtain ⟨c, hc, hcv⟩ := hu.all _ b hm hr
              obtain ⟨b', b1, b2, b3, b4⟩ := hu.mem c hc
              rw [hcv, hm] at b1
              cases b1
              have hmm := h.mean_mean t
              rw [hmk] at hmm
              have e1 := b3.one (.pair (by rw [hmm, ← hmk]; exact e) hx hy)
              have e2 := k c hc
              rw [hcv, e1] at e2
              rw [← e2, var_is ht.2 h1, ev_varTm]
              rfl
          · rw [mean_other h1] at e
            rw [e, ev_pairTm]
            exact ⟨ihx h2.1, ihy h2.2⟩
      intro v b hm
      by_cases hr : s.rep b = b
      · rw [hr, (h.maps _ b hm).2, ev_varTm]
      · obtain ⟨c, hc, hcv⟩ := hu.all _ b hm hr
        obtain ⟨b', b1, b2, b3, b4⟩ := hu.mem c hc
        rw [hcv, hm] at b1
        cases b1
        rw [← fev b3 (hok hm), ← k c hc, hcv]
    · intro k c hc
      obtain ⟨b, b1, b2, b3, b4⟩ := hu.mem c hc
      rw [k _ b b1, b3.ev h k (hok b1)]
/-- No solution that fits: two terms that clash; a term too large; too many bound variables. -/
theorem KInv.too_large {s : St} {E : List (Tm × Tm)} (h : KInv s E) {o : List Bd} {F : List (Tm × Tm)} (hE : ∀ f, SolE f E ↔ Sat f o ∧ SolE f F) {v : Int} {b : Nat} (hm : s.M v = some b) {r : Int}
    (hr : RoomS s (s.tm (s.rep b)) 5000 r) (hn : r < 0) : NoU o F := by
  intro w hw h1 h2
  have hv := h.vties ((h.snd _).1 ((hE (sgm w)).2 ⟨h1, h2⟩)).1
  rcases hr with ⟨u, _, h0, _⟩ | ⟨_, _, hr⟩
  · omega
  · have := hr _ hv
    rw [← hv v b hm] at this
    have := sgm_small hw v
    omega
theorem KInv.too_many {s : St} {E : List (Tm × Tm)} (h : KInv s E) {o : List Bd} {F : List (Tm × Tm)} (hE : ∀ f, SolE f E ↔ Sat f o ∧ SolE f F) (hb : 400 < s.bound) : NoU o F := by
  intro w hw h1 h2
  have hv := h.vties ((h.snd _).1 ((hE (sgm w)).2 ⟨h1, h2⟩)).1
  have hd : ∀ b ∈ s.D.filter (bndQ s), getO w (s.tm b).num ≠ none := by
    intro b hb
    obtain ⟨hbD, hq⟩ := List.mem_filter.1 hb
    have hq' := of_decide_eq_true hq
    have hm := h.vars b hbD hq'.1
    refine dom_one hw (h.ok _ (h.repD b hbD)).2 (fun ⟨k1, k2⟩ => ?_) (hv _ b hm)
    have := h.low b hbD hq'.2 hq'.1 k1
    omega
  have hinj : ((s.D.filter (bndQ s)).map fun b => (s.tm b).num).Nodup := by
    refine List.pairwise_map.2 ?_
    refine List.Pairwise.imp_of_mem ?_ (h.nodup.filter _)
    intro a b ha hb hne e
    obtain ⟨haD, hqa⟩ := List.mem_filter.1 ha
    obtain ⟨hbD, hqb⟩ := List.mem_filter.1 hb
    have k1 := h.vars a haD (of_decide_eq_true hqa).1
    have k2 := h.vars b hbD (of_decide_eq_true hqb).1
    rw [e, k2] at k1
    exact hne (Option.some.inj k1).symm
  have := inj_length (m := w.map fun b => b.v) hinj fun v hv => by
    obtain ⟨b, hb, rfl⟩ := List.mem_map.1 hv
    obtain ⟨c, hc, e⟩ := getO_ne.1 (hd b hb)
    exact List.mem_map.2 ⟨c, hc, e⟩
  rw [List.length_map, List.length_map, ← h.cnt] at this
  have := hw.1.2.2
  omega
theorem KInv.clash {s : St} {E : List (Tm × Tm)} (h : KInv s E) {o : List Bd} {F : List (Tm × Tm)} (hE : ∀ f, SolE f E ↔ Sat f o ∧ SolE f F) {x y : Nat} (hs : (x, y) ∈ s.steps) (h1 : ¬ (s.tm (s.rep x)).kind = 1) (h2 : ¬ (s.tm (s.rep y)).kind = 1)
    (hc : ¬ ((s.tm (s.rep x)).kind = 4 ∧ (s.tm (s.rep y)).kind = 4)) (hne : s.tm (s.rep x) ≠ s.tm (s.rep y)) : NoU o F := by
  obtain ⟨hx, hy⟩ := h.stepsD _ hs
  have gx := (h.ok _ (h.repD x hx)).2
  have gy := (h.ok _ (h.repD y hy)).2
  have hnf : ¬ ((s.tm (s.rep x)).kind = (s.tm (s.rep y)).kind ∧ (s.tm (s.rep x)).num = (s.tm (s.rep y)).num ∧ (s.tm (s.rep x)).name = (s.tm (s.rep y)).name) := by
    intro k
    refine hne (good_fields k ?_)
    have h4x : ¬ (s.tm (s.rep x)).kind = 4 := fun q => hc ⟨q, by rw [← k.1]; exact q⟩
    have h4y : ¬ (s.tm (s.rep y)).kind = 4 := fun q => hc ⟨by rw [k.1]; exact q, q⟩
    rw [good_leaf gx h4x, good_leaf gy h4y]
  intro w hw k1 k2
  have hp := (h.snd _).1 ((hE (sgm w)).2 ⟨k1, k2⟩)
  refine clash_no (s := o) h1 h2 hnf w hw k1 (sol_one.2 ?_)
  show evT (sgm w) (s.tm (s.rep x)) = evT (sgm w) (s.tm (s.rep y))
  rw [← hp.1 x hx, ← hp.1 y hy]
  exact hp.2 _ hs
end Go.Proofs.Ytbbgiefnmihmdaa

namespace Go.Proofs.Ytbbgiefnmihmdaa
open Go.RowKit
set_option linter.unusedVariables false
set_option linter.unusedSimpArgs false

def sumD (s : St) (f : Nat → Nat) : Nat := (s.D.map f).sum
/-- What a knot is worth: its places where it has no parts yet; else itself, unless it is tied. -/
def crdB (s : St) (b : Nat) : Nat := if s.parts b = none then (s.tm b).nodes else 1
def crdA (s : St) (b : Nat) : Nat := if s.parts b = none then (s.tm b).nodes else if s.rep b = b then 1 else 0
def credA (s : St) : Nat := sumD s (crdA s)
def credB (s : St) : Nat := sumD s (crdB s)
theorem sum_congr {l : List Nat} {f g : Nat → Nat} (h : ∀ x ∈ l, f x = g x) : (l.map f).sum = (l.map g).sum := by rw [List.map_congr_left h]
theorem sum_at : ∀ {l : List Nat} {f g : Nat → Nat} {b : Nat}, l.Nodup → b ∈ l → (∀ x ∈ l, ¬ x = b → f x = g x) → (l.map f).sum + g b = (l.map g).sum + f b
  | [], _, _, _, _, hb, _ => by cases hb
  | c :: l, f, g, b, hn, hb, h => by
    obtain ⟨h1, h2⟩ := List.nodup_cons.1 hn
    simp only [List.map_cons, List.sum_cons]
    by_cases e : c = b
    · subst e
      have : (l.map f).sum = (l.map g).sum := sum_congr fun x hx => h x (List.mem_cons_of_mem _ hx) fun q => h1 (q ▸ hx)
      omega
    · have hb' : b ∈ l := (List.mem_cons.1 hb).elim (fun q => absurd q.symm e) id
      have := sum_at h2 hb' fun x hx => h x (List.mem_cons_of_mem _ hx)
      have := h c (by simp) e
      omega
theorem len_sum : ∀ {l : List Nat} {f : Nat → Nat}, (∀ x ∈ l, 1 ≤ f x) → l.length ≤ (l.map f).sum
  | [], _, _ => Nat.zero_le _
  | c :: l, f, h => by
    have := len_sum (l := l) fun x hx => h x (List.mem_cons_of_mem _ hx)
    have := h c (by simp)
    simp only [List.map_cons, List.sum_cons, List.length_cons]
    omega
theorem len_credB (s : St) : s.D.length ≤ credB s := len_sum fun b _ => by
  unfold crdB
  split
  · exact nodes_pos _
  · exact Nat.le_refl _
theorem sum_le : ∀ {l : List Nat} {f g : Nat → Nat}, (∀ x ∈ l, f x ≤ g x) → (l.map f).sum ≤ (l.map g).sum
  | [], _, _, _ => Nat.le_refl _
  | c :: l, f, g, h => by
    have := sum_le (l := l) fun x hx => h x (List.mem_cons_of_mem _ hx)
    have := h c (by simp)
    simp only [List.map_cons, List.sum_cons]
    omega
theorem cred_le (s : St) : credA s ≤ credB s := sum_le fun b _ => by
  unfold crdA crdB
  split
  · exact Nat.le_refl _
  · split <;> omega
theorem new_cred {s : St} {b : Nat} (t : Tm) (hb : ¬ b ∈ s.D) : credA (newS s b t) = credA s + t.nodes ∧ credB (newS s b t) = credB s + t.nodes := by
  obtain ⟨b1, b2, b3⟩ := new_self s b t
  constructor
  · show ((b :: s.D).map (crdA (newS s b t))).sum = _
    rw [List.map_cons, List.sum_cons, sum_congr (g := crdA s) fun x hx => by unfold crdA; rw [(new_old t hb hx).1, (new_old t hb hx).2.1, (new_old t hb hx).2.2]]
    have : crdA (newS s b t) b = t.nodes := by unfold crdA; rw [if_pos b3, b1]
    rw [this]
    exact Nat.add_comm _ _
  · show ((b :: s.D).map (crdB (newS s b t))).sum = _
    rw [List.map_cons, List.sum_cons, sum_congr (g := crdB s) fun x hx => by unfold crdB; rw [(new_old t hb hx).1, (new_old t hb hx).2.2]]
    have : crdB (newS s b t) b = t.nodes := by unfold crdB; rw [if_pos b3, b1]
    rw [this]
    exact Nat.add_comm _ _
theorem part_cred {s : St} {b x y : Nat} (hn : s.D.Nodup) (hb : b ∈ s.D) (h0 : s.parts b = none) : credA (partS s b x y) + (s.tm b).nodes ≤ credA s + 1 ∧ credB (partS s b x y) + (s.tm b).nodes = credB s + 1 := by
  have hne : ∀ c, ¬ c = b → (partS s b x y).parts c = s.parts c := fun c e => updN_ne _ _ e
  have heq : (partS s b x y).parts b = some (x, y) := updN_self _ _ _
  constructor
  · have := sum_at (f := crdA (partS s b x y)) (g := crdA s) hn hb fun c _ e => by unfold crdA; rw [hne c e]; rfl
    have h1 : crdA (partS s b x y) b ≤ 1 := by unfold crdA; rw [heq, if_neg (by simp)]; split <;> omega
    have h2 : crdA s b = (s.tm b).nodes := by unfold crdA; rw [if_pos h0]
    unfold credA sumD
    show (s.D.map (crdA (partS s b x y))).sum + _ ≤ _
    omega
  · have := sum_at (f := crdB (partS s b x y)) (g := crdB s) hn hb fun c _ e => by unfold crdB; rw [hne c e]; rfl
    have h1 : crdB (partS s b x y) b = 1 := by unfold crdB; rw [heq, if_neg (by simp)]
    have h2 : crdB s b = (s.tm b).nodes := by unfold crdB; rw [if_pos h0]
    unfold credB sumD
    show (s.D.map (crdB (partS s b x y))).sum + _ = _
    omega
theorem link_cred {s : St} {E : List (Tm × Tm)} (h : KInv s E) {r : List (Nat × Nat)} {a b n : Nat} (ha : a ∈ s.D) (hra : s.rep a = a) (hrb : s.rep b = b) (hab : a ≠ b) :
    credB (linkS s r a b n) = credB s ∧ credA (linkS s r a b n) ≤ credA s ∧ (s.parts a ≠ none → credA (linkS s r a b n) + 1 ≤ credA s) := by
  have hrep : ∀ c, ¬ c = a → ((linkS s r a b n).rep c = c ↔ s.rep c = c) := by
    intro c hc
    rw [link_rep]
    by_cases e : s.rep c = a
    · rw [if_pos e, e]
      exact ⟨fun q => by subst q; exact absurd (hrb.symm.trans e) (fun q => hab q.symm), fun q => absurd q.symm hc⟩
    · rw [if_neg e]
  have heq : ∀ c, ¬ c = a → crdA (linkS s r a b n) c = crdA s c := fun c hc => by
    unfold crdA
    show (if s.parts c = none then (s.tm c).nodes else if (linkS s r a b n).rep c = c then 1 else 0) = _
    simp only [hrep c hc]
  refine ⟨rfl, ?_, fun hp => ?_⟩
  · refine sum_le fun c hc => ?_
    by_cases e : c = a
    · subst e
      unfold crdA
      show (if s.parts c = none then (s.tm c).nodes else if (linkS s r c b n).rep c = c then 1 else 0) ≤ _
      split
      · exact Nat.le_refl _
      · split <;> omega
    · exact Nat.le_of_eq (heq c e)
  · have := sum_at (f := crdA (linkS s r a b n)) (g := crdA s) h.nodup ha fun c _ e => heq c e
    have h1 : crdA (linkS s r a b n) a = 0 := by
      unfold crdA
      show (if s.parts a = none then (s.tm a).nodes else if (linkS s r a b n).rep a = a then 1 else 0) = 0
      rw [if_neg hp, link_rep, if_pos hra, if_neg (Ne.symm hab)]
    have h2 : crdA s a = 1 := by unfold crdA; rw [if_neg hp, if_pos hra]
    unfold credA sumD
    show (s.D.map (crdA (linkS s r a b n))).sum + 1 ≤ _
    omega
/-- The rounds that are still to come at most. -/
def muS (s : St) : Nat := 3 * credA s + s.steps.length

/-- Some knots more, of k places in all; what was there is as it was. -/
structure Ext (k : Nat) (s s' : St) : Prop where
  D : ∀ c ∈ s.D, c ∈ s'.D
  tm : ∀ c ∈ s.D, s'.tm c = s.tm c
  rep : ∀ c ∈ s.D, s'.rep c = s.rep c
  parts : ∀ c ∈ s.D, s.parts c ≠ none → s'.parts c = s.parts c
  steps : s'.steps = s.steps
  bound : s'.bound = s.bound
  credA : credA s' ≤ credA s + k
  credB : credB s' ≤ credB s + k
  inv : ∀ E, KInv s E → KInv s' E
theorem Ext.refl (k : Nat) (s : St) : Ext k s s := ⟨fun _ h => h, fun _ _ => rfl, fun _ _ => rfl, fun _ _ _ => rfl, rfl, rfl, Nat.le_add_right _ _, Nat.le_add_right _ _, fun _ h => h⟩
theorem Ext.trans {i j : Nat} {s t u : St} (h : Ext i s t) (k : Ext j t u) : Ext (i + j) s u :=
  ⟨fun c hc => k.D c (h.D c hc), fun c hc => (k.tm c (h.D c hc)).trans (h.tm c hc), fun c hc => (k.rep c (h.D c hc)).trans (h.rep c hc),
    fun c hc hp => by have h1 := h.parts c hc hp; exact (k.parts c (h.D c hc) (by rw [h1]; exact hp)).trans h1, k.steps.trans h.steps, k.bound.trans h.bound,
    by have := h.credA; have := k.credA; omega, by have := h.credB; have := k.credB; omega, fun E hE => k.inv E (h.inv E hE)⟩
/-- What knotOf makes. -/
def KnS (s : St) (t : Tm) (b : Nat) (s' : St) : Prop := (s' = s ∧ b ∈ s.D ∧ s.tm b = t) ∨ (s' = newS s b t ∧ ¬ b ∈ s.D ∧ (t.kind = 1 → s.M t.num = none))
theorem KnS.ext {s s' : St} {t : Tm} {b : Nat} (h : KnS s t b s') (ht : Ok t) : Ext t.nodes s s' ∧ b ∈ s'.D ∧ s'.tm b = t := by
  rcases h with ⟨rfl, h1, h2⟩ | ⟨rfl, h1, h2⟩
  · exact ⟨Ext.refl _ _, h1, h2⟩
  · have := new_cred t h1
    refine ⟨⟨fun c hc => List.mem_cons_of_mem _ hc, fun c hc => (new_old t h1 hc).1, fun c hc => (new_old t h1 hc).2.1, fun c hc _ => (new_old t h1 hc).2.2, rfl, rfl, Nat.le_of_eq this.1, Nat.le_of_eq this.2, fun E hE => hE.new h1 ht h2⟩, List.mem_cons_self, (new_self s b t).1⟩
/-- What partsOf makes of a root that is a pair. -/
theorem parts_ext {s s1 s2 : St} {E : List (Tm × Tm)} (hI : KInv s E) {b x y : Nat} {u v : Tm} (hb : b ∈ s.D) (h0 : s.parts b = none) (ht : s.tm b = pairTm u v) (h1 : KnS s u x s1) (h2 : KnS s1 v y s2) :
    Ext 0 s (partS s2 b x y) ∧ (partS s2 b x y).parts b = some (x, y) := by
  have hok := hI.ok b hb
  rw [ht] at hok
  have h2k := ok_two hok
  obtain ⟨e1, x1, x2⟩ := h1.ext h2k.1
  obtain ⟨e2, y1, y2⟩ := h2.ext h2k.2
  have e := e1.trans e2
  have hp2 : s2.parts b = none := by
    have p1 : s1.parts b = none := by
      rcases h1 with ⟨rfl, _⟩ | ⟨rfl, n1, _⟩
      · exact h0
      · rw [(new_old u n1 hb).2.2]; exact h0
    rcases h2 with ⟨rfl, _⟩ | ⟨rfl, n1, _⟩
    · exact p1
    · rw [(new_old v n1 (e1.D b hb)).2.2]; exact p1
  have hb2 := e.D b hb
  have hc := part_cred (x := x) (y := y) (e.inv E hI).nodup hb2 hp2
  have htb : s2.tm b = pairTm u v := (e.tm b hb).trans ht
  rw [htb, pairTm_nodes] at hc
  have hq : s2.tm b = pairTm (s2.tm x) (s2.tm y) := by rw [htb, y2, e2.tm x x1, x2]
  refine ⟨⟨e.D, e.tm, e.rep, fun c hc hp => ?_, e.steps, e.bound, ?_, ?_, fun E' hE => (e.inv E' hE).part hb2 hp2 (e2.D x x1) y1 hq⟩, updN_self _ _ _⟩
  · have hcb : ¬ c = b := fun q => hp (q ▸ h0)
    exact (updN_ne _ _ hcb).trans (e.parts c hc hp)
  · have := e.credA; omega
  · have := e.credB; omega
end Go.Proofs.Ytbbgiefnmihmdaa

