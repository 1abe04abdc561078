/-
  The program's solver, plain: knots that stand for terms, tied to each other; what a step of the solver keeps; what the ties say in the end.
-/
import Derived.Test.YtealiilcnmdmdaaGreatMguOr
namespace Go.Proofs.YtealiilcnmdmdaaGreat
open Go.RowKit
set_option linter.unusedVariables false
set_option linter.unusedSimpArgs false

def pairTm (x y : Tm) : Tm := .mk 4 0 ⟨#[]⟩ [x, y]
/-- How many pairs a term has. -/
def pairsN : Nat → Tm → Nat
  | 0, _ => 0
  | n + 1, .mk k i s l => if k = 4 then 1 + (l.map (pairsN n)).sum else 0
/-- What the solver holds. -/
structure St where
  D : List Nat
  tm : Nat → Tm
  rep : Nat → Nat
  parts : Nat → Option (Nat × Nat)
  M : Int → Option Nat
  steps : List (Nat × Nat)
  bound : Nat
def updN {α : Type} (f : Nat → α) (b : Nat) (x : α) : Nat → α := fun c => if c = b then x else f c
theorem updN_self {α : Type} (f : Nat → α) (b : Nat) (x : α) : updN f b x b = x := if_pos rfl
theorem updN_ne {α : Type} (f : Nat → α) {b c : Nat} (x : α) (h : ¬ c = b) : updN f b x c = f c := if_neg h

/-- Knots that are or will be the same. -/
inductive Eqv (s : St) : Nat → Nat → Prop
  | same {x y : Nat} (hx : x ∈ s.D) (hy : y ∈ s.D) (h : s.rep x = s.rep y) : Eqv s x y
  | leaf {x y : Nat} (hx : x ∈ s.D) (hy : y ∈ s.D) (h1 : ¬ (s.tm (s.rep x)).kind = 1) (h4 : ¬ (s.tm (s.rep x)).kind = 4) (h : s.tm (s.rep x) = s.tm (s.rep y)) : Eqv s x y
  | step {x y : Nat} (h : (x, y) ∈ s.steps) : Eqv s x y
  | symm {x y : Nat} (h : Eqv s x y) : Eqv s y x
  | trans {x y z : Nat} (h : Eqv s x y) (k : Eqv s y z) : Eqv s x z
def Ties (s : St) (f : Int → Tm) : Prop := ∀ b ∈ s.D, evT f (s.tm b) = evT f (s.tm (s.rep b))
def Pend (s : St) (f : Int → Tm) : Prop := ∀ p ∈ s.steps, evT f (s.tm p.1) = evT f (s.tm p.2)
def bndQ (s : St) (b : Nat) : Bool := decide ((s.tm b).kind = 1 ∧ s.rep b ≠ b)
structure KInv (s : St) (E : List (Tm × Tm)) : Prop where
  nodup : s.D.Nodup
  ok : ∀ b ∈ s.D, Ok (s.tm b)
  repD : ∀ b ∈ s.D, s.rep b ∈ s.D
  repR : ∀ b ∈ s.D, s.rep (s.rep b) = s.rep b
  vars : ∀ b ∈ s.D, (s.tm b).kind = 1 → s.M (s.tm b).num = some b
  maps : ∀ v b, s.M v = some b → b ∈ s.D ∧ s.tm b = varTm v
  kids : ∀ b ∈ s.D, ∀ x y, s.parts b = some (x, y) → x ∈ s.D ∧ y ∈ s.D ∧ s.tm b = pairTm (s.tm x) (s.tm y)
  low : ∀ b ∈ s.D, s.rep b ≠ b → (s.tm b).kind = 1 → (s.tm (s.rep b)).kind = 1 → (s.tm (s.rep b)).num < (s.tm b).num
  hard : ∀ b ∈ s.D, s.rep b ≠ b → ¬ (s.tm b).kind = 1 → ∃ x y z q, s.parts b = some (x, y) ∧ s.parts (s.rep b) = some (z, q) ∧ Eqv s x z ∧ Eqv s y q
  stepsD : ∀ p ∈ s.steps, p.1 ∈ s.D ∧ p.2 ∈ s.D
  snd : ∀ f, SolE f E ↔ Ties s f ∧ Pend s f
  cnt : s.bound = (s.D.filter (bndQ s)).length
theorem pair_kind (x y : Tm) : (pairTm x y).kind = 4 := rfl
theorem ev_pairTm {f : Int → Tm} {x y z q : Tm} : evT f (pairTm x y) = evT f (pairTm z q) ↔ evT f x = evT f z ∧ evT f y = evT f q := by
  rw [pairTm, pairTm, ev_pair, ev_pair, Tm.mk.injEq]
  simp

/-- Nothing yet. -/
def st0 : St := ⟨[], fun _ => zeroTm, id, fun _ => none, fun _ => none, [], 0⟩
theorem inv0 : KInv st0 [] :=
  ⟨List.nodup_nil, (fun b h => by cases h), (fun b h => by cases h), (fun b h => by cases h), (fun b h => by cases h), (fun v b h => by cases h), (fun b h => by cases h), (fun b h => by cases h), (fun b h => by cases h),
    (fun p h => by cases h), fun f => ⟨fun _ => ⟨(fun b h => by cases h), fun p h => by cases h⟩, fun _ => solE_nil f⟩, rfl⟩

/-- A new knot. -/
def newS (s : St) (b : Nat) (t : Tm) : St :=
  { s with D := b :: s.D, tm := updN s.tm b t, rep := updN s.rep b b, parts := updN s.parts b none, M := fun v => if t.kind = 1 ∧ v = t.num then some b else s.M v }
theorem new_old {s : St} {b c : Nat} (t : Tm) (hb : ¬ b ∈ s.D) (hc : c ∈ s.D) : (newS s b t).tm c = s.tm c ∧ (newS s b t).rep c = s.rep c ∧ (newS s b t).parts c = s.parts c := by
  have hne : ¬ c = b := fun e => hb (e ▸ hc)
  exact ⟨updN_ne _ _ hne, updN_ne _ _ hne, updN_ne _ _ hne⟩
theorem new_self (s : St) (b : Nat) (t : Tm) : (newS s b t).tm b = t ∧ (newS s b t).rep b = b ∧ (newS s b t).parts b = none := ⟨updN_self _ _ _, updN_self _ _ _, updN_self _ _ _⟩
theorem eqv_mono {s s' : St} (hD : ∀ x ∈ s.D, x ∈ s'.D) (h1 : ∀ x ∈ s.D, ∀ y ∈ s.D, s.rep x = s.rep y → Eqv s' x y)
    (h2 : ∀ x ∈ s.D, ∀ y ∈ s.D, ¬ (s.tm (s.rep x)).kind = 1 → ¬ (s.tm (s.rep x)).kind = 4 → s.tm (s.rep x) = s.tm (s.rep y) → Eqv s' x y) (h3 : ∀ x y, (x, y) ∈ s.steps → Eqv s' x y) {x y : Nat} (h : Eqv s x y) : Eqv s' x y := by
  induction h with
  | same hx hy h => exact h1 _ hx _ hy h
  | leaf hx hy k1 k4 h => exact h2 _ hx _ hy k1 k4 h
  | step h => exact h3 _ _ h
  | symm _ ih => exact .symm ih
  | trans _ _ ih1 ih2 => exact .trans ih1 ih2
theorem new_eqv {s : St} {E : List (Tm × Tm)} (h : KInv s E) {b : Nat} (t : Tm) (hb : ¬ b ∈ s.D) {x y : Nat} (k : Eqv s x y) : Eqv (newS s b t) x y := by
  refine eqv_mono (s := s) (s' := newS s b t) (fun x hx => List.mem_cons_of_mem _ hx) (fun x hx y hy e => ?_) (fun x hx y hy k1 k4 e => ?_) (fun x y e => .step e) k
  · exact .same (List.mem_cons_of_mem _ hx) (List.mem_cons_of_mem _ hy) (by rw [(new_old t hb hx).2.1, (new_old t hb hy).2.1, e])
  · refine .leaf (List.mem_cons_of_mem _ hx) (List.mem_cons_of_mem _ hy) ?_ ?_ ?_
    · rw [(new_old t hb hx).2.1, (new_old t hb (h.repD x hx)).1]; exact k1
    · rw [(new_old t hb hx).2.1, (new_old t hb (h.repD x hx)).1]; exact k4
    · rw [(new_old t hb hx).2.1, (new_old t hb (h.repD x hx)).1, (new_old t hb hy).2.1, (new_old t hb (h.repD y hy)).1, e]
theorem filter_new {s : St} {b : Nat} (t : Tm) (hb : ¬ b ∈ s.D) : ((newS s b t).D.filter (bndQ (newS s b t))) = s.D.filter (bndQ s) := by
  show (b :: s.D).filter _ = _
  rw [List.filter_cons_of_neg]
  · refine List.filter_congr fun c hc => ?_
    unfold bndQ
    rw [(new_old t hb hc).1, (new_old t hb hc).2.1]
  · unfold bndQ
    rw [(new_self s b t).2.1]
    simp
theorem KInv.new {s : St} {E : List (Tm × Tm)} (h : KInv s E) {b : Nat} {t : Tm} (hb : ¬ b ∈ s.D) (ht : Ok t) (hv : t.kind = 1 → s.M t.num = none) : KInv (newS s b t) E := by
  have old := fun c (hc : c ∈ s.D) => new_old t hb hc
  obtain ⟨b1, b2, b3⟩ := new_self s b t
  have cases2 : ∀ {c}, c ∈ (newS s b t).D → c = b ∨ c ∈ s.D := fun hc => List.mem_cons.1 hc
  have mem : ∀ {c}, c ∈ s.D → c ∈ (newS s b t).D := fun hc => List.mem_cons_of_mem _ hc
  refine ⟨List.nodup_cons.2 ⟨hb, h.nodup⟩, fun c hc => ?_, fun c hc => ?_, fun c hc => ?_, fun c hc hk => ?_, fun v c hm => ?_, fun c hc x y hp => ?_, fun c hc hr k1 k2 => ?_, fun c hc hr k1 => ?_, fun p hp => ?_, fun f => ?_, ?_⟩
  · rcases cases2 hc with rfl | hc
    · rw [b1]; exact ht
    · rw [(old c hc).1]; exact h.ok c hc
  · rcases cases2 hc with rfl | hc
    · rw [b2]; exact List.mem_cons_self
    · rw [(old c hc).2.1]; exact mem (h.repD c hc)
  · rcases cases2 hc with rfl | hc
    · rw [b2, b2]
    · rw [(old c hc).2.1, (old _ (h.repD c hc)).2.1]; exact h.repR c hc
  · show (if t.kind = 1 ∧ ((newS s b t).tm c).num = t.num then some b else s.M ((newS s b t).tm c).num) = some c
    rcases cases2 hc with rfl | hc
    · rw [b1] at hk ⊢
      exact if_pos ⟨hk, rfl⟩
    · rw [(old c hc).1] at hk ⊢
      have := h.vars c hc hk
      rw [if_neg]
      · exact this
      · rintro ⟨k1, k2⟩
        rw [k2, hv k1] at this
        cases this
  · have hm' : (if t.kind = 1 ∧ v = t.num then some b else s.M v) = some c := hm
    by_cases hc : t.kind = 1 ∧ v = t.num
    · rw [if_pos hc] at hm'
      cases hm'
      refine ⟨List.mem_cons_self, ?_⟩
      rw [b1, var_is ht.2 hc.1, hc.2]
    · rw [if_neg hc] at hm'
      obtain ⟨k1, k2⟩ := h.maps v c hm'
      exact ⟨mem k1, by rw [(old c k1).1]; exact k2⟩
  · rcases cases2 hc with rfl | hc
    · rw [b3] at hp; cases hp
    · rw [(old c hc).2.2] at hp
      obtain ⟨k1, k2, k3⟩ := h.kids c hc x y hp
      exact ⟨mem k1, mem k2, by rw [(old c hc).1, (old x k1).1, (old y k2).1]; exact k3⟩
  · rcases cases2 hc with rfl | hc
    · exact absurd b2 hr
    · have hd := h.repD c hc
      rw [(old c hc).2.1] at hr k2 ⊢
      rw [(old c hc).1] at k1 ⊢
      rw [(old _ hd).1] at k2 ⊢
      exact h.low c hc hr k1 k2
  · rcases cases2 hc with rfl | hc
    · exact absurd b2 hr
    · have hd := h.repD c hc
      rw [(old c hc).2.1] at hr ⊢
      rw [(old c hc).1] at k1
      rw [(old c hc).2.2, (old _ hd).2.2]
      obtain ⟨x, y, z, q, e1, e2, e3, e4⟩ := h.hard c hc hr k1
      exact ⟨x, y, z, q, e1, e2, new_eqv h t hb e3, new_eqv h t hb e4⟩
  · have := h.stepsD p hp
    exact ⟨mem this.1, mem this.2⟩
  · rw [h.snd f]
    refine ⟨fun ⟨k1, k2⟩ => ⟨fun c hc => ?_, fun p hp => ?_⟩, fun ⟨k1, k2⟩ => ⟨fun c hc => ?_, fun p hp => ?_⟩⟩
    · rcases cases2 hc with rfl | hc
      · rw [b2]
      · rw [(old c hc).2.1, (old c hc).1, (old _ (h.repD c hc)).1]; exact k1 c hc
    · have hd := h.stepsD p hp
      rw [(old _ hd.1).1, (old _ hd.2).1]; exact k2 p hp
    · have := k1 c (mem hc)
      rwa [(old c hc).2.1, (old c hc).1, (old _ (h.repD c hc)).1] at this
    · have hd := h.stepsD p hp
      have := k2 p hp
      rwa [(old _ hd.1).1, (old _ hd.2).1] at this
  · rw [filter_new t hb]; exact h.cnt

/-- The parts of a knot laid. -/
def partS (s : St) (b x y : Nat) : St := { s with parts := updN s.parts b (some (x, y)) }
theorem part_eqv {s : St} {b x y : Nat} {u v : Nat} (k : Eqv s u v) : Eqv (partS s b x y) u v :=
  eqv_mono (s := s) (s' := partS s b x y) (fun x hx => hx) (fun x hx y hy e => .same hx hy e) (fun x hx y hy k1 k4 e => .leaf hx hy k1 k4 e) (fun x y e => .step e) k
theorem KInv.part {s : St} {E : List (Tm × Tm)} (h : KInv s E) {b x y : Nat} (hb : b ∈ s.D) (hn : s.parts b = none) (hx : x ∈ s.D) (hy : y ∈ s.D) (he : s.tm b = pairTm (s.tm x) (s.tm y)) : KInv (partS s b x y) E := by
  refine ⟨h.nodup, h.ok, h.repD, h.repR, h.vars, h.maps, fun c hc u v hp => ?_, h.low, fun c hc hr k1 => ?_, h.stepsD, h.snd, h.cnt⟩
  · have hp' : updN s.parts b (some (x, y)) c = some (u, v) := hp
    by_cases e : c = b
    · subst e
      rw [updN_self] at hp'
      cases hp'
      exact ⟨hx, hy, he⟩
    · rw [updN_ne _ _ e] at hp'
      exact h.kids c hc u v hp'
  · obtain ⟨u, v, z, q, e1, e2, e3, e4⟩ := h.hard c hc hr k1
    have n1 : ¬ c = b := fun e => by rw [e, hn] at e1; cases e1
    have n2 : ¬ s.rep c = b := fun e => by rw [e, hn] at e2; cases e2
    exact ⟨u, v, z, q, (updN_ne _ _ n1).trans e1, (updN_ne _ _ n2).trans e2, part_eqv e3, part_eqv e4⟩

/-- An equation of two knots pushed. -/
def pushS (s : St) (x y : Nat) : St := { s with steps := s.steps ++ [(x, y)] }
theorem push_eqv {s : St} {a b x y : Nat} (k : Eqv s x y) : Eqv (pushS s a b) x y :=
  eqv_mono (s := s) (s' := pushS s a b) (fun x hx => hx) (fun x hx y hy e => .same hx hy e) (fun x hx y hy k1 k4 e => .leaf hx hy k1 k4 e) (fun x y e => .step (List.mem_append_left _ e)) k
theorem KInv.push {s : St} {E : List (Tm × Tm)} (h : KInv s E) {x y : Nat} (hx : x ∈ s.D) (hy : y ∈ s.D) : KInv (pushS s x y) (E ++ [(s.tm x, s.tm y)]) := by
  refine ⟨h.nodup, h.ok, h.repD, h.repR, h.vars, h.maps, h.kids, h.low, fun c hc hr k1 => ?_, fun p hp => ?_, fun f => ?_, h.cnt⟩
  · obtain ⟨u, v, z, q, e1, e2, e3, e4⟩ := h.hard c hc hr k1
    exact ⟨u, v, z, q, e1, e2, push_eqv e3, push_eqv e4⟩
  · rcases List.mem_append.1 hp with hp | hp
    · exact h.stepsD p hp
    · cases List.mem_singleton.1 hp
      exact ⟨hx, hy⟩
  · rw [solE_app, h.snd f, sol_one]
    refine ⟨fun ⟨⟨k1, k2⟩, k3⟩ => ⟨k1, fun p hp => ?_⟩, fun ⟨k1, k2⟩ => ⟨⟨k1, fun p hp => k2 p (List.mem_append_left _ hp)⟩, k2 (x, y) (List.mem_append_right _ (by simp))⟩⟩
    rcases List.mem_append.1 hp with hp | hp
    · exact k2 p hp
    · cases List.mem_singleton.1 hp
      exact k3

/-- The last equation is of the roots of its knots, or says nothing. -/
def popS (s : St) (r : List (Nat × Nat)) : St := { s with steps := r }
theorem KInv.skip {s : St} {E : List (Tm × Tm)} (h : KInv s E) {x y : Nat} {r : List (Nat × Nat)} (hs : s.steps = r ++ [(x, y)]) (he : s.rep x = s.rep y ∨ (¬ (s.tm (s.rep x)).kind = 1 ∧ ¬ (s.tm (s.rep x)).kind = 4 ∧ s.tm (s.rep x) = s.tm (s.rep y))) : KInv (popS s r) E := by
  have hx : x ∈ s.D := (h.stepsD (x, y) (by rw [hs]; simp)).1
  have hy : y ∈ s.D := (h.stepsD (x, y) (by rw [hs]; simp)).2
  have hxy : Eqv (popS s r) x y := by
    rcases he with he | ⟨k1, k4, he⟩
    · exact .same hx hy he
    · exact .leaf hx hy k1 k4 he
  have mono : ∀ {u v}, Eqv s u v → Eqv (popS s r) u v := fun k => eqv_mono (s := s) (s' := popS s r) (fun x hx => hx) (fun x hx y hy e => .same hx hy e) (fun x hx y hy k1 k4 e => .leaf hx hy k1 k4 e) (fun u v e => by
    rw [hs] at e
    rcases List.mem_append.1 e with e | e
    · exact .step e
    · cases List.mem_singleton.1 e
      exact hxy) k
  refine ⟨h.nodup, h.ok, h.repD, h.repR, h.vars, h.maps, h.kids, h.low, fun c hc hr k1 => ?_, fun p hp => h.stepsD p (by rw [hs]; exact List.mem_append_left _ hp), fun f => ?_, h.cnt⟩
  · obtain ⟨u, v, z, q, e1, e2, e3, e4⟩ := h.hard c hc hr k1
    exact ⟨u, v, z, q, e1, e2, mono e3, mono e4⟩
  · rw [h.snd f]
    refine ⟨fun ⟨k1, k2⟩ => ⟨k1, fun p hp => k2 p (by rw [hs]; exact List.mem_append_left _ hp)⟩, fun ⟨k1, k2⟩ => ⟨k1, fun p hp => ?_⟩⟩
    rw [hs] at hp
    rcases List.mem_append.1 hp with hp | hp
    · exact k2 p hp
    · cases List.mem_singleton.1 hp
      have e1 : evT f (s.tm x) = evT f (s.tm (s.rep x)) := k1 x hx
      have e2 : evT f (s.tm y) = evT f (s.tm (s.rep y)) := k1 y hy
      show evT f (s.tm x) = evT f (s.tm y)
      rcases he with he | ⟨_, _, he⟩
      · rw [e1, e2, he]
      · rw [e1, e2, he]

/-- A root tied to another one. -/
def linkS (s : St) (r : List (Nat × Nat)) (a b n : Nat) : St := { s with rep := fun x => if s.rep x = a then b else s.rep x, steps := r, bound := n }
theorem link_rep (s : St) (r : List (Nat × Nat)) (a b n x : Nat) : (linkS s r a b n).rep x = if s.rep x = a then b else s.rep x := rfl
theorem KInv.link {s : St} {E : List (Tm × Tm)} (h : KInv s E) {x y a b n : Nat} {r nw : List (Nat × Nat)} (hs : s.steps = r ++ [(x, y)]) (hxy : (a = s.rep x ∧ b = s.rep y) ∨ (a = s.rep y ∧ b = s.rep x)) (hab : a ≠ b)
    (hA : ((s.tm a).kind = 1 ∧ ((s.tm b).kind = 1 → (s.tm b).num < (s.tm a).num) ∧ nw = [] ∧ n = s.bound + 1) ∨
      (∃ u v z q, s.parts a = some (u, v) ∧ s.parts b = some (z, q) ∧ nw = [(v, q), (u, z)] ∧ n = s.bound)) : KInv (linkS s (r ++ nw) a b n) E := by
  have hx : x ∈ s.D := (h.stepsD (x, y) (by rw [hs]; simp)).1
  have hy : y ∈ s.D := (h.stepsD (x, y) (by rw [hs]; simp)).2
  have haD : a ∈ s.D := by
    rcases hxy with ⟨rfl, _⟩ | ⟨rfl, _⟩
    · exact h.repD _ hx
    · exact h.repD _ hy
  have hbD : b ∈ s.D := by
    rcases hxy with ⟨_, rfl⟩ | ⟨_, rfl⟩
    · exact h.repD _ hy
    · exact h.repD _ hx
  have hra : s.rep a = a := by
    rcases hxy with ⟨rfl, _⟩ | ⟨rfl, _⟩
    · exact h.repR _ hx
    · exact h.repR _ hy
  have hrb : s.rep b = b := by
    rcases hxy with ⟨_, rfl⟩ | ⟨_, rfl⟩
    · exact h.repR _ hy
    · exact h.repR _ hx
  have hk4 : ∀ {c u v}, c ∈ s.D → s.parts c = some (u, v) → (s.tm c).kind = 4 := fun hc hp => by rw [(h.kids _ hc _ _ hp).2.2]; rfl
  have hleaf : (s.tm a).kind = 1 ∨ (s.tm a).kind = 4 := by
    rcases hA with ⟨k, _⟩ | ⟨u, v, z, q, e, _⟩
    · exact .inl k
    · exact .inr (hk4 haD e)
  have ra : ∀ {c}, s.rep c = a → (linkS s (r ++ nw) a b n).rep c = b := fun e => if_pos e
  have rn : ∀ {c}, ¬ s.rep c = a → (linkS s (r ++ nw) a b n).rep c = s.rep c := fun e => if_neg e
  have hrepxy : (linkS s (r ++ nw) a b n).rep x = b ∧ (linkS s (r ++ nw) a b n).rep y = b := by
    rcases hxy with ⟨e1, e2⟩ | ⟨e1, e2⟩
    · exact ⟨ra e1.symm, by rw [rn (fun e => hab (by rw [← e, ← e2]))]; exact e2.symm⟩
    · exact ⟨by rw [rn (fun e => hab (by rw [← e, ← e2]))]; exact e2.symm, ra e1.symm⟩
  have mono : ∀ {u v}, Eqv s u v → Eqv (linkS s (r ++ nw) a b n) u v := fun k => eqv_mono (s := s) (s' := linkS s (r ++ nw) a b n) (fun x hx => hx)
    (fun x hx y hy e => .same hx hy (by rw [link_rep, link_rep, e]))
    (fun u hu v hv k1 k4 e => by
      have n1 : ¬ s.rep u = a := fun q => by rw [q] at k1 k4; exact hleaf.elim k1 k4
      have n2 : ¬ s.rep v = a := fun q => by rw [e, q] at k1 k4; exact hleaf.elim k1 k4
      refine .leaf hu hv ?_ ?_ ?_
      · rw [rn n1]; exact k1
      · rw [rn n1]; exact k4
      · rw [rn n1, rn n2]; exact e)
    (fun u v e => by
      rw [hs] at e
      rcases List.mem_append.1 e with e | e
      · exact .step (List.mem_append_left _ e)
      · cases List.mem_singleton.1 e
        exact .same hx hy (hrepxy.1.trans hrepxy.2.symm)) k
  have stp : ∀ {u v}, (u, v) ∈ nw → Eqv (linkS s (r ++ nw) a b n) u v := fun e => .step (List.mem_append_right _ e)
  have hrep2 : ∀ c ∈ s.D, (linkS s (r ++ nw) a b n).rep c ∈ s.D := fun c hc => by
    by_cases e : s.rep c = a
    · rw [ra e]; exact hbD
    · rw [rn e]; exact h.repD c hc
  refine ⟨h.nodup, h.ok, hrep2, fun c hc => ?_, h.vars, h.maps, h.kids, fun c hc hr k1 k2 => ?_, fun c hc hr k1 => ?_, fun p hp => ?_, fun f => ?_, ?_⟩
  · by_cases e : s.rep c = a
    · rw [ra e, rn (fun e' => hab (by rw [← e', hrb]))]; exact hrb
    · rw [rn e, rn (fun e' => e (by rw [← e', h.repR c hc]))]; exact h.repR c hc
  · by_cases e : s.rep c = a
    · rw [ra e] at k2 ⊢
      have k1' : (s.tm c).kind = 1 := k1
      have k2' : (s.tm b).kind = 1 := k2
      show (s.tm b).num < (s.tm c).num
      have hav : (s.tm a).kind = 1 ∧ ((s.tm b).kind = 1 → (s.tm b).num < (s.tm a).num) := by
        rcases hA with ⟨k, k', _⟩ | ⟨u, v, z, q, _, e2, _⟩
        · exact ⟨k, k'⟩
        · rw [hk4 hbD e2] at k2'; cases k2'
      have hba := hav.2 k2'
      by_cases eca : c = a
      · rw [eca]; exact hba
      · have := h.low c hc (by rw [e]; exact fun q => eca q.symm) k1' (by rw [e]; exact hav.1)
        rw [e] at this
        omega
    · rw [rn e] at hr k2 ⊢
      exact h.low c hc hr k1 k2
  · by_cases e : s.rep c = a
    · rw [ra e]
      by_cases eca : c = a
      · subst eca
        rcases hA with ⟨k, _⟩ | ⟨u, v, z, q, e1, e2, e3, _⟩
        · exact absurd k k1
        · exact ⟨u, v, z, q, e1, e2, stp (by rw [e3]; simp), stp (by rw [e3]; simp)⟩
      · obtain ⟨u, v, z, q, e1, e2, e3, e4⟩ := h.hard c hc (by rw [e]; exact fun q => eca q.symm) k1
        rw [e] at e2
        rcases hA with ⟨k, _⟩ | ⟨u2, v2, z2, q2, f1, f2, f3, _⟩
        · rw [hk4 haD e2] at k; cases k
        · rw [f1] at e2
          cases e2
          exact ⟨u, v, z2, q2, e1, f2, .trans (mono e3) (stp (by rw [f3]; simp)), .trans (mono e4) (stp (by rw [f3]; simp))⟩
    · rw [rn e] at hr ⊢
      obtain ⟨u, v, z, q, e1, e2, e3, e4⟩ := h.hard c hc hr k1
      exact ⟨u, v, z, q, e1, e2, mono e3, mono e4⟩
  · rcases List.mem_append.1 hp with hp | hp
    · exact h.stepsD p (by rw [hs]; exact List.mem_append_left _ hp)
    · rcases hA with ⟨_, _, e, _⟩ | ⟨u, v, z, q, e1, e2, e3, _⟩
      · rw [e] at hp; cases hp
      · rw [e3] at hp
        have h1 := h.kids a haD u v e1
        have h2 := h.kids b hbD z q e2
        simp only [List.mem_cons, List.not_mem_nil, or_false] at hp
        rcases hp with rfl | rfl
        · exact ⟨h1.2.1, h2.2.1⟩
        · exact ⟨h1.1, h2.1⟩
  · have hnew : evT f (s.tm a) = evT f (s.tm b) → ∀ p ∈ nw, evT f (s.tm p.1) = evT f (s.tm p.2) := by
      intro hab p hp
      rcases hA with ⟨_, _, e, _⟩ | ⟨u, v, z, q, e1, e2, e3, _⟩
      · rw [e] at hp; cases hp
      · rw [e3] at hp
        rw [(h.kids a haD u v e1).2.2, (h.kids b hbD z q e2).2.2, ev_pairTm] at hab
        simp only [List.mem_cons, List.not_mem_nil, or_false] at hp
        rcases hp with rfl | rfl
        · exact hab.2
        · exact hab.1
    rw [h.snd f]
    constructor
    · rintro ⟨k1, k2⟩
      have exy : evT f (s.tm x) = evT f (s.tm y) := k2 (x, y) (by rw [hs]; simp)
      have eab : evT f (s.tm a) = evT f (s.tm b) := by
        have e1 := k1 x hx
        have e2 := k1 y hy
        rcases hxy with ⟨rfl, rfl⟩ | ⟨rfl, rfl⟩
        · rw [← e1, ← e2, exy]
        · rw [← e1, ← e2, exy]
      refine ⟨fun c hc => ?_, fun p hp => ?_⟩
      · show evT f (s.tm c) = evT f (s.tm _)
        by_cases e : s.rep c = a
        · rw [ra e, k1 c hc, e, eab]
        · rw [rn e]; exact k1 c hc
      · rcases List.mem_append.1 hp with hp | hp
        · exact k2 p (by rw [hs]; exact List.mem_append_left _ hp)
        · exact hnew eab p hp
    · rintro ⟨k1, k2⟩
      have k1' : ∀ c ∈ s.D, evT f (s.tm c) = evT f (s.tm ((linkS s (r ++ nw) a b n).rep c)) := k1
      have eab : evT f (s.tm a) = evT f (s.tm b) := by have := k1' a haD; rwa [ra hra] at this
      refine ⟨fun c hc => ?_, fun p hp => ?_⟩
      · have := k1' c hc
        by_cases e : s.rep c = a
        · rw [ra e] at this; rw [this, e, eab]
        · rwa [rn e] at this
      · rw [hs] at hp
        rcases List.mem_append.1 hp with hp | hp
        · exact k2 p (List.mem_append_left _ hp)
        · cases List.mem_singleton.1 hp
          show evT f (s.tm x) = evT f (s.tm y)
          rw [k1' x hx, k1' y hy, hrepxy.1, hrepxy.2]
  · show n = (s.D.filter (bndQ (linkS s (r ++ nw) a b n))).length
    have hq : ∀ c ∈ s.D, ¬ c = a → bndQ (linkS s (r ++ nw) a b n) c = bndQ s c := by
      intro c hc hca
      have iff : ((linkS s (r ++ nw) a b n).rep c ≠ c) ↔ (s.rep c ≠ c) := by
        by_cases e : s.rep c = a
        · rw [ra e, e]
          exact ⟨fun _ q => hca q.symm, fun _ q => by subst q; exact hab (by rw [← e, hrb])⟩
        · rw [rn e]
      unfold bndQ
      exact decide_eq_decide.2 (and_congr_right fun _ => iff)
    have ha0 : bndQ s a = false := by unfold bndQ; rw [hra]; simp
    have key : ∀ l : List Nat, l.Nodup → (∀ c ∈ l, c ∈ s.D) → (l.filter (bndQ (linkS s (r ++ nw) a b n))).length = (l.filter (bndQ s)).length + (if a ∈ l ∧ bndQ (linkS s (r ++ nw) a b n) a = true then 1 else 0) := by
      intro l
      induction l with
      | nil => intro _ _; simp
      | cons c l ih =>
        intro hn hl
        obtain ⟨n1, n2⟩ := List.nodup_cons.1 hn
        have := ih n2 fun d hd => hl d (List.mem_cons_of_mem _ hd)
        by_cases e : c = a
        · subst e
          rw [List.filter_cons, List.filter_cons, ha0]
          cases hb : bndQ (linkS s (r ++ nw) c b n) c with
          | true =>
            rw [if_neg (fun q => n1 q.1)] at this
            rw [if_pos rfl, if_neg (by decide), if_pos ⟨by simp, rfl⟩, List.length_cons, this]
          | false =>
            rw [if_neg (fun q => n1 q.1)] at this
            rw [if_neg (by decide), if_neg (by decide), if_neg (fun q => by cases q.2), this]
        · have hca : (a ∈ c :: l) ↔ a ∈ l := ⟨fun q => (List.mem_cons.1 q).elim (fun q => absurd q.symm e) id, fun q => List.mem_cons_of_mem _ q⟩
          rw [List.filter_cons, List.filter_cons, hq c (hl c (by simp)) e]
          simp only [hca]
          cases bndQ s c with
          | true => simp only [if_true, List.length_cons, this]; omega
          | false => simpa using this
    rw [key s.D h.nodup fun c hc => hc, ← h.cnt]
    have hbq : bndQ (linkS s (r ++ nw) a b n) a = decide ((s.tm a).kind = 1) := by
      show decide ((s.tm a).kind = 1 ∧ (linkS s (r ++ nw) a b n).rep a ≠ a) = _
      rw [ra hra]
      simp [Ne.symm hab]
    rcases hA with ⟨k, _, _, e⟩ | ⟨u, v, z, q, e1, _, _, e⟩
    · rw [hbq, e, if_pos ⟨haD, by simp [k]⟩]
    · rw [hbq, e, if_neg (fun hh => by have := hh.2; rw [hk4 haD e1] at this; simp at this)]
      rfl
end Go.Proofs.YtealiilcnmdmdaaGreat

