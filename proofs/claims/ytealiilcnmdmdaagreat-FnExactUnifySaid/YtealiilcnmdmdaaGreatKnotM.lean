/-
  The program's solver, plain: how much is still to be done, how many knots there are; what a knot more, or its parts, leave as it was.
-/
import Derived.Test.YtealiilcnmdmdaaGreatKnotEnd
namespace Go.Proofs.YtealiilcnmdmdaaGreat
open Go.RowKit
set_option linter.unusedVariables false
set_option linter.unusedSimpArgs false

def sumD (s : St) (f : Nat → Nat) : Nat := (s.D.map f).sum
/-- What a knot is worth: its places where it has no parts yet; else itself, unless it is tied. -/
def crdB (s : St) (b : Nat) : Nat := if s.parts b = none then (s.tm b).nodes else 1
def crdA (s : St) (b : Nat) : Nat := if s.parts b = none then (s.tm b).nodes else if s.rep b = b then 1 else 0
def credA (s : St) : Nat := sumD s (crdA s)
def credB (s : St) : Nat := sumD s (crdB s)
theorem sum_congr {l : List Nat} {f g : Nat → Nat} (h : ∀ x ∈ l, f x = g x) : (l.map f).sum = (l.map g).sum := by rw [List.map_congr_left h]
theorem sum_at : ∀ {l : List Nat} {f g : Nat → Nat} {b : Nat}, l.Nodup → b ∈ l → (∀ x ∈ l, ¬ x = b → f x = g x) → (l.map f).sum + g b = (l.map g).sum + f b
  | [], _, _, _, _, hb, _ => by cases hb
  | c :: l, f, g, b, hn, hb, h => by
    obtain ⟨h1, h2⟩ := List.nodup_cons.1 hn
    simp only [List.map_cons, List.sum_cons]
    by_cases e : c = b
    · subst e
      have : (l.map f).sum = (l.map g).sum := sum_congr fun x hx => h x (List.mem_cons_of_mem _ hx) fun q => h1 (q ▸ hx)
      omega
    · have hb' : b ∈ l := (List.mem_cons.1 hb).elim (fun q => absurd q.symm e) id
      have := sum_at h2 hb' fun x hx => h x (List.mem_cons_of_mem _ hx)
      have := h c (by simp) e
      omega
theorem len_sum : ∀ {l : List Nat} {f : Nat → Nat}, (∀ x ∈ l, 1 ≤ f x) → l.length ≤ (l.map f).sum
  | [], _, _ => Nat.zero_le _
  | c :: l, f, h => by
    have := len_sum (l := l) fun x hx => h x (List.mem_cons_of_mem _ hx)
    have := h c (by simp)
    simp only [List.map_cons, List.sum_cons, List.length_cons]
    omega
theorem len_credB (s : St) : s.D.length ≤ credB s := len_sum fun b _ => by
  unfold crdB
  split
  · exact nodes_pos _
  · exact Nat.le_refl _
theorem sum_le : ∀ {l : List Nat} {f g : Nat → Nat}, (∀ x ∈ l, f x ≤ g x) → (l.map f).sum ≤ (l.map g).sum
  | [], _, _, _ => Nat.le_refl _
  | c :: l, f, g, h => by
    have := sum_le (l := l) fun x hx => h x (List.mem_cons_of_mem _ hx)
    have := h c (by simp)
    simp only [List.map_cons, List.sum_cons]
    omega
theorem cred_le (s : St) : credA s ≤ credB s := sum_le fun b _ => by
  unfold crdA crdB
  split
  · exact Nat.le_refl _
  · split <;> omega
theorem new_cred {s : St} {b : Nat} (t : Tm) (hb : ¬ b ∈ s.D) : credA (newS s b t) = credA s + t.nodes ∧ credB (newS s b t) = credB s + t.nodes := by
  obtain ⟨b1, b2, b3⟩ := new_self s b t
  constructor
  · show ((b :: s.D).map (crdA (newS s b t))).sum = _
    rw [List.map_cons, List.sum_cons, sum_congr (g := crdA s) fun x hx => by unfold crdA; rw [(new_old t hb hx).1, (new_old t hb hx).2.1, (new_old t hb hx).2.2]]
    have : crdA (newS s b t) b = t.nodes := by unfold crdA; rw [if_pos b3, b1]
    rw [this]
    exact Nat.add_comm _ _
  · show ((b :: s.D).map (crdB (newS s b t))).sum = _
    rw [List.map_cons, List.sum_cons, sum_congr (g := crdB s) fun x hx => by unfold crdB; rw [(new_old t hb hx).1, (new_old t hb hx).2.2]]
    have : crdB (newS s b t) b = t.nodes := by unfold crdB; rw [if_pos b3, b1]
    rw [this]
    exact Nat.add_comm _ _
theorem part_cred {s : St} {b x y : Nat} (hn : s.D.Nodup) (hb : b ∈ s.D) (h0 : s.parts b = none) : credA (partS s b x y) + (s.tm b).nodes ≤ credA s + 1 ∧ credB (partS s b x y) + (s.tm b).nodes = credB s + 1 := by
  have hne : ∀ c, ¬ c = b → (partS s b x y).parts c = s.parts c := fun c e => updN_ne _ _ e
  have heq : (partS s b x y).parts b = some (x, y) := updN_self _ _ _
  constructor
  · have := sum_at (f := crdA (partS s b x y)) (g := crdA s) hn hb fun c _ e => by unfold crdA; rw [hne c e]; rfl
    have h1 : crdA (partS s b x y) b ≤ 1 := by unfold crdA; rw [heq, if_neg (by simp)]; split <;> omega
    have h2 : crdA s b = (s.tm b).nodes := by unfold crdA; rw [if_pos h0]
    unfold credA sumD
    show (s.D.map (crdA (partS s b x y))).sum + _ ≤ _
    omega
  · have := sum_at (f := crdB (partS s b x y)) (g := crdB s) hn hb fun c _ e => by unfold crdB; rw [hne c e]; rfl
    have h1 : crdB (partS s b x y) b = 1 := by unfold crdB; rw [heq, if_neg (by simp)]
    have h2 : crdB s b = (s.tm b).nodes := by unfold crdB; rw [if_pos h0]
    unfold credB sumD
    show (s.D.map (crdB (partS s b x y))).sum + _ = _
    omega
theorem link_cred {s : St} {E : List (Tm × Tm)} (h : KInv s E) {r : List (Nat × Nat)} {a b n : Nat} (ha : a ∈ s.D) (hra : s.rep a = a) (hrb : s.rep b = b) (hab : a ≠ b) :
    credB (linkS s r a b n) = credB s ∧ credA (linkS s r a b n) ≤ credA s ∧ (s.parts a ≠ none → credA (linkS s r a b n) + 1 ≤ credA s) := by
  have hrep : ∀ c, ¬ c = a → ((linkS s r a b n).rep c = c ↔ s.rep c = c) := by
    intro c hc
    rw [link_rep]
    by_cases e : s.rep c = a
    · rw [if_pos e, e]
      exact ⟨fun q => by subst q; exact absurd (hrb.symm.trans e) (fun q => hab q.symm), fun q => absurd q.symm hc⟩
    · rw [if_neg e]
  have heq : ∀ c, ¬ c = a → crdA (linkS s r a b n) c = crdA s c := fun c hc => by
    unfold crdA
    show (if s.parts c = none then (s.tm c).nodes else if (linkS s r a b n).rep c = c then 1 else 0) = _
    simp only [hrep c hc]
  refine ⟨rfl, ?_, fun hp => ?_⟩
  · refine sum_le fun c hc => ?_
    by_cases e : c = a
    · subst e
      unfold crdA
      show (if s.parts c = none then (s.tm c).nodes else if (linkS s r c b n).rep c = c then 1 else 0) ≤ _
      split
      · exact Nat.le_refl _
      · split <;> omega
    · exact Nat.le_of_eq (heq c e)
  · have := sum_at (f := crdA (linkS s r a b n)) (g := crdA s) h.nodup ha fun c _ e => heq c e
    have h1 : crdA (linkS s r a b n) a = 0 := by
      unfold crdA
      show (if s.parts a = none then (s.tm a).nodes else if (linkS s r a b n).rep a = a then 1 else 0) = 0
      rw [if_neg hp, link_rep, if_pos hra, if_neg (Ne.symm hab)]
    have h2 : crdA s a = 1 := by unfold crdA; rw [if_neg hp, if_pos hra]
    unfold credA sumD
    show (s.D.map (crdA (linkS s r a b n))).sum + 1 ≤ _
    omega
/-- The rounds that are still to come at most. -/
def muS (s : St) : Nat := 3 * credA s + s.steps.length

/-- Some knots more, of k places in all; what was there is as it was. -/
structure Ext (k : Nat) (s s' : St) : Prop where
  D : ∀ c ∈ s.D, c ∈ s'.D
  tm : ∀ c ∈ s.D, s'.tm c = s.tm c
  rep : ∀ c ∈ s.D, s'.rep c = s.rep c
  parts : ∀ c ∈ s.D, s.parts c ≠ none → s'.parts c = s.parts c
  steps : s'.steps = s.steps
  bound : s'.bound = s.bound
  credA : credA s' ≤ credA s + k
  credB : credB s' ≤ credB s + k
  inv : ∀ E, KInv s E → KInv s' E
theorem Ext.refl (k : Nat) (s : St) : Ext k s s := ⟨fun _ h => h, fun _ _ => rfl, fun _ _ => rfl, fun _ _ _ => rfl, rfl, rfl, Nat.le_add_right _ _, Nat.le_add_right _ _, fun _ h => h⟩
theorem Ext.trans {i j : Nat} {s t u : St} (h : Ext i s t) (k : Ext j t u) : Ext (i + j) s u :=
  ⟨fun c hc => k.D c (h.D c hc), fun c hc => (k.tm c (h.D c hc)).trans (h.tm c hc), fun c hc => (k.rep c (h.D c hc)).trans (h.rep c hc),
    fun c hc hp => by have h1 := h.parts c hc hp; exact (k.parts c (h.D c hc) (by rw [h1]; exact hp)).trans h1, k.steps.trans h.steps, k.bound.trans h.bound,
    by have := h.credA; have := k.credA; omega, by have := h.credB; have := k.credB; omega, fun E hE => k.inv E (h.inv E hE)⟩
/-- What knotOf makes. -/
def KnS (s : St) (t : Tm) (b : Nat) (s' : St) : Prop := (s' = s ∧ b ∈ s.D ∧ s.tm b = t) ∨ (s' = newS s b t ∧ ¬ b ∈ s.D ∧ (t.kind = 1 → s.M t.num = none))
theorem KnS.ext {s s' : St} {t : Tm} {b : Nat} (h : KnS s t b s') (ht : Ok t) : Ext t.nodes s s' ∧ b ∈ s'.D ∧ s'.tm b = t := by
  rcases h with ⟨rfl, h1, h2⟩ | ⟨rfl, h1, h2⟩
  · exact ⟨Ext.refl _ _, h1, h2⟩
  · have := new_cred t h1
    refine ⟨⟨fun c hc => List.mem_cons_of_mem _ hc, fun c hc => (new_old t h1 hc).1, fun c hc => (new_old t h1 hc).2.1, fun c hc _ => (new_old t h1 hc).2.2, rfl, rfl, Nat.le_of_eq this.1, Nat.le_of_eq this.2, fun E hE => hE.new h1 ht h2⟩, List.mem_cons_self, (new_self s b t).1⟩
/-- What partsOf makes of a root that is a pair. -/
theorem parts_ext {s s1 s2 : St} {E : List (Tm × Tm)} (hI : KInv s E) {b x y : Nat} {u v : Tm} (hb : b ∈ s.D) (h0 : s.parts b = none) (ht : s.tm b = pairTm u v) (h1 : KnS s u x s1) (h2 : KnS s1 v y s2) :
    Ext 0 s (partS s2 b x y) ∧ (partS s2 b x y).parts b = some (x, y) := by
  have hok := hI.ok b hb
  rw [ht] at hok
  have h2k := ok_two hok
  obtain ⟨e1, x1, x2⟩ := h1.ext h2k.1
  obtain ⟨e2, y1, y2⟩ := h2.ext h2k.2
  have e := e1.trans e2
  have hp2 : s2.parts b = none := by
    have p1 : s1.parts b = none := by
      rcases h1 with ⟨rfl, _⟩ | ⟨rfl, n1, _⟩
      · exact h0
      · rw [(new_old u n1 hb).2.2]; exact h0
    rcases h2 with ⟨rfl, _⟩ | ⟨rfl, n1, _⟩
    · exact p1
    · rw [(new_old v n1 (e1.D b hb)).2.2]; exact p1
  have hb2 := e.D b hb
  have hc := part_cred (x := x) (y := y) (e.inv E hI).nodup hb2 hp2
  have htb : s2.tm b = pairTm u v := (e.tm b hb).trans ht
  rw [htb, pairTm_nodes] at hc
  have hq : s2.tm b = pairTm (s2.tm x) (s2.tm y) := by rw [htb, y2, e2.tm x x1, x2]
  refine ⟨⟨e.D, e.tm, e.rep, fun c hc hp => ?_, e.steps, e.bound, ?_, ?_, fun E' hE => (e.inv E' hE).part hb2 hp2 (e2.D x x1) y1 hq⟩, updN_self _ _ _⟩
  · have hcb : ¬ c = b := fun q => hp (q ▸ h0)
    exact (updN_ne _ _ hcb).trans (e.parts c hc hp)
  · have := e.credA; omega
  · have := e.credB; omega
end Go.Proofs.YtealiilcnmdmdaaGreat

