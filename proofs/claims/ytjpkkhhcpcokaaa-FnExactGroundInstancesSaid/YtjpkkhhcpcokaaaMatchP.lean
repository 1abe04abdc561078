/-
  Matching, plain: what values a term is matched with; at most one list of them.
-/
import Derived.Test.YtjpkkhhcpcokaaaUnifT
namespace Go.Proofs.Ytjpkkhhcpcokaaa
open Go.RowKit
set_option linter.unusedVariables false
set_option linter.unusedSimpArgs false

/-- A valuation that has all that a map of values says. -/
def ExtG (h : Int → Tm) (g : Int → Option Tm) : Prop := ∀ v x, g v = some x → h v = x
def updO (g : Int → Option Tm) (v : Int) (t : Tm) : Int → Option Tm := fun x => if x = v then some t else g x
theorem updO_self (g : Int → Option Tm) (v : Int) (t : Tm) : updO g v t v = some t := if_pos rfl
theorem updO_ne (g : Int → Option Tm) {v x : Int} (t : Tm) (h : ¬ x = v) : updO g v t x = g x := if_neg h
theorem ext_upd {h : Int → Tm} {g : Int → Option Tm} {v : Int} {t : Tm} (hg : g v = none) : ExtG h (updO g v t) ↔ ExtG h g ∧ h v = t := by
  constructor
  · intro he
    refine ⟨fun x y hy => he x y ?_, he v t (updO_self g v t)⟩
    rw [updO_ne g t (fun e => by rw [e, hg] at hy; cases hy)]
    exact hy
  · intro ⟨h1, h2⟩ x y hy
    by_cases e : x = v
    · rw [e, updO_self] at hy; cases hy; rw [e]; exact h2
    · rw [updO_ne g t e] at hy; exact h1 x y hy
/-- Matched, from the values g to the values g'; not matched. -/
def MatY (g : Int → Option Tm) (p t : Tm) (g' : Int → Option Tm) : Prop := (∀ h, ExtG h g' ↔ ExtG h g ∧ evT h p = t) ∧ ∀ v, g' v ≠ none ↔ g v ≠ none ∨ v ∈ p.vl
def MatN (g : Int → Option Tm) (p t : Tm) : Prop := ∀ h, ExtG h g → ¬ evT h p = t
def MatYs (g : Int → Option Tm) (p t : List Tm) (g' : Int → Option Tm) : Prop := (∀ h, ExtG h g' ↔ ExtG h g ∧ evL h p = t) ∧ ∀ v, g' v ≠ none ↔ g v ≠ none ∨ v ∈ vlL p
def MatNs (g : Int → Option Tm) (p t : List Tm) : Prop := ∀ h, ExtG h g → ¬ evL h p = t
theorem mat_free {g : Int → Option Tm} {p t : Tm} (hp : Good p) (hk : p.kind = 1) (hg : g p.num = none) : MatY g p t (updO g p.num t) := by
  have e := var_is hp hk
  refine ⟨fun h => ?_, fun v => ?_⟩
  · rw [ext_upd hg, e, ev_varTm]; rfl
  · rw [vl_of_var hk, List.mem_singleton]
    by_cases hv : v = p.num
    · rw [hv, updO_self]; simp
    · rw [updO_ne g t hv]; simp [hv]
theorem mat_same {g : Int → Option Tm} {p t : Tm} (hp : Good p) (hk : p.kind = 1) (hg : g p.num = some t) : MatY g p t g := by
  have e := var_is hp hk
  refine ⟨fun h => ⟨fun he => ⟨he, by rw [e, ev_varTm]; exact he _ _ hg⟩, fun he => he.1⟩, fun v => ?_⟩
  rw [vl_of_var hk, List.mem_singleton]
  refine ⟨.inl, fun h => h.elim id fun hv => ?_⟩
  rw [hv, hg]; simp
theorem mat_other {g : Int → Option Tm} {p t x : Tm} (hp : Good p) (hk : p.kind = 1) (hg : g p.num = some x) (hx : ¬ x = t) : MatN g p t := by
  have e := var_is hp hk
  intro h he hh
  rw [e, ev_varTm] at hh
  exact hx ((he _ _ hg).symm.trans hh)
theorem mats_nil (g : Int → Option Tm) : MatYs g [] [] g := ⟨fun h => by simp [evL], fun v => by simp [vlL]⟩
theorem evL_append (h : Int → Tm) : ∀ l m : List Tm, evL h (l ++ m) = evL h l ++ evL h m
  | [], m => rfl
  | t :: l, m => by rw [List.cons_append, evL, evL, evL_append h l m]; rfl
theorem evL_length (h : Int → Tm) : ∀ l : List Tm, (evL h l).length = l.length
  | [] => rfl
  | t :: l => by rw [evL, List.length_cons, List.length_cons, evL_length h l]
theorem mats_snoc {g g1 g2 : Int → Option Tm} {p t : List Tm} {x y : Tm} (h1 : MatYs g p t g1) (h2 : MatY g1 x y g2) (hl : p.length = t.length) : MatYs g (p ++ [x]) (t ++ [y]) g2 := by
  refine ⟨fun h => ?_, fun v => ?_⟩
  · rw [h2.1, h1.1, evL_append]
    constructor
    · intro ⟨⟨a, b⟩, c⟩
      exact ⟨a, by rw [b]; simp [evL, c]⟩
    · intro ⟨a, b⟩
      have := List.append_inj b (by rw [evL_length]; exact hl)
      exact ⟨⟨a, this.1⟩, by have h := this.2; simp only [evL, List.cons.injEq, and_true] at h; exact h⟩
  · rw [h2.2, h1.2, vlL_append, List.mem_append]
    simp only [vlL, List.append_nil]
    exact or_assoc
theorem nats_snoc {g g1 : Int → Option Tm} {p t pr tr : List Tm} {x y : Tm} (h1 : MatYs g p t g1) (h2 : MatN g1 x y) (hl : p.length = t.length) : MatNs g (p ++ x :: pr) (t ++ y :: tr) := by
  intro h he hh
  rw [evL_append] at hh
  have := List.append_inj hh (by rw [evL_length]; exact hl)
  rw [evL] at this
  simp only [List.cons.injEq] at this
  exact h2 h ((h1.1 h).2 ⟨he, this.1⟩) this.2.1
theorem ev_node {h : Int → Tm} {p t : Tm} (hk : ¬ p.kind = 1) : evT h p = t ↔ (p.kind = t.kind ∧ p.num = t.num ∧ p.name = t.name) ∧ evL h p.args = t.args := by
  obtain ⟨k, i, s, l⟩ := p
  obtain ⟨k', i', s', l'⟩ := t
  have hk' : ¬ k = 1 := hk
  rw [evT, if_neg hk', Tm.mk.injEq]
  show (k = k' ∧ i = i' ∧ s = s' ∧ evL h l = l') ↔ (k = k' ∧ i = i' ∧ s = s') ∧ evL h l = l'
  exact ⟨fun ⟨a, b, c, d⟩ => ⟨⟨a, b, c⟩, d⟩, fun ⟨⟨a, b, c⟩, d⟩ => ⟨a, b, c, d⟩⟩
theorem vl_node {p : Tm} (hk : ¬ p.kind = 1) : p.vl = vlL p.args := by rw [vl_eq, if_neg hk]
theorem mat_node {g g' : Int → Option Tm} {p t : Tm} (hk : ¬ p.kind = 1) (hf : p.kind = t.kind ∧ p.num = t.num ∧ p.name = t.name) (h : MatYs g p.args t.args g') : MatY g p t g' :=
  ⟨fun f => by rw [h.1, ev_node hk]; exact ⟨fun ⟨a, b⟩ => ⟨a, hf, b⟩, fun ⟨a, _, b⟩ => ⟨a, b⟩⟩, fun v => by rw [h.2, vl_node hk]⟩
theorem nat_node {g : Int → Option Tm} {p t : Tm} (hk : ¬ p.kind = 1) (hf : ¬ (p.kind = t.kind ∧ p.num = t.num ∧ p.name = t.name)) : MatN g p t := fun f he h => hf ((ev_node hk).1 h).1
theorem nat_args {g : Int → Option Tm} {p t : Tm} (hk : ¬ p.kind = 1) (h : MatNs g p.args t.args) : MatN g p t := fun f he hh => h f he ((ev_node hk).1 hh).2
/-- Two pairs. -/
theorem mat_two {g g1 g2 : Int → Option Tm} {p t a b c d : Tm} (hp : ¬ p.kind = 1) (hf : p.kind = t.kind ∧ p.num = t.num ∧ p.name = t.name) (ep : p.args = [a, b]) (et : t.args = [c, d]) (h1 : MatY g a c g1) (h2 : MatY g1 b d g2) : MatY g p t g2 := by
  refine mat_node hp hf ?_
  rw [ep, et]
  exact mats_snoc (p := [a]) (t := [c]) (mats_snoc (p := []) (t := []) (mats_nil g) h1 rfl) h2 rfl
theorem nat_one {g : Int → Option Tm} {p t a b c d : Tm} (hp : ¬ p.kind = 1) (ep : p.args = [a, b]) (et : t.args = [c, d]) (h1 : MatN g a c) : MatN g p t := by
  refine nat_args hp ?_
  rw [ep, et]
  exact nats_snoc (p := []) (t := []) (mats_nil g) h1 rfl
theorem nat_two {g g1 : Int → Option Tm} {p t a b c d : Tm} (hp : ¬ p.kind = 1) (ep : p.args = [a, b]) (et : t.args = [c, d]) (h1 : MatY g a c g1) (h2 : MatN g1 b d) : MatN g p t := by
  refine nat_args hp ?_
  rw [ep, et]
  exact nats_snoc (p := [a]) (t := [c]) (mats_snoc (p := []) (t := []) (mats_nil g) h1 rfl) h2 rfl
theorem mat_leaf {g : Int → Option Tm} {p : Tm} (hp : Good p) (h1 : ¬ p.kind = 1) (h4 : ¬ p.kind = 4) : MatY g p p g := by
  refine mat_node h1 ⟨rfl, rfl, rfl⟩ ?_
  have e : p.args = [] := by
    rcases good_args_cases hp with ⟨hk, _⟩ | ⟨_, hl⟩
    · exact absurd hk h4
    · exact hl
  rw [e]
  exact mats_nil g
theorem nat_leaf {g : Int → Option Tm} {p t : Tm} (hp : Good p) (h1 : ¬ p.kind = 1) (h : ¬ (p.kind = 4 ∧ t.kind = 4)) (hne : ¬ p = t) : MatN g p t := by
  intro f he hh
  by_cases h4 : p.kind = 4
  · have := ((ev_node h1).1 hh).1.1
    exact h ⟨h4, by omega⟩
  · have e : p.args = [] := by
      rcases good_args_cases hp with ⟨hk, _⟩ | ⟨_, hl⟩
      · exact absurd hk h4
      · exact hl
    obtain ⟨⟨a, b, c⟩, d⟩ := (ev_node h1).1 hh
    refine hne ?_
    rw [← Tm.eta p, ← Tm.eta t, a, b, c, ← d, e]; rfl

/-- The values with which a term is matched. -/
structure MatL (p t : Tm) (l : List Bd) : Prop where
  asc : l.Pairwise (fun a b => a.v < b.v)
  ok : ∀ b ∈ l, (0 ≤ b.v ∧ b.v ≤ 100000) ∧ Ok b.t
  dom : ∀ v, getO l v ≠ none ↔ v ∈ p.vl
  put : putT l p = t
theorem ev_inj {f g : Int → Tm} {p : Tm} (h : Good p) : evT f p = evT g p → ∀ v ∈ p.vl, f v = g v := by
  induction h with
  | nil => intro _ v hv; simp [Tm.vl, vlL] at hv
  | var i h0 h1 =>
    intro e v hv
    rw [ev_var, ev_var] at e
    have hvi : v = i := (by simpa [Tm.vl] using hv)
    rw [hvi]; exact e
  | sym s h => intro _ v hv; simp [Tm.vl, vlL] at hv
  | int i h0 h1 => intro _ v hv; simp [Tm.vl, vlL] at hv
  | pair a b ha hb iha ihb =>
    intro e v hv
    rw [ev_pair, ev_pair] at e
    simp only [Tm.mk.injEq, List.cons.injEq, and_true, true_and] at e
    rw [vl_pair, List.mem_append] at hv
    exact hv.elim (iha e.1 v) (ihb e.2 v)
theorem matL_one {p t : Tm} (hp : Good p) {l m : List Bd} (h1 : MatL p t l) (h2 : MatL p t m) : l = m := by
  refine bd_ext h1.asc h2.asc fun v => ?_
  by_cases hv : v ∈ p.vl
  · have e := (put_ev (s := l) hp).symm.trans (h1.put.trans (h2.put.symm.trans (put_ev (s := m) hp)))
    have e2 := ev_inj hp e v hv
    cases hl : getO l v with
    | none => exact absurd hl ((h1.dom v).2 hv)
    | some x =>
      cases hm : getO m v with
      | none => exact absurd hm ((h2.dom v).2 hv)
      | some y => rw [sgm_bound hl, sgm_bound hm] at e2; rw [e2]
  · have a : getO l v = none := Classical.byContradiction fun h => hv ((h1.dom v).1 h)
    have b : getO m v = none := Classical.byContradiction fun h => hv ((h2.dom v).1 h)
    rw [a, b]
def OkG (g : Int → Option Tm) : Prop := ∀ v x, g v = some x → Ok x
theorem okG_none : OkG (fun _ => none) := fun v x h => by cases h
theorem OkG.upd {g : Int → Option Tm} {v : Int} {t : Tm} (h : OkG g) (ht : Ok t) : OkG (updO g v t) := fun x y hy => by
  by_cases e : x = v
  · rw [e, updO_self] at hy; cases hy; exact ht
  · rw [updO_ne g t e] at hy; exact h x y hy
theorem good_vrange {p : Tm} (h : Good p) : ∀ v ∈ p.vl, 0 ≤ v ∧ v ≤ 100000 := by
  induction h with
  | nil => intro v hv; simp [Tm.vl, vlL] at hv
  | var i h0 h1 =>
    intro v hv
    have hvi : v = i := (by simpa [Tm.vl] using hv)
    omega
  | sym s h => intro v hv; simp [Tm.vl, vlL] at hv
  | int i h0 h1 => intro v hv; simp [Tm.vl, vlL] at hv
  | pair a b ha hb iha ihb => intro v hv; rw [vl_pair, List.mem_append] at hv; exact hv.elim (iha v) (ihb v)
theorem mat_list {p t : Tm} (hp : Good p) {g : Int → Option Tm} (h : MatY (fun _ => none) p t g) (hg : OkG g) {l : List Bd} (ha : l.Pairwise (fun a b => a.v < b.v)) (hl : ∀ v, getO l v = g v) : MatL p t l := by
  have dom : ∀ v, getO l v ≠ none ↔ v ∈ p.vl := fun v => by rw [hl, h.2 v]; simp
  refine ⟨ha, fun b hb => ?_, dom, ?_⟩
  · have e : getO l b.v = some b.t := get_asc ha b hb
    exact ⟨good_vrange hp b.v ((dom b.v).1 (by rw [e]; simp)), hg b.v b.t (by rw [← hl]; exact e)⟩
  · rw [put_ev hp]
    exact ((h.1 (sgm l)).1 fun v x hx => sgm_bound (by rw [hl]; exact hx)).2
theorem nat_list {p t : Tm} (hp : Good p) (h : MatN (fun _ => none) p t) {l : List Bd} (hl : MatL p t l) : False := h (sgm l) (fun v x hx => by cases hx) (by rw [← put_ev hp]; exact hl.put)
def MtP (p t : Tm) (l : List Bd) : Prop := Ok p ∧ Ok t ∧ MatL p t l ∧ l.length ≤ 400
open Classical in
/-- Whether there are such values; the values. -/
noncomputable def mtB (p t : Tm) : Bool := decide (∃ l, MtP p t l)
open Classical in
noncomputable def mtL (p t : Tm) : List Bd := if h : ∃ l, MtP p t l then Classical.choose h else []
open Classical in
theorem mt_yes {p t : Tm} {l : List Bd} (h : MtP p t l) : mtL p t = l ∧ mtB p t = true := by
  have hx : ∃ l, MtP p t l := ⟨l, h⟩
  exact ⟨by rw [mtL, dif_pos hx]; exact matL_one h.1.2 (Classical.choose_spec hx).2.2.1 h.2.2.1, by unfold mtB; exact decide_eq_true hx⟩
open Classical in
theorem mt_no {p t : Tm} (h : ∀ l, ¬ MtP p t l) : mtL p t = [] ∧ mtB p t = false := by
  have hx : ¬ ∃ l, MtP p t l := fun ⟨l, hl⟩ => h l hl
  exact ⟨by rw [mtL, dif_neg hx], by unfold mtB; exact decide_eq_false hx⟩
open Classical in
theorem mt_true {p t : Tm} (h : mtB p t = true) : MtP p t (mtL p t) := by
  unfold mtB at h
  have hx := of_decide_eq_true h
  rw [mtL, dif_pos hx]
  exact Classical.choose_spec hx
theorem mt_or (p t : Tm) : mtL p t = [] ∨ MtP p t (mtL p t) := by
  cases h : mtB p t with
  | true => exact .inr (mt_true h)
  | false =>
    refine .inl (mt_no fun l hl => ?_).1
    rw [(mt_yes hl).2] at h; cases h
theorem mt_long {p t : Tm} {l : List Bd} (hp : Good p) (h : MatL p t l) (hl : ¬ l.length ≤ 400) : ∀ m, ¬ MtP p t m := fun m hm => hl (by rw [matL_one hp h hm.2.2.1]; exact hm.2.2.2)
end Go.Proofs.Ytjpkkhhcpcokaaa

namespace Go.Proofs.Ytjpkkhhcpcokaaa
open Go.RowKit
set_option linter.unusedVariables false
set_option linter.unusedSimpArgs false

open Classical in
/-- Whether terms are matched, given what has come. -/
noncomputable def matB (g : Int → Option Tm) (p t : Tm) : Bool := decide (∃ g', MatY g p t g')
open Classical in
theorem matB_yes {g g' : Int → Option Tm} {p t : Tm} (h : MatY g p t g') : matB g p t = true := by unfold matB; exact decide_eq_true ⟨g', h⟩
open Classical in
theorem matB_no {g : Int → Option Tm} {p t : Tm} (h : MatN g p t) : matB g p t = false := by
  unfold matB
  refine decide_eq_false fun ⟨g', h1⟩ => ?_
  have h2 := (h1.1 (fun v => (g' v).getD (.mk 0 0 ⟨#[]⟩ []))).1 fun v x hx => by simp only [hx]; rfl
  exact h _ h2.1 h2.2
open Classical in
theorem matB_true {g : Int → Option Tm} {p t : Tm} (h : matB g p t = true) : ∃ g', MatY g p t g' := by unfold matB at h; exact of_decide_eq_true h
theorem mat_one {g g1 g2 : Int → Option Tm} {p t : Tm} (h1 : MatY g p t g1) (h2 : MatY g p t g2) : g1 = g2 := by
  funext v
  by_cases hv : g1 v = none
  · have : g2 v = none := Classical.byContradiction fun h => ((h1.2 v).2 ((h2.2 v).1 h)) hv
    rw [hv, this]
  · have hv2 : g2 v ≠ none := (h2.2 v).2 ((h1.2 v).1 hv)
    obtain ⟨x, hx⟩ := Option.ne_none_iff_exists'.1 hv
    obtain ⟨y, hy⟩ := Option.ne_none_iff_exists'.1 hv2
    have he : ExtG (fun v => (g1 v).getD (.mk 0 0 ⟨#[]⟩ [])) g1 := fun u z hz => by simp only [hz]; rfl
    have h3 := (h2.1 _).2 ((h1.1 _).1 he) v y hy
    simp only [hx] at h3
    have h4 : x = y := h3
    rw [hx, hy, h4]
theorem matB_false {g : Int → Option Tm} {p t : Tm} (hp : Good p) : matB g p t = false → MatN g p t := by
  intro h f hf he
  have : ∃ g', MatY g p t g' := by
    classical
    refine ⟨fun v => if v ∈ p.vl then some (f v) else g v, fun h' => ?_, fun v => ?_⟩
    · constructor
      · intro hh
        have hv : ∀ v ∈ p.vl, h' v = f v := fun v hv => hh v (f v) (by simp only [if_pos hv])
        refine ⟨fun v x hx => ?_, by rw [ev_congr hp hv]; exact he⟩
        by_cases hv' : v ∈ p.vl
        · rw [hv v hv', hf v x hx]
        · exact hh v x (by simp only [if_neg hv']; exact hx)
      · intro ⟨h1, h2⟩ v x hx
        by_cases hv' : v ∈ p.vl
        · simp only [if_pos hv', Option.some.injEq] at hx
          rw [← hx]
          exact ev_inj hp (h2.trans he.symm) v hv'
        · simp only [if_neg hv'] at hx
          exact h1 v x hx
    · by_cases hv' : v ∈ p.vl
      · simp [hv']
      · simp [hv']
  obtain ⟨g', h1⟩ := this
  rw [matB_yes h1] at h
  cases h
/-- What one variable takes. -/
def takeB (g : Int → Option Tm) (v : Int) (t : Tm) : Bool := match g v with | none => true | some x => x.cmp t == 0
def takeG (g : Int → Option Tm) (v : Int) (t : Tm) : Int → Option Tm := match g v with | none => updO g v t | some _ => g
theorem take_free {g : Int → Option Tm} {v : Int} {t : Tm} (h : g v = none) : takeB g v t = true ∧ takeG g v t = updO g v t := by unfold takeB takeG; rw [h]; exact ⟨rfl, rfl⟩
theorem take_had {g : Int → Option Tm} {v : Int} {t x : Tm} (h : g v = some x) : takeB g v t = (x.cmp t == 0) ∧ takeG g v t = g := by unfold takeB takeG; rw [h]; exact ⟨rfl, rfl⟩
theorem take_mat {g : Int → Option Tm} {p t : Tm} (hg : OkG g) (hp : Good p) (hk : p.kind = 1) (ht : Good t) : matB g p t = takeB g p.num t ∧ (takeB g p.num t = true → MatY g p t (takeG g p.num t)) := by
  cases hx : g p.num with
  | none =>
    have h := mat_free (t := t) hp hk hx
    rw [(take_free hx).1, (take_free hx).2]
    exact ⟨matB_yes h, fun _ => h⟩
  | some x =>
    rw [(take_had hx).1, (take_had hx).2]
    by_cases e : x = t
    · subst e
      have h := mat_same hp hk hx
      rw [cmp_self]
      exact ⟨matB_yes h, fun _ => h⟩
    · have h : (x.cmp t == 0) = false := beq_eq_false_iff_ne.2 fun h => e (cmp_zero _ _ _ (Nat.le_refl _) (hg _ _ hx).2 ht h)
      rw [h]
      exact ⟨matB_no (mat_other hp hk hx e), fun h => by cases h⟩
theorem takeG_ok {g : Int → Option Tm} {v : Int} {t : Tm} (hg : OkG g) (ht : Ok t) : OkG (takeG g v t) := by
  unfold takeG
  split
  · exact hg.upd ht
  · exact hg
end Go.Proofs.Ytjpkkhhcpcokaaa

