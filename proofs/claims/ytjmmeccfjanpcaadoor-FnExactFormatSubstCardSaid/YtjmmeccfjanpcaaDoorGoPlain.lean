/-
  The program's view of a substitution, plain: what a map of its bindings holds; whether a term has a bound variable; what its check looks at; how much room a replaced term leaves.
-/
import Derived.Test.YtjmmeccfjanpcaaDoorMapT
import Derived.Test.YtjmmeccfjanpcaaDoorSpecSubst
import Derived.Test.YtjmmeccfjanpcaaDoorSpecApply
namespace Go.Proofs.YtjmmeccfjanpcaaDoor
open Go.RowKit
set_option linter.unusedVariables false
set_option linter.unusedSimpArgs false

/-- The last binding of a variable. -/
def lastO (s : List Bd) (v : Int) : Option Tm := getO s.reverse v
theorem lastO_nil (v : Int) : lastO [] v = none := rfl
theorem lastO_snoc (s : List Bd) (x : Bd) (v : Int) : lastO (s ++ [x]) v = if x.v = v then some x.t else lastO s v := by
  unfold lastO
  rw [List.reverse_append]
  simp only [List.reverse_cons, List.reverse_nil, List.nil_append, List.singleton_append]
  rw [getO]
theorem lastO_take {s : List Bd} {k : Nat} {x : Bd} (hx : s[k]? = some x) (v : Int) : lastO (s.take (k + 1)) v = if x.v = v then some x.t else lastO (s.take k) v := by rw [takeE hx, lastO_snoc]
theorem lastO_none {s : List Bd} {v : Int} : lastO s v = none ↔ getO s v = none := by
  unfold lastO
  rw [getO_none, getO_none]
  simp
theorem lastO_some {s : List Bd} {v : Int} {t : Tm} (h : lastO s v = some t) : ∃ b ∈ s, b.v = v ∧ b.t = t := by
  obtain ⟨b, hb, h1⟩ := getO_some h
  exact ⟨b, by simpa using hb, h1⟩
def Uniq (s : List Bd) : Prop := ∀ b ∈ s, ∀ c ∈ s, b.v = c.v → b.t = c.t
theorem getO_uniq {s : List Bd} (hu : Uniq s) {b : Bd} (hb : b ∈ s) : getO s b.v = some b.t := by
  cases hg : getO s b.v with
  | none => exact absurd rfl (getO_none.1 hg b hb)
  | some t =>
    obtain ⟨c, hc, h1, h2⟩ := getO_some hg
    rw [← h2, hu c hc b hb h1]
theorem asc_all {s : List Bd} (h : ∀ (k : Nat) (x y : Bd), s[k]? = some x → s[k + 1]? = some y → x.v < y.v) : ∀ (d i : Nat) (x y : Bd), s[i]? = some x → s[i + 1 + d]? = some y → x.v < y.v
  | 0, i, x, y, hx, hy => h i x y hx hy
  | d + 1, i, x, y, hx, hy => by
    have hl := (List.getElem?_eq_some_iff.1 hy).1
    obtain ⟨z, hz⟩ : ∃ z, s[i + 1 + d]? = some z := ⟨_, List.getElem?_eq_getElem (by omega)⟩
    have h1 := asc_all h d i x z hx hz
    have h2 := h (i + 1 + d) z y hz (by rw [show i + 1 + d + 1 = i + 1 + (d + 1) from by omega]; exact hy)
    omega
theorem ValuesP.less {s : List Bd} (h : ValuesP s) {i j : Nat} {x y : Bd} (hij : i < j) (hx : s[i]? = some x) (hy : s[j]? = some y) : x.v < y.v :=
  asc_all h.2.1 (j - i - 1) i x y hx (by rw [show i + 1 + (j - i - 1) = j from by omega]; exact hy)
theorem ValuesP.uniq {s : List Bd} (h : ValuesP s) : Uniq s := fun b hb c hc e => by
  obtain ⟨i, hi⟩ := List.getElem?_of_mem hb
  obtain ⟨j, hj⟩ := List.getElem?_of_mem hc
  rcases Nat.lt_trichotomy i j with hlt | rfl | hlt
  · have := h.less hlt hi hj; omega
  · cases hi.symm.trans hj; rfl
  · have := h.less hlt hj hi; omega
theorem lastO_subst {s : List Bd} (h : SubstP s) (v : Int) : lastO s v = getO s v := by
  cases hg : lastO s v with
  | none => exact (lastO_none.1 hg).symm
  | some t =>
    obtain ⟨b, hb, rfl, rfl⟩ := lastO_some hg
    exact (getO_uniq h.1.uniq hb).symm

/-- Whether a term has a bound variable. -/
def anyG (g : Int → Option Tm) (t : Tm) : Bool := t.vl.any fun v => (g v).isSome
theorem anyG_var {g : Int → Option Tm} {t : Tm} (h : t.kind = 1) : anyG g t = (g t.num).isSome := by
  rw [anyG, vl_eq, if_pos h]; simp
theorem vlL_any (p : Int → Bool) : ∀ l : List Tm, (vlL l).any p = l.any fun t => t.vl.any p
  | [] => by rw [vlL_nil]; rfl
  | t :: l => by rw [vlL, List.any_append, vlL_any p l, List.any_cons]
theorem anyG_args {g : Int → Option Tm} {t : Tm} (h : ¬ t.kind = 1) : anyG g t = t.args.any (anyG g) := by
  rw [anyG, vl_eq, if_neg h, vlL_any]; rfl
theorem anyG_false {g : Int → Option Tm} {t : Tm} : anyG g t = false ↔ ∀ v ∈ t.vl, g v = none := by
  unfold anyG
  rw [List.any_eq_false]
  constructor
  · intro h v hv
    have := h v hv
    simpa using this
  · intro h v hv
    rw [h v hv]; simp

/-- What the program's check asks of one binding alone; of one among the others. -/
def AloneP (b : Bd) : Prop := (0 ≤ b.v ∧ b.v ≤ 100000) ∧ Ok b.t ∧ ¬ (b.t.kind = 1 ∧ b.v ≤ b.t.num)
open Classical in
noncomputable def aloneB (b : Bd) : Bool := decide (AloneP b)
theorem aloneB_true {b : Bd} : aloneB b = true ↔ AloneP b := by simp [aloneB]
theorem aloneB_false {b : Bd} : aloneB b = false ↔ ¬ AloneP b := by simp [aloneB]
def PlaceP (s : List Bd) (i : Nat) (b : Bd) : Prop := AloneP b ∧ anyG (lastO s) b.t = false ∧ (∀ (j : Nat) (c : Bd), i = j + 1 → s[j]? = some c → c.v < b.v)
theorem subst_places {s : List Bd} (hl : s.length ≤ 400) (h : ∀ (i : Nat) (b : Bd), i < s.length → s[i]? = some b → PlaceP s i b) : SubstP s := by
  refine ⟨⟨fun k x hx => ?_, fun k x y hx hy => ?_, hl⟩, fun b hb => ?_⟩
  · have := (h k x (List.getElem?_eq_some_iff.1 hx).1 hx).1
    exact ⟨this.1, this.2.1⟩
  · exact (h (k + 1) y (List.getElem?_eq_some_iff.1 hy).1 hy).2.2 k x rfl hx
  · obtain ⟨i, hi⟩ := List.getElem?_of_mem hb
    have := h i b (List.getElem?_eq_some_iff.1 hi).1 hi
    exact ⟨this.1.2.2, fun v hv => lastO_none.1 (anyG_false.1 this.2.1 v hv)⟩
theorem places_of {s : List Bd} (h : SubstP s) {i : Nat} {b : Bd} (hb : s[i]? = some b) : PlaceP s i b := by
  have h1 := h.1.1 i b hb
  have h2 := h.2 b (List.mem_of_getElem? hb)
  exact ⟨⟨h1.1, h1.2, h2.1⟩, anyG_false.2 fun v hv => lastO_none.2 (h2.2 v hv), fun j c hij hc => by subst hij; exact h.1.2.1 j c b hc hb⟩

/-- How much room is left behind n nodes; below 0 where there are more. -/
def RoomP (n : Nat) (room r : Int) : Prop := ((n : Int) ≤ room → r = room - n) ∧ (room < n → r < 0) ∧ -5000 ≤ r ∧ r ≤ room
theorem putT_atom_nodes {s : List Bd} {t : Tm} (h1 : ¬ t.kind = 1) (h4 : ¬ t.kind = 4) : (putT s t) = t := putT_atom h1 h4
theorem nodesL_map_take {s : List Bd} {l : List Tm} {j : Nat} {t : Tm} (h : l[j]? = some t) : nodesL ((l.take (j + 1)).map (putT s)) = nodesL ((l.take j).map (putT s)) + (putT s t).nodes := by
  rw [take_snoc h, List.map_append, nodesL_append]; simp [nodesL]
end Go.Proofs.YtjmmeccfjanpcaaDoor

