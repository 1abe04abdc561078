/-
  Generalization, plain: what the parts of some terms have in common; terms numbered by their shapes.
-/
import Derived.Test.YtjpkkhhcpcokaaaUnifT
namespace Go.Proofs.Ytjpkkhhcpcokaaa
open Go.RowKit
set_option linter.unusedVariables false
set_option linter.unusedSimpArgs false

def headT (t : Tm) : Tm := t.args.headD (.mk 0 0 ⟨#[]⟩ [])
def tailT (t : Tm) : Tm := t.args.tail.headD (.mk 0 0 ⟨#[]⟩ [])
theorem head_pair (x y : Tm) : headT (.mk 4 0 ⟨#[]⟩ [x, y]) = x ∧ tailT (.mk 4 0 ⟨#[]⟩ [x, y]) = y := ⟨rfl, rfl⟩
theorem head_args {t x y : Tm} (h : t.args = [x, y]) : headT t = x ∧ tailT t = y := by unfold headT tailT; rw [h]; exact ⟨rfl, rfl⟩
/-- All of them pairs; all of them one atom. -/
def AllPair (l : List Tm) : Prop := ∀ t ∈ l, t.kind = 4
def OneAtom (l : List Tm) : Prop := ∃ f, l.head? = some f ∧ ¬ f.kind = 1 ∧ ∀ t ∈ l, t = f
open Classical in
/-- The number that a list of parts has, or gets. -/
noncomputable def idxL (k : List (List Tm)) (l : List Tm) : Nat := (k.takeWhile fun x => decide (x ≠ l)).length
open Classical in
noncomputable def kAdd (k : List (List Tm)) (l : List Tm) : List (List Tm) := if l ∈ k then k else k ++ [l]
open Classical in
noncomputable def genF : Nat → List Tm → List (List Tm) → Tm × List (List Tm)
  | 0, _, k => (.mk 0 0 ⟨#[]⟩ [], k)
  | n + 1, l, k =>
    if AllPair l then (.mk 4 0 ⟨#[]⟩ [(genF n (l.map headT) k).1, (genF n (l.map tailT) (genF n (l.map headT) k).2).1], (genF n (l.map tailT) (genF n (l.map headT) k).2).2)
    else if OneAtom l then (l.headD (.mk 0 0 ⟨#[]⟩ []), k)
    else (.mk 1 (idxL k l) ⟨#[]⟩ [], kAdd k l)
open Classical in
theorem idx_in {k : List (List Tm)} {l : List Tm} (h : l ∈ k) : k[idxL k l]? = some l ∧ ∀ i, i < idxL k l → k[i]? ≠ some l := by
  unfold idxL
  induction k with
  | nil => cases h
  | cons x k ih =>
    by_cases e : x = l
    · rw [List.takeWhile_cons_of_neg (by simp [e])]
      exact ⟨by simp [e], fun i hi => by simp at hi⟩
    · rw [List.takeWhile_cons_of_pos (by simp [e])]
      have h' : l ∈ k := (List.mem_cons.1 h).elim (fun h => absurd h.symm e) id
      obtain ⟨h1, h2⟩ := ih h'
      refine ⟨by simpa using h1, fun i hi => ?_⟩
      cases i with
      | zero => simpa using e
      | succ i => simpa using h2 i (by simpa using hi)
open Classical in
theorem idx_out {k : List (List Tm)} {l : List Tm} (h : ¬ l ∈ k) : idxL k l = k.length := by
  unfold idxL
  induction k with
  | nil => rfl
  | cons x k ih =>
    rw [List.takeWhile_cons_of_pos (by simp; exact fun e => h (e ▸ List.mem_cons_self ..)), List.length_cons, List.length_cons, ih fun hm => h (List.mem_cons_of_mem _ hm)]
theorem kAdd_len (k : List (List Tm)) (l : List Tm) : (kAdd k l).length ≤ k.length + 1 := by
  unfold kAdd
  split
  · omega
  · simp
theorem gen_len (n : Nat) : ∀ (l : List Tm) (k : List (List Tm)) (f : Tm), l[0]? = some f → (∀ t ∈ l, Good t) → (genF n l k).2.length ≤ k.length + f.nodes := by
  induction n with
  | zero => intro l k f _ _; rw [genF]; show k.length ≤ _; omega
  | succ n ih =>
    intro l k f hf hg
    rw [genF]
    have hp := nodes_pos f
    split
    · rename_i h
      have hparts : ∀ t ∈ l, Good (headT t) ∧ Good (tailT t) := fun t ht => by
        obtain ⟨x, y, rfl, hx, hy⟩ := good_pair (hg t ht) (h t ht)
        exact ⟨hx, hy⟩
      obtain ⟨x, y, hxy, hx, hy⟩ := good_pair (hg f (List.mem_of_getElem? hf)) (h f (List.mem_of_getElem? hf))
      have h1 := ih (l.map headT) k x (by rw [List.getElem?_map, hf, hxy]; rfl) fun t ht => by obtain ⟨u, hu, rfl⟩ := List.mem_map.1 ht; exact (hparts u hu).1
      have h2 := ih (l.map tailT) (genF n (l.map headT) k).2 y (by rw [List.getElem?_map, hf, hxy]; rfl) fun t ht => by obtain ⟨u, hu, rfl⟩ := List.mem_map.1 ht; exact (hparts u hu).2
      have h3 : f.nodes = 1 + (x.nodes + y.nodes) := by rw [hxy, nodes_eq]; show 1 + nodesL [x, y] = _; rw [nodesL, nodesL, nodesL]; omega
      show (genF n (l.map tailT) (genF n (l.map headT) k).2).2.length ≤ _
      omega
    · split
      · show k.length ≤ _; omega
      · have := kAdd_len k l
        show (kAdd k l).length ≤ _
        omega
theorem szL_parts (l : List Tm) : (∀ t ∈ l, ∃ y z, t.args = [y, z]) → szL (l.map headT) + szL (l.map tailT) ≤ szL l := by
  induction l with
  | nil => intro _; rw [List.map_nil, List.map_nil, szL]; omega
  | cons t l ih =>
    intro h
    obtain ⟨y, z, hyz⟩ := h t (List.mem_cons_self ..)
    have h1 := ih fun u hu => h u (List.mem_cons_of_mem _ hu)
    obtain ⟨e1, e2⟩ := head_args hyz
    have h2 : t.sz = t.name.size + (1 + y.sz + (1 + z.sz + 0)) := by rw [sz_eq, hyz, szL, szL, szL]
    rw [List.map_cons, List.map_cons, szL, szL, szL, e1, e2]
    omega
/-! ### Terms with numbers -/
structure Sh where
  k : Int
  i : Int
  s : ByteArray
  h : Int
  t : Int
def nuI (ν : Tm → Option Nat) (t : Tm) : Int := ((ν t).getD 0 : Nat)
def shOf (ν : Tm → Option Nat) (t : Tm) : Sh := if t.kind = 4 then ⟨t.kind, t.num, t.name, nuI ν (headT t), nuI ν (tailT t)⟩ else ⟨t.kind, t.num, t.name, 0, 0⟩
/-- Terms have numbers below n, different ones; so have their parts. -/
structure NumP (ν : Tm → Option Nat) (n : Nat) : Prop where
  good : ∀ t i, ν t = some i → Good t ∧ i < n
  inj : ∀ t u i, ν t = some i → ν u = some i → t = u
  parts : ∀ t i, ν t = some i → t.kind = 4 → ν (headT t) ≠ none ∧ ν (tailT t) ≠ none
/-- A table of shapes. -/
def TabP (ν : Tm → Option Nat) (F : Sh → Option Nat) : Prop := ∀ s i, F s = some i ↔ ∃ t, ν t = some i ∧ shOf ν t = s
theorem num_none : NumP (fun _ => none) 0 := ⟨fun t i h => (by cases h), fun t u i h => (by cases h), fun t i h => (by cases h)⟩
theorem tab_none : TabP (fun _ => none) (fun _ => none) := fun s i => ⟨fun h => (by cases h), fun ⟨t, h, _⟩ => (by cases h)⟩
/-- The parts of a term have numbers. -/
def PartsIn (ν : Tm → Option Nat) (t : Tm) : Prop := t.kind = 4 → ν (headT t) ≠ none ∧ ν (tailT t) ≠ none
theorem pair_eq {t : Tm} (h : Good t) (hk : t.kind = 4) : t = .mk 4 0 ⟨#[]⟩ [headT t, tailT t] := by
  obtain ⟨x, y, rfl, _, _⟩ := good_pair h hk
  rfl
theorem leaf_eq {t u : Tm} (ht : Good t) (hu : Good u) (h4 : ¬ t.kind = 4) (h : t.kind = u.kind ∧ t.num = u.num ∧ t.name = u.name) : t = u :=
  good_fields h (by rw [good_leaf ht h4, good_leaf hu (by omega)])
theorem nu_inj {ν : Tm → Option Nat} {n : Nat} (h : NumP ν n) {t u : Tm} (ht : ν t ≠ none) (hu : ν u ≠ none) (e : nuI ν t = nuI ν u) : t = u := by
  obtain ⟨i, hi⟩ := Option.ne_none_iff_exists'.1 ht
  obtain ⟨j, hj⟩ := Option.ne_none_iff_exists'.1 hu
  unfold nuI at e
  rw [hi, hj] at e
  have : i = j := by simp at e; omega
  subst this
  exact h.inj t u i hi hj
theorem sh_inj {ν : Tm → Option Nat} {n : Nat} (h : NumP ν n) {t u : Tm} (ht : Good t) (hu : Good u) (pt : PartsIn ν t) (pu : PartsIn ν u) (e : shOf ν t = shOf ν u) : t = u := by
  unfold shOf at e
  by_cases h4 : t.kind = 4
  · by_cases h5 : u.kind = 4
    · rw [if_pos h4, if_pos h5] at e
      simp only [Sh.mk.injEq] at e
      rw [pair_eq ht h4, pair_eq hu h5, nu_inj h (pt h4).1 (pu h5).1 e.2.2.2.1, nu_inj h (pt h4).2 (pu h5).2 e.2.2.2.2]
    · rw [if_pos h4, if_neg h5] at e
      simp only [Sh.mk.injEq] at e
      exact absurd (e.1.symm.trans h4) h5
  · by_cases h5 : u.kind = 4
    · rw [if_neg h4, if_pos h5] at e
      simp only [Sh.mk.injEq] at e
      exact absurd (e.1.trans h5) h4
    · rw [if_neg h4, if_neg h5] at e
      simp only [Sh.mk.injEq] at e
      exact leaf_eq ht hu h4 ⟨e.1, e.2.1, e.2.2.1⟩
/-- A shape that is in the table is the term's own; one that isn't gets the next number. -/
theorem tab_had {ν : Tm → Option Nat} {F : Sh → Option Nat} {n i : Nat} (h : NumP ν n) (hF : TabP ν F) {t : Tm} (ht : Good t) (pt : PartsIn ν t) (hs : F (shOf ν t) = some i) : ν t = some i := by
  obtain ⟨u, hu, e⟩ := (hF _ i).1 hs
  have := sh_inj h ht (h.good u i hu).1 pt (fun hk => h.parts u i hu hk) e.symm
  rw [this]; exact hu
def nuPut (ν : Tm → Option Nat) (t : Tm) (n : Nat) [DecidableEq Tm] : Tm → Option Nat := fun u => if u = t then some n else ν u
open Classical in
theorem tab_new {ν : Tm → Option Nat} {F : Sh → Option Nat} {n : Nat} (h : NumP ν n) (hF : TabP ν F) {t : Tm} (ht : Good t) (pt : PartsIn ν t) (hs : F (shOf ν t) = none) :
    NumP (fun u => if u = t then some n else ν u) (n + 1) ∧ TabP (fun u => if u = t then some n else ν u) (fun s => if s = shOf ν t then some n else F s) ∧ (∀ u i, ν u = some i → (if u = t then some n else ν u) = some i) := by
  have hno : ν t = none := by
    cases hv : ν t with
    | none => rfl
    | some i => rw [(hF _ i).2 ⟨t, hv, rfl⟩] at hs; cases hs
  have keep : ∀ u, ν u ≠ none → (if u = t then some n else ν u) = ν u := fun u hu => if_neg fun e => hu (by rw [e]; exact hno)
  have hsh : ∀ u, PartsIn ν u → shOf (fun u => if u = t then some n else ν u) u = shOf ν u := fun u hu => by
    unfold shOf nuI
    by_cases h4 : u.kind = 4
    · rw [if_pos h4, if_pos h4]
      simp only [keep _ (hu h4).1, keep _ (hu h4).2]
    · rw [if_neg h4, if_neg h4]
  refine ⟨⟨fun u i hu => ?_, fun u v i hu hv => ?_, fun u i hu hk => ?_⟩, fun s i => ?_, fun u i hu => by rw [keep u (by rw [hu]; simp)]; exact hu⟩
  · by_cases e : u = t
    · simp only [if_pos e, Option.some.injEq] at hu; subst e; exact ⟨ht, by omega⟩
    · simp only [if_neg e] at hu; have := h.good u i hu; exact ⟨this.1, by omega⟩
  · by_cases e : u = t
    · simp only [if_pos e, Option.some.injEq] at hu
      by_cases e2 : v = t
      · rw [e, e2]
      · simp only [if_neg e2] at hv; have := (h.good v i hv).2; omega
    · simp only [if_neg e] at hu
      by_cases e2 : v = t
      · simp only [if_pos e2, Option.some.injEq] at hv; have := (h.good u i hu).2; omega
      · simp only [if_neg e2] at hv; exact h.inj u v i hu hv
  · have hp : PartsIn ν u := by
      by_cases e : u = t
      · rw [e]; exact pt
      · simp only [if_neg e] at hu; exact h.parts u i hu
    have := hp hk
    exact ⟨by show (if _ then _ else _) ≠ none; rw [keep _ this.1]; exact this.1, by show (if _ then _ else _) ≠ none; rw [keep _ this.2]; exact this.2⟩
  · show (if s = shOf ν t then some n else F s) = some i ↔ _
    by_cases e : s = shOf ν t
    · rw [if_pos e]
      constructor
      · intro hi
        exact ⟨t, by show (if t = t then some n else ν t) = some i; rw [if_pos rfl]; exact hi, by rw [hsh t pt, e]⟩
      · intro ⟨u, hu, hue⟩
        by_cases e2 : u = t
        · simp only [if_pos e2] at hu; exact hu
        · simp only [if_neg e2] at hu
          rw [hsh u (h.parts u i hu), e] at hue
          exact absurd (sh_inj h (h.good u i hu).1 ht (h.parts u i hu) pt hue) e2
    · rw [if_neg e, hF s i]
      constructor
      · intro ⟨u, hu, hue⟩
        exact ⟨u, by show (if u = t then some n else ν u) = some i; rw [keep u (by rw [hu]; simp)]; exact hu, by rw [hsh u (h.parts u i hu)]; exact hue⟩
      · intro ⟨u, hu, hue⟩
        by_cases e2 : u = t
        · rw [e2, hsh t pt] at hue; exact absurd hue.symm e
        · simp only [if_neg e2] at hu
          exact ⟨u, hu, by rw [← hue, hsh u (h.parts u i hu)]⟩
/-- A list of parts as one term. -/
def lstT (l : List Tm) : Tm := l.foldl (fun a p => .mk 4 0 ⟨#[]⟩ [p, a]) (.mk 0 0 ⟨#[]⟩ [])
theorem lst_snoc (l : List Tm) (p : Tm) : lstT (l ++ [p]) = .mk 4 0 ⟨#[]⟩ [p, lstT l] := by unfold lstT; rw [List.foldl_append]; rfl
theorem lst_good {l : List Tm} (h : ∀ t ∈ l, Good t) : Good (lstT l) := by
  have key : ∀ (l : List Tm) (a : Tm), (∀ t ∈ l, Good t) → Good a → Good (l.foldl (fun a p => .mk 4 0 ⟨#[]⟩ [p, a]) a) := by
    intro l
    induction l with
    | nil => exact fun a _ h => h
    | cons x l ih => exact fun a h1 h2 => ih _ (fun t ht => h1 t (List.mem_cons_of_mem _ ht)) (.pair _ _ (h1 x (List.mem_cons_self ..)) h2)
  exact key l _ h .nil
theorem lst_inj {l m : List Tm} (hl : l.length = m.length) (e : lstT l = lstT m) : l = m := by
  have key : ∀ (l m : List Tm) (a b : Tm), l.length = m.length → l.foldl (fun a p => Tm.mk 4 0 ⟨#[]⟩ [p, a]) a = m.foldl (fun a p => Tm.mk 4 0 ⟨#[]⟩ [p, a]) b → l = m ∧ a = b := by
    intro l
    induction l with
    | nil => intro m a b h e; cases m with | nil => exact ⟨rfl, e⟩ | cons y m => simp at h
    | cons x l ih =>
      intro m a b h e
      cases m with
      | nil => simp at h
      | cons y m =>
        obtain ⟨h1, h2⟩ := ih m _ _ (by simpa using h) e
        simp only [Tm.mk.injEq, List.cons.injEq, and_true, true_and] at h2
        exact ⟨by rw [h1, h2.1], h2.2⟩
  exact (key l m _ _ hl e).1
/-- The table of variables: the number of a list of parts, as one term, has the number of its variable. -/
def VarsT (ν : Tm → Option Nat) (k : List (List Tm)) (G : Int → Option Int) : Prop := ∀ v i, G v = some i ↔ ∃ (j : Nat) (l : List Tm), k[j]? = some l ∧ i = j ∧ ∃ m : Nat, ν (lstT l) = some m ∧ v = m
end Go.Proofs.Ytjpkkhhcpcokaaa

