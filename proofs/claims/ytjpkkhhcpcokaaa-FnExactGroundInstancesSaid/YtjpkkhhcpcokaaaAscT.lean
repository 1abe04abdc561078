/-
  Ascending lists of terms, plain: a term put into one; one list for one set.
-/
import Derived.Test.YtjpkkhhcpcokaaaUnifT
import Derived.Test.YtjpkkhhcpcokaaaBuiltP
namespace Go.Proofs.Ytjpkkhhcpcokaaa
open Go.RowKit
set_option linter.unusedVariables false
set_option linter.unusedSimpArgs false

theorem cmpT_zero {t u : Tm} (ht : Good t) (hu : Good u) (h : t.cmp u = 0) : t = u := cmp_zero t.nodes t u (Nat.le_refl _) ht hu h
theorem cmpT_self (t : Tm) : t.cmp t = 0 := by have := cmp_anti t t; omega
theorem cmpT_lt {a b c : Tm} (ha : Good a) (hb : Good b) (hc : Good c) (h1 : a.cmp b < 0) (h2 : b.cmp c < 0) : a.cmp c < 0 := (tri_cmp a.nodes a b c (Nat.le_refl _) ha hb hc).2.1 (by omega) h2
theorem cmpT_le {a b c : Tm} (ha : Good a) (hb : Good b) (hc : Good c) (h1 : a.cmp b < 0) (h2 : ¬ a.cmp c < 0) : ¬ b.cmp c < 0 := fun h => h2 (cmpT_lt ha hb hc h1 h)

def AscT (l : List Tm) : Prop := l.Pairwise (fun a b => a.cmp b < 0) ∧ ∀ t ∈ l, Good t
theorem AscT.nil : AscT [] := ⟨List.Pairwise.nil, fun _ h => by cases h⟩
theorem AscT.lt {l : List Tm} (h : AscT l) {i j : Nat} {x y : Tm} (hi : l[i]? = some x) (hj : l[j]? = some y) (hij : i < j) : x.cmp y < 0 := by
  obtain ⟨h1, rfl⟩ := List.getElem?_eq_some_iff.1 hi
  obtain ⟨h2, rfl⟩ := List.getElem?_eq_some_iff.1 hj
  exact List.pairwise_iff_getElem.1 h.1 i j h1 h2 hij
theorem AscT.good {l : List Tm} (h : AscT l) {i : Nat} {x : Tm} (hi : l[i]? = some x) : Good x := h.2 x (List.mem_of_getElem? hi)
/-- k is t's place: what is less stands ahead of it. -/
def AtT (l : List Tm) (t : Tm) (k : Nat) : Prop := k ≤ l.length ∧ (∀ (i : Nat) (x : Tm), i < k → l[i]? = some x → x.cmp t < 0) ∧ ∀ (i : Nat) (x : Tm), k ≤ i → l[i]? = some x → ¬ x.cmp t < 0
theorem AtT.uniq {l : List Tm} {t : Tm} {k m : Nat} (h1 : AtT l t k) (h2 : AtT l t m) : k = m := by
  rcases Nat.lt_trichotomy k m with h | h | h
  · obtain ⟨x, hx⟩ : ∃ x, l[k]? = some x := ⟨_, List.getElem?_eq_getElem (by have := h2.1; omega)⟩
    exact absurd (h2.2.1 k x h hx) (h1.2.2 k x (Nat.le_refl _) hx)
  · exact h
  · obtain ⟨x, hx⟩ : ∃ x, l[m]? = some x := ⟨_, List.getElem?_eq_getElem (by have := h1.1; omega)⟩
    exact absurd (h1.2.1 m x h hx) (h2.2.2 m x (Nat.le_refl _) hx)
/-- In an ascending list one test on either side suffices. -/
theorem AscT.atT {l : List Tm} {t : Tm} {k : Nat} (h : AscT l) (ht : Good t) (hk : k ≤ l.length) (h1 : ∀ (j : Nat) (x : Tm), k = j + 1 → l[j]? = some x → x.cmp t < 0) (h2 : ∀ x, l[k]? = some x → ¬ x.cmp t < 0) : AtT l t k := by
  refine ⟨hk, fun i x hi hx => ?_, fun i x hi hx => ?_⟩
  · obtain ⟨j, rfl⟩ : ∃ j, k = j + 1 := ⟨k - 1, by omega⟩
    by_cases hij : i = j
    · subst hij; exact h1 i x rfl hx
    · obtain ⟨y, hy⟩ : ∃ y, l[j]? = some y := ⟨_, List.getElem?_eq_getElem (by omega)⟩
      exact cmpT_lt (h.good hx) (h.good hy) ht (h.lt hx hy (by omega)) (h1 j y rfl hy)
  · by_cases hik : i = k
    · subst hik; exact h2 x hx
    · have hlt := (List.getElem?_eq_some_iff.1 hx).1
      obtain ⟨y, hy⟩ : ∃ y, l[k]? = some y := ⟨_, List.getElem?_eq_getElem (by omega)⟩
      exact cmpT_le (h.good hy) (h.good hx) ht (h.lt hy hx (by omega)) (h2 y hy)
theorem AscT.has {l : List Tm} {t : Tm} {k : Nat} (h : AscT l) (ht : Good t) (hk : AtT l t k) : t ∈ l ↔ ∃ x, l[k]? = some x ∧ x.cmp t = 0 := by
  constructor
  · intro hm
    obtain ⟨i, hi⟩ := List.getElem?_of_mem hm
    have h0 := cmpT_self t
    have hki : k ≤ i := by
      rcases Nat.lt_or_ge i k with hlt | hge
      · have := hk.2.1 i t hlt hi; omega
      · exact hge
    by_cases he : k = i
    · subst he; exact ⟨t, hi, h0⟩
    · have hlt := (List.getElem?_eq_some_iff.1 hi).1
      obtain ⟨y, hy⟩ : ∃ y, l[k]? = some y := ⟨_, List.getElem?_eq_getElem (by omega)⟩
      exact absurd (h.lt hy hi (by omega)) (hk.2.2 k y (Nat.le_refl _) hy)
  · rintro ⟨x, hx, h0⟩
    rw [← cmpT_zero (h.good hx) ht h0]
    exact List.mem_of_getElem? hx
/-- The place, counted. -/
def posT : List Tm → Tm → Nat
  | [], _ => 0
  | x :: l, t => if x.cmp t < 0 then posT l t + 1 else 0
theorem posT_le : ∀ (l : List Tm) (t : Tm), posT l t ≤ l.length
  | [], _ => Nat.le_refl _
  | x :: l, t => by rw [posT]; have := posT_le l t; split <;> simp <;> omega
theorem posT_pre : ∀ (l : List Tm) (t : Tm) (j : Nat) (x : Tm), j < posT l t → l[j]? = some x → x.cmp t < 0
  | [], _, j, x, _, h => by simp at h
  | y :: l, t, j, x, hj, h => by
    rw [posT] at hj
    split at hj
    · rename_i hy
      cases j with
      | zero => simp at h; rw [← h]; exact hy
      | succ j => exact posT_pre l t j x (by omega) (by simpa using h)
    · omega
theorem posT_stop : ∀ (l : List Tm) (t x : Tm), l[posT l t]? = some x → ¬ x.cmp t < 0
  | [], _, x, h => by simp at h
  | y :: l, t, x, h => by
    rw [posT] at h
    split at h
    · exact posT_stop l t x (by simpa using h)
    · rename_i hy
      simp at h; rw [← h]; exact hy
theorem posT_at {l : List Tm} {t : Tm} (h : AscT l) (ht : Good t) : AtT l t (posT l t) :=
  h.atT ht (posT_le l t) (fun j x hj hx => posT_pre l t j x (by omega) hx) fun x hx => posT_stop l t x hx
open Classical in
noncomputable def insT (l : List Tm) (t : Tm) : List Tm := if t ∈ l then l else l.take (posT l t) ++ t :: l.drop (posT l t)
theorem insT_yes {l : List Tm} {t : Tm} (h : t ∈ l) : insT l t = l := by rw [insT, if_pos h]
theorem insT_no {l : List Tm} {t : Tm} {k : Nat} (hl : AscT l) (ht : Good t) (h : ¬ t ∈ l) (hk : AtT l t k) : insT l t = l.take k ++ t :: l.drop k := by rw [insT, if_neg h, (posT_at hl ht).uniq hk]
theorem insT_mem {l : List Tm} {t x : Tm} : x ∈ insT l t ↔ x ∈ l ∨ x = t := by
  by_cases h : t ∈ l
  · rw [insT_yes h]
    exact ⟨.inl, fun hx => hx.elim id fun e => e ▸ h⟩
  · rw [insT, if_neg h, List.mem_append, List.mem_cons]
    have hs : x ∈ l ↔ x ∈ l.take (posT l t) ∨ x ∈ l.drop (posT l t) := by rw [← List.mem_append, List.take_append_drop]
    rw [hs]
    constructor
    · rintro (h | h | h)
      · exact .inl (.inl h)
      · exact .inr h
      · exact .inl (.inr h)
    · rintro ((h | h) | h)
      · exact .inl h
      · exact .inr (.inr h)
      · exact .inr (.inl h)
theorem insT_length {l : List Tm} {t : Tm} (h : ¬ t ∈ l) : (insT l t).length = l.length + 1 := by
  have hle := posT_le l t
  rw [insT, if_neg h, List.length_append, List.length_cons, List.length_take, List.length_drop]
  omega
theorem insT_ge (l : List Tm) (t : Tm) : l.length ≤ (insT l t).length ∧ (insT l t).length ≤ l.length + 1 := by
  by_cases h : t ∈ l
  · rw [insT_yes h]; omega
  · rw [insT_length h]; omega
theorem insT_asc {l : List Tm} {t : Tm} (hl : AscT l) (ht : Good t) : AscT (insT l t) := by
  refine ⟨?_, fun x hx => (insT_mem.1 hx).elim (hl.2 x) fun e => e ▸ ht⟩
  by_cases h : t ∈ l
  · rw [insT_yes h]; exact hl.1
  · have hk := posT_at hl ht
    rw [insT, if_neg h]
    have hp := hl.1
    rw [← List.take_append_drop (posT l t) l, List.pairwise_append] at hp
    rw [List.pairwise_append, List.pairwise_cons]
    refine ⟨hp.1, ⟨fun y hy => ?_, hp.2.1⟩, fun x hx y hy => ?_⟩
    · obtain ⟨j, hj⟩ := List.getElem?_of_mem hy
      rw [List.getElem?_drop] at hj
      have h1 := hk.2.2 _ y (by omega) hj
      have h2 : ¬ y.cmp t = 0 := fun e => h (by rw [← cmpT_zero (hl.good hj) ht e]; exact List.mem_of_getElem? hj)
      have h3 := cmp_anti y t
      omega
    · rcases List.mem_cons.1 hy with rfl | hy
      · obtain ⟨j, hj⟩ := List.getElem?_of_mem hx
        have hjl := (List.getElem?_eq_some_iff.1 hj).1
        rw [List.length_take] at hjl
        rw [List.getElem?_take, if_pos (by omega)] at hj
        exact hk.2.1 j x (by omega) hj
      · exact hp.2.2 x hx y hy
/-- Many put in, one after the other. -/
noncomputable def putsT (l ts : List Tm) : List Tm := ts.foldl insT l
theorem putsT_nil (l : List Tm) : putsT l [] = l := rfl
theorem putsT_snoc (l ts : List Tm) (t : Tm) : putsT l (ts ++ [t]) = insT (putsT l ts) t := by rw [putsT, List.foldl_append]; rfl
theorem putsT_append (l ts us : List Tm) : putsT l (ts ++ us) = putsT (putsT l ts) us := by rw [putsT, List.foldl_append]; rfl
theorem putsT_mem {x : Tm} : ∀ (ts l : List Tm), x ∈ putsT l ts ↔ x ∈ l ∨ x ∈ ts
  | [], l => by simp [putsT]
  | t :: ts, l => by
    have h := putsT_mem (x := x) ts (insT l t)
    show x ∈ putsT (insT l t) ts ↔ _
    rw [h, insT_mem, List.mem_cons]
    constructor
    · rintro ((h | h) | h)
      · exact .inl h
      · exact .inr (.inl h)
      · exact .inr (.inr h)
    · rintro (h | h | h)
      · exact .inl (.inl h)
      · exact .inl (.inr h)
      · exact .inr h
theorem putsT_asc : ∀ (ts : List Tm) {l : List Tm}, AscT l → (∀ t ∈ ts, Good t) → AscT (putsT l ts)
  | [], l, h, _ => h
  | t :: ts, l, h, ht => putsT_asc ts (insT_asc h (ht t (by simp))) fun x hx => ht x (by simp [hx])
theorem putsT_ge : ∀ (ts l : List Tm), l.length ≤ (putsT l ts).length
  | [], l => Nat.le_refl _
  | t :: ts, l => Nat.le_trans (insT_ge l t).1 (putsT_ge ts (insT l t))
theorem putsT_le : ∀ (ts l : List Tm), (putsT l ts).length ≤ l.length + ts.length
  | [], l => Nat.le_refl _
  | t :: ts, l => by
    have h1 := putsT_le ts (insT l t)
    have h2 := (insT_ge l t).2
    show (putsT (insT l t) ts).length ≤ _
    rw [List.length_cons]; omega
/-- One list for one set. -/
theorem ascT_ext : ∀ {l m : List Tm}, AscT l → AscT m → (∀ x, x ∈ l ↔ x ∈ m) → l = m
  | [], [], _, _, _ => rfl
  | [], y :: m, _, _, h => by have := (h y).2 (by simp); cases this
  | x :: l, [], _, _, h => by have := (h x).1 (by simp); cases this
  | x :: l, y :: m, hl, hm, h => by
    have hx := List.pairwise_cons.1 hl.1
    have hy := List.pairwise_cons.1 hm.1
    have hxy : x = y := by
      rcases List.mem_cons.1 ((h x).1 (by simp)) with e | e
      · exact e
      · rcases List.mem_cons.1 ((h y).2 (by simp)) with e2 | e2
        · exact e2.symm
        · have h1 := hx.1 y e2
          have h2 := hy.1 x e
          have h3 := cmp_anti x y
          omega
    subst hxy
    have hne : ∀ (k : List Tm), (∀ a ∈ k, x.cmp a < 0) → ∀ z ∈ k, z ≠ x := fun k hk z hz e => by
      have := hk z hz
      rw [e, cmpT_self] at this
      omega
    rw [ascT_ext (l := l) (m := m) ⟨hx.2, fun t ht => hl.2 t (by simp [ht])⟩ ⟨hy.2, fun t ht => hm.2 t (by simp [ht])⟩ fun z => ?_]
    constructor
    · intro hz
      exact (List.mem_cons.1 ((h z).1 (by simp [hz]))).resolve_left (hne l hx.1 z hz)
    · intro hz
      exact (List.mem_cons.1 ((h z).2 (by simp [hz]))).resolve_left (hne m hy.1 z hz)
end Go.Proofs.Ytjpkkhhcpcokaaa

