/-
  The program's composition, plain: the mapped bindings and the rest, sorted, are the model's insertions.
-/
import Derived.Test.YtjmmeccfjanpcaaSpecCompose
import Derived.Test.YtjmmeccfjanpcaaGoPlain
namespace Go.Proofs.Ytjmmeccfjanpcaa
open Go.RowKit
set_option linter.unusedVariables false
set_option linter.unusedSimpArgs false

theorem not_self {s t : List Bd} (hs : SubstP s) (ht : SubstP t) {b : Bd} (hb : b ∈ s) : selfB (mapped t b) = false := by
  unfold selfB
  refine decide_eq_false fun h => ?_
  have hk : (putT t b.t).kind = 1 := h.1
  have hn : (putT t b.t).num = b.v := h.2
  have hg := hs.good b hb
  have hlow : b.t.kind = 1 → b.t.num < b.v := fun h1 => by
    have h2 := (hs.2 b hb).1
    rcases Int.lt_or_le b.t.num b.v with h3 | h3
    · exact h3
    · exact absurd ⟨h1, h3⟩ h2
  by_cases h1 : b.t.kind = 1
  · rw [putT_var h1] at hk hn
    cases hget : getO t b.t.num with
    | none =>
      rw [hget] at hn
      have := hlow h1
      have hn' : b.t.num = b.v := hn
      omega
    | some x =>
      rw [hget] at hk hn
      obtain ⟨c, hc, h3, h4⟩ := getO_some hget
      have h5 := (ht.2 c hc).1
      have hk' : x.kind = 1 := hk
      have hn' : x.num = b.v := hn
      rw [h4] at h5
      have := hlow h1
      exact h5 ⟨hk', by omega⟩
  · by_cases h4 : b.t.kind = 4
    · rw [putT_pair h4] at hk
      have hk' : (4 : Int) = 1 := hk
      omega
    · rw [putT_atom h1 h4] at hk
      exact h1 hk
theorem cmpA_map {s t : List Bd} (hs : SubstP s) (ht : SubstP t) : cmpA s t = s.map (mapped t) := by
  unfold cmpA
  refine List.filter_eq_self.2 fun b hb => ?_
  obtain ⟨c, hc, rfl⟩ := List.mem_map.1 hb
  rw [not_self hs ht hc]; rfl
theorem insB_perm (s : List Bd) (b : Bd) : (insB s b).Perm (b :: s) := by
  unfold insB
  refine List.perm_middle.trans ?_
  rw [List.take_append_drop]
theorem foldB_perm : ∀ (r s : List Bd), (r.foldl insB s).Perm (r ++ s)
  | [], s => List.Perm.refl _
  | b :: r, s => by
    rw [List.foldl_cons]
    exact (foldB_perm r _).trans ((List.Perm.append_left r (insB_perm s b)).trans List.perm_middle)
theorem ValuesP.pair {s : List Bd} (h : ValuesP s) : s.Pairwise (fun a b => a.v < b.v) := by
  rw [List.pairwise_iff_getElem]
  intro i j hi hj hij
  exact h.less hij (List.getElem?_eq_getElem hi) (List.getElem?_eq_getElem hj)
/-- Bindings in ascending order with the same members are one list. -/
theorem asc_perm : ∀ {l m : List Bd}, l.Pairwise (fun a b => a.v < b.v) → m.Pairwise (fun a b => a.v < b.v) → l.Perm m → l = m
  | [], m, _, _, hp => (List.nil_perm.1 hp).symm
  | a :: l, [], _, _, hp => by have := hp.length_eq; simp at this
  | a :: l, b :: m, h1, h2, hp => by
    obtain ⟨a1, a2⟩ := List.pairwise_cons.1 h1
    obtain ⟨b1, b2⟩ := List.pairwise_cons.1 h2
    have hab : a = b := by
      rcases List.mem_cons.1 (hp.mem_iff.1 (List.mem_cons_self (a := a) (l := l))) with e | ha
      · exact e
      · rcases List.mem_cons.1 (hp.mem_iff.2 (List.mem_cons_self (a := b) (l := m))) with e | hb
        · exact e.symm
        · have h3 := b1 a ha
          have h4 := a1 b hb
          omega
    subst hab
    rw [asc_perm a2 b2 (List.Perm.cons_inv hp)]
theorem scanB_after {s : List Bd} {v : Int} : ∀ (k j : Nat) (x : Bd), scanB s v k ≤ j → j < k → s[j]? = some x → v < x.v
  | 0, j, x, _, h, _ => absurd h (Nat.not_lt_zero _)
  | k + 1, j, x, h1, h2, hx => by
    rw [scanB] at h1
    split at h1
    · rename_i hc
      by_cases hj : j = k
      · subst hj
        rw [hx] at hc
        exact hc
      · exact scanB_after k j x h1 (by omega) hx
    · omega
theorem scanB_before {s : List Bd} {v : Int} : ∀ (k : Nat), k ≤ s.length → 0 < scanB s v k → ∃ x, s[scanB s v k - 1]? = some x ∧ x.v ≤ v
  | 0, _, h => by rw [scanB] at h; omega
  | k + 1, hk, h => by
    rw [scanB] at h ⊢
    split
    · rename_i hc
      rw [if_pos hc] at h
      exact scanB_before k (by omega) h
    · rename_i hc
      obtain ⟨x, hx⟩ : ∃ x, s[k]? = some x := ⟨_, List.getElem?_eq_getElem (by omega)⟩
      rw [hx] at hc
      refine ⟨x, by simpa using hx, ?_⟩
      have hc' : ¬ v < x.v := hc
      omega
theorem insB_asc {s : List Bd} {b : Bd} (h : s.Pairwise (fun a b => a.v < b.v)) (hb : ∀ c ∈ s, c.v ≠ b.v) : (insB s b).Pairwise (fun a b => a.v < b.v) := by
  have hle := scanB_le s b.v s.length
  have hidx := List.pairwise_iff_getElem.1 h
  have hbef : ∀ a ∈ s.take (scanB s b.v s.length), a.v < b.v := by
    intro a ha
    obtain ⟨i, hi⟩ := List.getElem?_of_mem ha
    have hil := (List.getElem?_eq_some_iff.1 hi).1
    rw [List.length_take] at hil
    rw [List.getElem?_take_of_lt (by omega)] at hi
    obtain ⟨x, hx, hxv⟩ := scanB_before (s := s) (v := b.v) s.length (Nat.le_refl _) (by omega)
    have hne := hb a (List.mem_of_getElem? hi)
    obtain ⟨hxl, hxe⟩ := List.getElem?_eq_some_iff.1 hx
    obtain ⟨hal, hae⟩ := List.getElem?_eq_some_iff.1 hi
    by_cases hix : i = scanB s b.v s.length - 1
    · subst hix
      rw [hx] at hi
      cases hi
      omega
    · have := hidx i (scanB s b.v s.length - 1) hal hxl (by omega)
      rw [hxe, hae] at this
      omega
  have haft : ∀ a ∈ s.drop (scanB s b.v s.length), b.v < a.v := by
    intro a ha
    obtain ⟨i, hi⟩ := List.getElem?_of_mem ha
    rw [List.getElem?_drop] at hi
    exact scanB_after s.length _ a (by omega) (List.getElem?_eq_some_iff.1 hi).1 hi
  unfold insB
  rw [List.pairwise_append]
  refine ⟨h.sublist (List.take_sublist _ _), List.pairwise_cons.2 ⟨haft, h.sublist (List.drop_sublist _ _)⟩, fun a ha c hc => ?_⟩
  rcases List.mem_cons.1 hc with rfl | hc
  · exact hbef a ha
  · have h1 := hbef a ha
    have h2 := haft c hc
    omega
theorem foldB_asc : ∀ (r s : List Bd), s.Pairwise (fun a b => a.v < b.v) → r.Pairwise (fun a b => a.v < b.v) → (∀ c ∈ s, ∀ d ∈ r, c.v ≠ d.v) → (r.foldl insB s).Pairwise (fun a b => a.v < b.v)
  | [], s, h, _, _ => h
  | b :: r, s, h, hr, hd => by
    obtain ⟨r1, r2⟩ := List.pairwise_cons.1 hr
    rw [List.foldl_cons]
    refine foldB_asc r _ (insB_asc h fun c hc => hd c hc b (by simp)) r2 fun c hc d hdm => ?_
    rcases insB_mem.1 hc with rfl | hc
    · have := r1 d hdm; omega
    · exact hd c hc d (by simp [hdm])
theorem mapped_asc {s t : List Bd} (h : s.Pairwise (fun a b => a.v < b.v)) : (s.map (mapped t)).Pairwise (fun a b => a.v < b.v) := by
  rw [List.pairwise_map]
  exact h
theorem cmpB_asc {s t : List Bd} (hs : SubstP s) (ht : SubstP t) : (cmpB s t).Pairwise (fun a b => a.v < b.v) := by
  unfold cmpB
  rw [cmpA_map hs ht]
  refine foldB_asc _ _ (mapped_asc hs.1.pair) (ht.1.pair.sublist List.filter_sublist) fun c hc d hd => ?_
  obtain ⟨x, hx, rfl⟩ := List.mem_map.1 hc
  obtain ⟨hd1, hd2⟩ := List.mem_filter.1 hd
  intro e
  have h1 : getB s d.v = false := by simpa using hd2
  exact (getO_none.1 (getB_none.1 h1)) x hx e
/-- Whatever list the program sorts: the mapped bindings, and the rest in any order. -/
theorem sorted_is {s t l m : List Bd} (hs : SubstP s) (ht : SubstP t) (hl : l.Perm (rest s t)) (hm : m.Perm (s.map (mapped t) ++ l)) (ha : m.Pairwise (fun a b => ¬ b.v < a.v)) : m = cmpB s t := by
  have hp : m.Perm (cmpB s t) := by
    unfold cmpB
    rw [cmpA_map hs ht]
    exact (hm.trans ((List.Perm.append_left _ hl).trans List.perm_append_comm)).trans (foldB_perm _ _).symm
  have hnd : (m.map Bd.v).Nodup := by
    rw [(hp.map Bd.v).nodup_iff]
    rw [List.nodup_iff_pairwise_ne, List.pairwise_map]
    exact (cmpB_asc hs ht).imp fun h => by omega
  rw [List.nodup_iff_pairwise_ne, List.pairwise_map] at hnd
  exact asc_perm ((ha.and hnd).imp fun {a b} h => by have h1 := h.1; have h2 := h.2; omega) (cmpB_asc hs ht) hp
end Go.Proofs.Ytjmmeccfjanpcaa

