/-
  Plain: a composition of drawn substitutions has the effect of one after the other.
  Plain: what FormatSubst writes is read back by ParseSubst.
-/
import Derived.Test.YtnbnepeikdieaaaGreatDoorDrawsB
import Derived.Test.YtnbnepeikdieaaaGreatDoorTextRead
import Derived.Test.YtnbnepeikdieaaaGreatDoorParseB
import Derived.Test.YtnbnepeikdieaaaGreatDoorFormatB
namespace Go.Proofs.YtnbnepeikdieaaaGreatDoor
open Go.RowKit
set_option linter.unusedVariables false
set_option linter.unusedSimpArgs false
set_option linter.unusedSectionVars false

/-! ### The composition of drawn substitutions -/
theorem scanB_mid {P A : List Bd} {v : Int} (hP : ∀ b ∈ P, b.v < v) (hA : ∀ b ∈ A, v < b.v) : ∀ k, P.length ≤ k → k ≤ (P ++ A).length → scanB (P ++ A) v k = P.length
  | 0, h, _ => by rw [scanB]; omega
  | k + 1, h, hk => by
    rw [scanB]
    have hlt : k < (P ++ A).length := by omega
    rw [List.getElem?_eq_getElem hlt]
    show (if v < ((P ++ A)[k]).v then scanB (P ++ A) v k else k + 1) = P.length
    by_cases hc : P.length ≤ k
    · have : v < ((P ++ A)[k]).v := by
        rw [List.getElem_append_right hc]
        exact hA _ (List.getElem_mem _)
      rw [if_pos this]
      exact scanB_mid hP hA k hc (by omega)
    · have hl : k < P.length := by omega
      have : ¬ v < ((P ++ A)[k]).v := by
        rw [List.getElem_append_left hl]
        have := hP _ (List.getElem_mem hl)
        omega
      rw [if_neg this]
      omega
theorem insB_mid {P A : List Bd} {b : Bd} (hP : ∀ c ∈ P, c.v < b.v) (hA : ∀ c ∈ A, b.v < c.v) : insB (P ++ A) b = P ++ b :: A := by
  rw [insB, scanB_mid hP hA _ (by simp) (Nat.le_refl _), List.take_left', List.drop_left'] <;> rfl
theorem foldB_mid : ∀ (t P A : List Bd), t.Pairwise (fun a b => a.v < b.v) → (∀ c ∈ P, ∀ b ∈ t, c.v < b.v) → (∀ b ∈ t, ∀ c ∈ A, b.v < c.v) → t.foldl insB (P ++ A) = P ++ t ++ A
  | [], P, A, _, _, _ => by simp
  | b :: t, P, A, hp, hP, hA => by
    obtain ⟨h1, h2⟩ := List.pairwise_cons.1 hp
    rw [List.foldl_cons, insB_mid (fun c hc => hP c hc b (by simp)) (fun c hc => hA b (by simp) c hc)]
    have := foldB_mid t (P ++ [b]) A h2 (fun c hc x hx => by
      rcases List.mem_append.1 hc with hc | hc
      · exact hP c hc x (List.mem_cons_of_mem _ hx)
      · obtain rfl := List.mem_singleton.1 hc
        exact h1 x hx) fun x hx => hA x (List.mem_cons_of_mem _ hx)
    simpa using this
theorem getO_append (a b : List Bd) (v : Int) : getO (a ++ b) v = (match getO a v with | some t => some t | none => getO b v) := by
  induction a with
  | nil => rfl
  | cons x a ih =>
    rw [List.cons_append, getO, getO]
    split
    · rfl
    · exact ih
theorem getO_mapped (t : List Bd) : ∀ (s : List Bd) (v : Int), getO (s.map (mapped t)) v = (getO s v).map (putT t)
  | [], v => rfl
  | b :: s, v => by
    rw [List.map_cons, getO, getO]
    show (if b.v = v then some (putT t b.t) else _) = _
    split
    · rfl
    · exact getO_mapped t s v
section
variable {s t : List Bd} {r : Int} (hs : SubD 4 8 4 11 s) (ht : SubD r 4 r 9 t) (h0 : 0 ≤ r) (h4 : r < 4)
include hs ht h0 h4
theorem com_vl {b : Bd} (hb : b ∈ s) : ∀ u ∈ (putT t b.t).vl, u < 4 ∧ getO t u = none := by
  intro u hu
  obtain ⟨_, _, bg, _⟩ := hs.1 b hb
  rcases putT_vl bg.1 u hu with ⟨h1, h2⟩ | ⟨v, _, y, hy, h2⟩
  · exact ⟨bg.2 u h1, h2⟩
  · obtain ⟨c, hc, _, rfl⟩ := getO_some hy
    have := (ht.1 c hc).2.2.1.2 u h2
    exact ⟨by omega, getO_none.2 fun d hd e => by have := (ht.1 d hd).1; omega⟩
theorem com_is : cmpB s t = t ++ s.map (mapped t) := by
  have hA : cmpA s t = s.map (mapped t) := by
    rw [cmpA, List.filter_eq_self]
    intro b hb
    obtain ⟨x, hx, rfl⟩ := List.mem_map.1 hb
    have h1 := (hs.1 x hx).1
    have : selfB (mapped t x) = false := decide_eq_false fun hc => by
      have hk : (putT t x.t).kind = 1 := hc.1
      have hn : (putT t x.t).num = x.v := hc.2
      have := (com_vl hs ht h0 h4 hx (putT t x.t).num (by rw [vl_of_var hk]; simp)).1
      omega
    rw [this]; rfl
  have hR : rest s t = t := by
    rw [rest, List.filter_eq_self]
    intro b hb
    have h1 := (ht.1 b hb).2.1
    have : getB s b.v = false := getB_none.2 (getO_none.2 fun c hc e => by have := (hs.1 c hc).1; omega)
    rw [this]; rfl
  rw [cmpB, hA, hR]
  have := foldB_mid t [] (s.map (mapped t)) ht.2 (fun c hc => by cases hc) fun b hb c hc => by
    obtain ⟨x, hx, rfl⟩ := List.mem_map.1 hc
    have h1 := (hs.1 x hx).1
    have h2 := (ht.1 b hb).2.1
    show b.v < x.v
    omega
  simpa using this
theorem com_nodes {b : Bd} (hb : b ∈ s) : (putT t b.t).nodes ≤ 99 := by
  obtain ⟨_, _, bg, bn⟩ := hs.1 b hb
  have := putT_nodes (s := t) (M := 9) (by omega) (fun c hc => by have := (ht.1 c hc).2.2.2; omega) b.t.nodes b.t (Nat.le_refl _) bg.1
  omega
theorem com_free {u : Int} (h : u < 4) (hn : getO t u = none) : getO (cmpB s t) u = none := by
  rw [com_is hs ht h0 h4, getO_append, hn]
  show getO (s.map (mapped t)) u = none
  rw [getO_mapped, getO_none.2 fun c hc e => by have := (hs.1 c hc).1; omega]
  rfl
theorem com_subst : SubstP (cmpB s t) := by
  have hgt : ∀ c ∈ t, Good c.t := fun c hc => (ht.1 c hc).2.2.1.1
  have e := com_is hs ht h0 h4
  refine substP_of (hi := 8) (by omega) (by omega) ?_ fun b hb => ?_
  · rw [e]
    refine List.pairwise_append.2 ⟨ht.2, List.pairwise_map.2 hs.2, fun a ha b hb => ?_⟩
    obtain ⟨x, hx, rfl⟩ := List.mem_map.1 hb
    have h1 := (hs.1 x hx).1
    have h2 := (ht.1 a ha).2.1
    show a.v < x.v
    omega
  · rw [e, List.mem_append] at hb
    rcases hb with hb | hb
    · obtain ⟨b0, b1, bg, bn⟩ := ht.1 b hb
      refine ⟨by omega, by omega, ⟨by omega, bg.1⟩, fun u hu => ?_⟩
      have h1 := bg.2 u hu
      exact ⟨by omega, com_free hs ht h0 h4 (by omega) (getO_none.2 fun c hc e => by have := (ht.1 c hc).1; omega)⟩
    · obtain ⟨x, hx, rfl⟩ := List.mem_map.1 hb
      obtain ⟨b0, b1, bg, bn⟩ := hs.1 x hx
      have hn := com_nodes hs ht h0 h4 hx
      refine ⟨by show 0 ≤ x.v; omega, b1, ⟨by show (putT t x.t).nodes ≤ 5000; omega, putT_good hgt x.t.nodes x.t (Nat.le_refl _) bg.1⟩, fun u hu => ?_⟩
      have h1 := com_vl hs ht h0 h4 hx u hu
      exact ⟨by show u < x.v; omega, com_free hs ht h0 h4 h1.1 h1.2⟩
theorem com_yes : CompP s t := ⟨hs.subst (by omega) (by omega) (by omega) (by omega) (by omega), ht.subst h0 (by omega) (by omega) (by omega) (by omega), fun b hb => by have := com_nodes hs ht h0 h4 hb; omega, com_subst hs ht h0 h4⟩
theorem com_var (v : Int) : putT t (putT s (varTm v)) = putT (cmpB s t) (varTm v) := by
  cases hv : getO s v with
  | none =>
    rw [putT_free hv]
    cases hw : getO t v with
    | none =>
      rw [putT_free hw, putT_free]
      rw [com_is hs ht h0 h4, getO_append, hw]
      show getO (s.map (mapped t)) v = none
      rw [getO_mapped, hv]; rfl
    | some y =>
      rw [putT_of hw, putT_of]
      rw [com_is hs ht h0 h4, getO_append, hw]
  | some y =>
    obtain ⟨c, hc, rfl, rfl⟩ := getO_some hv
    have h1 := (hs.1 c hc).1
    rw [putT_of hv, putT_of]
    rw [com_is hs ht h0 h4, getO_append, getO_none.2 fun d hd e => by have := (ht.1 d hd).2.1; omega]
    show getO (s.map (mapped t)) c.v = _
    rw [getO_mapped, hv]; rfl
theorem com_all {x : Tm} (hx : Good x) : putT t (putT s x) = putT (cmpB s t) x := putT_comp hx fun v _ => com_var hs ht h0 h4 v
theorem com_eqn {b : Bd} (hb : b ∈ s) (hg : getO s b.v = some b.t) : putT (cmpB s t) (varTm b.v) = putT t b.t ∧ putT (cmpB s t) b.t = putT t b.t := by
  obtain ⟨_, _, bg, _⟩ := hs.1 b hb
  refine ⟨by rw [← com_var hs ht h0 h4, putT_of hg], ?_⟩
  rw [← com_all hs ht h0 h4 bg.1, putT_same bg.1 fun v hv => getO_none.2 fun c hc e => by have h1 := (hs.1 c hc).1; have h2 := bg.2 v hv; omega]
end
end Go.Proofs.YtnbnepeikdieaaaGreatDoor

namespace Go.Proofs.YtnbnepeikdieaaaGreatDoor
open Go.RowKit
set_option linter.unusedVariables false
set_option linter.unusedSimpArgs false

theorem Each.snoc {l : List Tm} {L : List (List ByteArray)} {t : Tm} {X : List ByteArray} (h : Each l L) (k : TextOf t X) : Each (l ++ [t]) (L ++ [X]) := by
  induction h with
  | nil => exact .cons k .nil
  | cons h1 _ ih => exact .cons h1 ih
theorem joinTo_app (L : List ByteArray) (sep x : ByteArray) : ∀ k, k ≤ L.length → joinTo (L ++ [x]) sep k = joinTo L sep k
  | 0, _ => rfl
  | k + 1, h => by
    have e : (L ++ [x]).getD k ⟨#[]⟩ = L.getD k ⟨#[]⟩ := by rw [List.getD_eq_getElem?_getD, List.getD_eq_getElem?_getD, List.getElem?_append_left (by omega)]
    rw [joinTo, joinTo, e, joinTo_app L sep x k (by omega)]
/-- A row of texts with spaces between: its tokens. -/
theorem join_scan (l : List Tm) (h : ∀ t ∈ l, Good t) : ∃ L, Each l L ∧ ScanS (joinTo (l.map Tm.text) spB l.length).data.toList L.flatten ∧ PlainL (joinTo (l.map Tm.text) spB l.length).data.toList := by
  rcases List.eq_nil_or_concat l with rfl | ⟨l', t, rfl⟩
  · exact ⟨[], .nil, fun s A R out hs _ hi => by simpa [joinTo] using hi, fun c hc => by simp [joinTo] at hc⟩
  · rw [List.concat_eq_append] at h ⊢
    obtain ⟨L, h1, h2, h3⟩ := join_scan l' fun x hx => h x (by simp [hx])
    have ht := h t (by simp)
    obtain ⟨X, hX⟩ := (text_of t.nodes t (Nat.le_refl _) ht).1
    refine ⟨L ++ [X], h1.snoc hX, ?_⟩
    have e : joinTo ((l' ++ [t]).map Tm.text) spB (l' ++ [t]).length = (if l'.length = 0 then joinTo (l'.map Tm.text) spB l'.length else joinTo (l'.map Tm.text) spB l'.length ++ spB) ++ t.text := by
      rw [List.length_append, List.length_singleton, joinTo, List.map_append, List.map_singleton, joinTo_app _ _ _ _ (by simp)]
      congr 1
      rw [List.getD_eq_getElem?_getD, List.getElem?_append_right (by simp)]
      simp
    rw [e, data_app]
    by_cases h0 : l'.length = 0
    · rw [if_pos h0]
      obtain rfl := List.length_eq_zero_iff.1 h0
      cases h1
      have ej : (joinTo (([] : List Tm).map Tm.text) spB ([] : List Tm).length).data.toList = [] := rfl
      rw [ej]
      simp only [List.nil_append, List.flatten_cons, List.flatten_nil, List.append_nil]
      exact ⟨hX.scan, hX.plain⟩
    · rw [if_neg h0, data_app]
      have es : spB.data.toList = [32] := rfl
      rw [es, List.flatten_append, List.flatten_cons, List.flatten_nil, List.append_nil]
      refine ⟨?_, PlainL.app (PlainL.app h3 (by intro c hc; simp at hc; subst hc; rfl)) hX.plain⟩
      have := (h2.andN ⟨32, [], rfl, rfl⟩ scan_space).andS hX.scan
      simpa using this
termination_by l.length
/-- All terms of such a row are read. -/
theorem rd_join {l : List Tm} (h : ∀ t ∈ l, Ok t) (hs : (joinTo (l.map Tm.text) spB l.length).size ≤ 20000) : rdO (joinTo (l.map Tm.text) spB l.length) = some l := by
  obtain ⟨L, h1, h2, h3⟩ := join_scan l fun t ht => (h t ht).2
  generalize joinTo (l.map Tm.text) spB l.length = s at h2 h3 hs
  have hT := tokens_of (toks_scan h2) h3 hs
  rw [rdO, hT]
  exact all_of h1 [] L.flatten.length 0 rfl rfl (fun t ht => okB_true.2 (h t ht)) (by show 2 * L.flatten.length ≤ 3 * L.flatten.length + 1; omega) h1.len
end Go.Proofs.YtnbnepeikdieaaaGreatDoor

