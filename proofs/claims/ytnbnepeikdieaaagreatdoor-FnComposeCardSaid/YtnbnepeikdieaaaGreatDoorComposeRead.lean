/-
  The text of a composition is read back: plain.
-/
import Derived.Test.YtnbnepeikdieaaaGreatDoorComposeR
import Derived.Test.YtnbnepeikdieaaaGreatDoorFormatB
import Derived.Test.YtnbnepeikdieaaaGreatDoorParseB
import Derived.Test.YtnbnepeikdieaaaGreatDoorUnifT
namespace Go.Proofs.YtnbnepeikdieaaaGreatDoor
open Go.RowKit
set_option linter.unusedVariables false
set_option linter.unusedSimpArgs false

/-- The terms that a list of bindings is written as. -/
def tl (u : List Bd) : List Tm := u.flatMap fun b => [varTm b.v, b.t]
theorem tl_length (u : List Bd) : (tl u).length = 2 * u.length := by
  induction u with
  | nil => rfl
  | cons b u ih => simp only [tl, List.flatMap_cons, List.length_append, List.length_cons, List.length_nil] at ih ⊢; omega
theorem tl_even : ∀ (u : List Bd) (i : Nat), (tl u)[2 * i]? = (u[i]?).map (fun b => varTm b.v)
  | [], i => by simp [tl]
  | b :: u, 0 => rfl
  | b :: u, i + 1 => by
    show (varTm b.v :: b.t :: tl u)[2 * (i + 1)]? = _
    rw [show 2 * (i + 1) = 2 * i + 1 + 1 by omega]
    simp only [List.getElem?_cons_succ]
    exact tl_even u i
theorem tl_odd : ∀ (u : List Bd) (i : Nat), (tl u)[2 * i + 1]? = (u[i]?).map (fun b => b.t)
  | [], i => by simp [tl]
  | b :: u, 0 => rfl
  | b :: u, i + 1 => by
    show (varTm b.v :: b.t :: tl u)[2 * (i + 1) + 1]? = _
    rw [show 2 * (i + 1) + 1 = 2 * i + 1 + 1 + 1 by omega]
    simp only [List.getElem?_cons_succ]
    exact tl_odd u i
theorem prs_tl (u : List Bd) : prs (tl u) u.length = u := by
  apply List.ext_getElem?
  intro i
  unfold prs
  by_cases h : i < u.length
  · have hx := List.getElem?_eq_getElem h
    rw [List.getElem?_map, List.getElem?_range h]
    show some (Bd.mk ((tl u).getD (2 * i) zeroTm).num ((tl u).getD (2 * i + 1) zeroTm)) = _
    rw [List.getD_eq_getElem?_getD, List.getD_eq_getElem?_getD, tl_even, tl_odd, hx]
    rfl
  · rw [List.getElem?_eq_none (by rw [List.length_map, List.length_range]; omega), List.getElem?_eq_none (by omega)]
theorem tl_text (u : List Bd) : (tl u).map Tm.text = bdWords u := by
  induction u with
  | nil => rfl
  | cons b u ih =>
    have e : (varTm b.v).text = ⟨#[63]⟩ ++ fmt b.v := by rw [text_leaf rfl, leafT1 rfl]; rfl
    show (varTm b.v).text :: b.t.text :: (tl u).map Tm.text = (⟨#[63]⟩ ++ fmt b.v) :: b.t.text :: bdWords u
    rw [ih, e]
theorem tl_ok {u : List Bd} (h : SubstP u) : ∀ t ∈ tl u, Ok t := by
  intro t ht
  obtain ⟨b, hb, hab⟩ := List.mem_flatMap.1 ht
  obtain ⟨i, hi⟩ := List.getElem?_of_mem hb
  obtain ⟨hv, hok⟩ := h.1.1 i b hi
  simp only [List.mem_cons, List.not_mem_nil, or_false] at hab
  rcases hab with rfl | rfl
  · exact varTm_ok hv
  · exact hok
theorem fs_tl {u : List Bd} (h : SubstP u) : fsB u = joinTo ((tl u).map Tm.text) spB (tl u).length := by
  rw [fs_yes h, tl_text, bdWords_length, tl_length]
/-- A substitution's text, if it is short, is read as the substitution. -/
theorem ps_fs {u : List Bd} (h : SubstP u) (hs : (fsB u).size ≤ 20000) : psL (fsB u) = u ∧ psB (fsB u) = true := by
  have hr : rdO (fsB u) = some (tl u) := by
    rw [fs_tl h] at hs ⊢
    exact rd_join (tl_ok h) hs
  have e2 : (tl u).length / 2 = u.length := by rw [tl_length]; omega
  have hp : PsP (fsB u) (tl u) := by
    refine ⟨hr, by rw [tl_length]; omega, fun i hi => ?_, by rw [e2, prs_tl]; exact h⟩
    rw [tl_length] at hi
    rw [List.getD_eq_getElem?_getD, tl_even, List.getElem?_eq_getElem (show i < u.length by omega)]
    rfl
  have h2 := ps_yes hp
  rw [e2, prs_tl] at h2
  exact h2
theorem bd_at {u : List Bd} (h : SubstP u) {i : Nat} {b : Bd} (hb : u[i]? = some b) : ((bdWords u).getD (2 * i) ⟨#[]⟩).size ≤ 22 ∧ ((bdWords u).getD (2 * i + 1) ⟨#[]⟩).size ≤ 40 * b.t.nodes := by
  obtain ⟨hv, hok⟩ := h.1.1 i b hb
  have h1 := (text_size b.t.nodes b.t (Nat.le_refl _) hok.2).1
  have h2 := fmt_len b.v (by omega) (by omega)
  have e : (varTm b.v).text = ⟨#[63]⟩ ++ fmt b.v := by rw [text_leaf rfl, leafT1 rfl]; rfl
  rw [← tl_text, List.getD_eq_getElem?_getD, List.getD_eq_getElem?_getD, List.getElem?_map, List.getElem?_map, tl_even, tl_odd, hb]
  refine ⟨?_, ?_⟩
  · show ((varTm b.v).text).size ≤ 22
    rw [e, ByteArray.size_append]
    show 1 + _ ≤ _
    omega
  · show b.t.text.size ≤ _
    omega
theorem words_sum {u : List Bd} (h : SubstP u) (m : Nat) (h9 : ∀ (i : Nat) b, u[i]? = some b → i < m → b.t.nodes ≤ 9) (h99 : ∀ b ∈ u, b.t.nodes ≤ 99) :
    ∀ i, i ≤ u.length → (i ≤ m → sumTo (bdWords u) (2 * i) ≤ 382 * i) ∧ (m ≤ i → sumTo (bdWords u) (2 * i) ≤ 382 * m + 3982 * (i - m)) := by
  intro i
  induction i with
  | zero => exact fun _ => ⟨fun _ => Nat.zero_le _, fun _ => Nat.zero_le _⟩
  | succ i ih =>
    intro hi
    obtain ⟨i1, i2⟩ := ih (by omega)
    have hx := List.getElem?_eq_getElem (show i < u.length by omega)
    generalize u[i]'(by omega) = b at hx
    obtain ⟨k1, k2⟩ := bd_at h hx
    have kb := h99 b (List.mem_of_getElem? hx)
    have e : sumTo (bdWords u) (2 * (i + 1)) = sumTo (bdWords u) (2 * i) + ((bdWords u).getD (2 * i) ⟨#[]⟩).size + ((bdWords u).getD (2 * i + 1) ⟨#[]⟩).size := by
      rw [show 2 * (i + 1) = 2 * i + 1 + 1 by omega, sumTo, sumTo]
    refine ⟨fun hm => ?_, fun hm => ?_⟩
    · have k9 := h9 i b hx (by omega)
      have := i1 (by omega)
      omega
    · by_cases hmi : i < m
      · have k9 := h9 i b hx hmi
        have := i1 (by omega)
        have : m = i + 1 := by omega
        subst this
        omega
      · have := i2 (by omega)
        omega
theorem getO_asc : ∀ {s : List Bd}, s.Pairwise (fun a b => a.v < b.v) → ∀ b ∈ s, getO s b.v = some b.t
  | [], _, b, hb => by cases hb
  | c :: s, h, b, hb => by
    obtain ⟨h1, h2⟩ := List.pairwise_cons.1 h
    rw [getO]
    rcases List.mem_cons.1 hb with rfl | hb
    · exact if_pos rfl
    · have := h1 b hb
      rw [if_neg (by omega)]
      exact getO_asc h2 b hb
section
variable {s t : List Bd} {r : Int} (hs : SubD 4 8 4 11 s) (ht : SubD r 4 r 9 t) (h0 : 0 ≤ r) (h4 : r < 4)
include hs ht h0 h4
theorem com_short : (fsB (cmpB s t)).size ≤ 20000 := by
  have hP := com_subst hs ht h0 h4
  have e := com_is hs ht h0 h4
  have ls := asc_len s 4 (by omega) hs.2 fun b hb => ⟨(hs.1 b hb).1, (hs.1 b hb).2.1⟩
  have lt := asc_len t r (by omega) ht.2 fun b hb => ⟨(ht.1 b hb).1, (ht.1 b hb).2.1⟩
  have hl : (cmpB s t).length = t.length + s.length := by rw [e, List.length_append, List.length_map]
  have key := words_sum hP t.length (fun i b hb hi => by
    rw [e, List.getElem?_append_left hi] at hb
    have := (ht.1 b (List.mem_of_getElem? hb)).2.2.2
    omega) (fun b hb => by
    rw [e, List.mem_append] at hb
    rcases hb with hb | hb
    · have := (ht.1 b hb).2.2.2
      omega
    · obtain ⟨x, hx, rfl⟩ := List.mem_map.1 hb
      exact com_nodes hs ht h0 h4 hx) (cmpB s t).length (Nat.le_refl _)
  have k2 := key.2 (by omega)
  have hj := joinTo_size (bdWords (cmpB s t)) spB (bdWords (cmpB s t)).length
  rw [fs_yes hP]
  have hsp : spB.size = 1 := rfl
  rw [bdWords_length, hsp] at hj
  rw [bdWords_length]
  omega
/-- The composition is written and read. -/
theorem com_text : psL (fsB (cmpB s t)) = cmpB s t ∧ psB (fsB (cmpB s t)) = true := ps_fs (com_subst hs ht h0 h4) (com_short hs ht h0 h4)
/-- What the law's calls give: the composition, the terms. -/
theorem com_said {x : Tm} (hx : Good x) (hn : (x.nodes : Int) ≤ 15) :
    (coL s t = cmpB s t ∧ coB s t = true) ∧ substB (cmpB s t) = true ∧ moreB s (cmpB s t) = true ∧
    (apT s x = putT s x ∧ apB s x = true) ∧ (apT t (putT s x) = putT t (putT s x) ∧ apB t (putT s x) = true) ∧ (apT (cmpB s t) x = putT t (putT s x) ∧ apB (cmpB s t) x = true) ∧
    Good (putT s x) ∧ (putT s x).nodes ≤ 200 ∧ Good (putT t (putT s x)) ∧ (putT t (putT s x)).nodes ≤ 5000 := by
  have hS := hs.subst (by omega) (by omega) (by omega) (by omega) (by omega)
  have hT := ht.subst h0 (by omega) (by omega) (by omega) (by omega)
  have hU := com_subst hs ht h0 h4
  have gs : ∀ c ∈ s, Good c.t := fun c hc => (hs.1 c hc).2.2.1.1
  have gt : ∀ c ∈ t, Good c.t := fun c hc => (ht.1 c hc).2.2.1.1
  have g1 := putT_good gs x.nodes x (Nat.le_refl _) hx
  have n1 := putT_nodes (s := s) (M := 11) (by omega) (fun c hc => by have := (hs.1 c hc).2.2.2; omega) x.nodes x (Nat.le_refl _) hx
  have n1' : (putT s x).nodes ≤ 200 := by omega
  have g2 := putT_good gt (putT s x).nodes (putT s x) (Nat.le_refl _) g1
  have n2 := putT_nodes (s := t) (M := 9) (by omega) (fun c hc => by have := (ht.1 c hc).2.2.2; omega) (putT s x).nodes (putT s x) (Nat.le_refl _) g1
  have n2' : (putT t (putT s x)).nodes ≤ 5000 := by omega
  have all := com_all hs ht h0 h4 hx
  have ox : Ok x := ⟨by omega, hx⟩
  have o1 : Ok (putT s x) := ⟨by omega, g1⟩
  refine ⟨co_yes (com_yes hs ht h0 h4), substB_true.2 hU, ?_, ap_yes ⟨hS, ox, by omega⟩, ap_yes ⟨hT, o1, n2'⟩, ?_, g1, n1', g2, n2'⟩
  · refine more_true.2 ⟨hS, hU, fun b hb => ?_⟩
    have hg := getO_asc hs.2 b hb
    obtain ⟨e1, e2⟩ := com_eqn hs ht h0 h4 hb hg
    have hbn : (putT t b.t).nodes ≤ 5000 := by have := com_nodes hs ht h0 h4 hb; omega
    exact ⟨by rw [e1]; exact hbn, by rw [e2]; exact hbn, by rw [e1, e2, cmp_self]; rfl⟩
  · rw [all]
    exact ap_yes ⟨hU, ox, by rw [← all]; exact n2'⟩
end
end Go.Proofs.YtnbnepeikdieaaaGreatDoor

