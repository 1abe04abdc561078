/-
  Demands passed on through a substitution, plain: joined in groups or one after the other, the answer is the same.
-/
import Derived.Test.YtnmdnajbafpfiaaDemH
import Derived.Test.YtnmdnajbafpfiaaVars
import Derived.Test.YtnmdnajbafpfiaaUnifT
namespace Go.Proofs.Ytnmdnajbafpfiaa
open Go.RowKit
set_option linter.unusedVariables false
set_option linter.unusedSimpArgs false

/-- What stands in a variable's place. -/
def tv (s : List Bd) (v : Int) : Tm := putT s (varTm v)
theorem tv_ok {s : List Bd} (hs : SubstP s) {v : Int} (hv : 0 ≤ v ∧ v ≤ 100000) : Ok (tv s v) ∧ (tv s v).sz ≤ 1048576 := by
  have hok : Ok (tv s v) := by
    unfold tv
    cases h : getO s v with
    | none =>
      rw [putT_free h]
      exact ⟨by rw [varTm, Tm.nodes, nodesL]; decide, .var v hv.1 hv.2⟩
    | some t =>
      rw [putT_of h]
      obtain ⟨b, hb, _, rfl⟩ := getO_some h
      exact ⟨hs.nodes b hb, hs.good b hb⟩
  refine ⟨hok, ?_⟩
  have := good_sz hok.2
  have := hok.1
  omega
theorem vars_asc {t : Tm} : (varsOf t).Pairwise (· < ·) := by
  unfold varsOf
  split
  · rw [show Lib.compact (sorted t.vl) = t.vl.foldl insAsc [] from (by rw [ins_is_compact]; rfl)]
    exact (insL_spec t.vl [] List.Pairwise.nil).1
  · exact List.Pairwise.nil

/-- A kind of demands. -/
structure DemT (α : Type) where
  O : KeyO α
  v : α → Int
  of : Int → α → α
  ok : α → Tm → Bool
  lt1 : ∀ (n m : Int) (a b : α), n < m → O.lt (of n a) (of m b) = true
  lt2 : ∀ (n : Int) (a b : α), O.lt a b = true → v a = v b → O.lt (of n a) (of n b) = true
def DemT.poL {α : Type} (D : DemT α) (l : List α) (vs : List Int) : List α := vs.flatMap fun v => l.map (D.of v)
noncomputable def DemT.po {α : Type} (D : DemT α) (l : List α) (t : Tm) : Option (List α) := if l.all (fun d => D.ok d t) = true then some (D.poL l (varsOf t)) else none
theorem poL_mem {α : Type} {D : DemT α} {l : List α} {vs : List Int} {z : α} : z ∈ D.poL l vs ↔ ∃ v ∈ vs, ∃ d ∈ l, D.of v d = z := by
  unfold DemT.poL
  rw [List.mem_flatMap]
  constructor
  · rintro ⟨v, hv, hz⟩
    obtain ⟨d, hd, rfl⟩ := List.mem_map.1 hz
    exact ⟨v, hv, d, hd, rfl⟩
  · rintro ⟨v, hv, d, hd, rfl⟩
    exact ⟨v, hv, List.mem_map.2 ⟨d, hd, rfl⟩⟩
theorem poL_asc {α : Type} {D : DemT α} {l : List α} (hl : AscO D.O l) (hc : ∀ x ∈ l, ∀ y ∈ l, D.v x = D.v y) : ∀ {vs : List Int}, vs.Pairwise (· < ·) → AscO D.O (D.poL l vs)
  | [], _ => List.Pairwise.nil
  | v :: vs, h => by
    obtain ⟨h1, h2⟩ := List.pairwise_cons.1 h
    have hr := poL_asc hl hc h2
    have he : D.poL l (v :: vs) = l.map (D.of v) ++ D.poL l vs := by unfold DemT.poL; rw [List.flatMap_cons]
    unfold AscO
    rw [he]
    refine List.pairwise_append.2 ⟨?_, hr, fun a ha b hb => ?_⟩
    · rw [List.pairwise_map]
      exact hl.imp_of_mem fun {a b} ha hb hab => D.lt2 v a b hab (hc a ha b hb)
    · obtain ⟨d, hd, rfl⟩ := List.mem_map.1 ha
      obtain ⟨u, hu, d', hd', rfl⟩ := poL_mem.1 hb
      exact D.lt1 v u d d' (h1 u hu)
theorem po_some {α : Type} {D : DemT α} {l : List α} {t : Tm} {M : List α} (h : D.po l t = some M) : (∀ x ∈ l, D.ok x t = true) ∧ M = D.poL l (varsOf t) := by
  unfold DemT.po at h
  split at h
  · rename_i ha
    cases h
    exact ⟨List.all_eq_true.1 ha, rfl⟩
  · cases h
theorem po_all {α : Type} {D : DemT α} {l : List α} {t : Tm} (h : ∀ x ∈ l, D.ok x t = true) : D.po l t = some (D.poL l (varsOf t)) := if_pos (List.all_eq_true.2 h)
theorem po_none {α : Type} {D : DemT α} {l : List α} {t : Tm} (h : D.po l t = none) : ∃ x ∈ l, D.ok x t = false := by
  refine Classical.byContradiction fun hn => ?_
  rw [po_all fun x hx => by
    cases e : D.ok x t with
    | true => rfl
    | false => exact absurd ⟨x, hx, e⟩ hn] at h
  cases h
theorem fits_congr {α : Type} {O : KeyO α} {Ls Ms : List (List α)} (h : ∀ x, InL Ls x ↔ InL Ms x) : Fits O Ls ↔ Fits O Ms :=
  ⟨fun hf a b ha hb => hf a b ((h a).2 ha) ((h b).2 hb), fun hf a b ha hb => hf a b ((h a).1 ha) ((h b).1 hb)⟩
theorem allJ_same {α : Type} {O : KeyO α} {n m : Nat} {Ls Ms : List (List α)} (hn : Ls.length ≤ n) (hm : Ms.length ≤ m) (ha : ∀ l ∈ Ls, AscO O l) (hb : ∀ l ∈ Ms, AscO O l) (h : ∀ x, InL Ls x ↔ InL Ms x) : allJ O n Ls = allJ O m Ms := by
  cases h1 : allJ O n Ls with
  | none => exact ((allJ_no hm hb).2 fun hf => (allJ_no hn ha).1 h1 ((fits_congr h).2 hf)).symm
  | some r =>
    cases h2 : allJ O m Ms with
    | none =>
      have := (allJ_no hn ha).2 fun hf => (allJ_no hm hb).1 h2 ((fits_congr h).1 hf)
      rw [h1] at this
      cases this
    | some q =>
      obtain ⟨a1, a2⟩ := allJ_yes hn ha h1
      obtain ⟨b1, b2⟩ := allJ_yes hm hb h2
      rw [ascO_ext a1 b1 fun x => by rw [a2, b2, h]]

/-- What each demand alone passes on. -/
noncomputable def DemT.one {α : Type} (D : DemT α) (s : List Bd) (d : α) : List α := D.poL [d] (varsOf (tv s (D.v d)))
theorem one_asc {α : Type} (D : DemT α) (s : List Bd) (d : α) : AscO D.O (D.one s d) :=
  poL_asc (List.pairwise_singleton _ _) (fun x hx y hy => by rw [List.mem_singleton] at hx hy; rw [hx, hy]) vars_asc
/-- All demands passed on. -/
noncomputable def DemT.rf {α : Type} (D : DemT α) (s : List Bd) (l : List α) : Option (List α) :=
  if l.all (fun d => D.ok d (tv s (D.v d))) = true then allJ D.O l.length (l.map (D.one s)) else none
theorem rf_fail {α : Type} {D : DemT α} {s : List Bd} {l : List α} {G : List (List α)} (hG1 : ∀ L ∈ G, L ≠ [] ∧ ∃ v, ∀ x ∈ L, D.v x = v) (hG2 : G.flatten = l) {L : List α} {x : α} (hL : L ∈ G) (hx : L[0]? = some x) (h : D.po L (tv s (D.v x)) = none) : D.rf s l = none := by
  obtain ⟨y, hy, hf⟩ := po_none h
  obtain ⟨_, v, hv⟩ := hG1 L hL
  refine if_neg fun ha => ?_
  have h1 := List.all_eq_true.1 ha y (by rw [← hG2]; exact List.mem_flatten.2 ⟨L, hL, hy⟩)
  rw [hv y hy, ← hv x (List.mem_of_getElem? hx), hf] at h1
  cases h1
theorem rf_groups {α : Type} {D : DemT α} {s : List Bd} {l : List α} {G Ls : List (List α)} (hl : AscO D.O l) (hG1 : ∀ L ∈ G, L ≠ [] ∧ ∃ v, ∀ x ∈ L, D.v x = v) (hG2 : G.flatten = l) (hLs : Ls.length = G.length)
    (hE : ∀ (i : Nat) (L M : List α) (x : α), G[i]? = some L → Ls[i]? = some M → L[0]? = some x → D.po L (tv s (D.v x)) = some M) : D.rf s l = allJ D.O Ls.length Ls := by
  have get : ∀ L ∈ G, ∃ M ∈ Ls, ∃ x, L[0]? = some x ∧ (∀ y ∈ L, D.v y = D.v x) ∧ D.po L (tv s (D.v x)) = some M := by
    intro L hL
    obtain ⟨i, hi⟩ := List.getElem?_of_mem hL
    obtain ⟨hne, v, hv⟩ := hG1 L hL
    obtain ⟨x, hx⟩ : ∃ x, L[0]? = some x := ⟨_, List.getElem?_eq_getElem (List.length_pos_iff.2 hne)⟩
    have hil := (List.getElem?_eq_some_iff.1 hi).1
    obtain ⟨M, hM⟩ : ∃ M, Ls[i]? = some M := ⟨_, List.getElem?_eq_getElem (by omega)⟩
    exact ⟨M, List.mem_of_getElem? hM, x, hx, fun y hy => by rw [hv y hy, hv x (List.mem_of_getElem? hx)], hE i L M x hi hM hx⟩
  have back : ∀ M ∈ Ls, ∃ L ∈ G, ∃ x, L[0]? = some x ∧ (∀ y ∈ L, D.v y = D.v x) ∧ D.po L (tv s (D.v x)) = some M := by
    intro M hM
    obtain ⟨i, hi⟩ := List.getElem?_of_mem hM
    have hil := (List.getElem?_eq_some_iff.1 hi).1
    obtain ⟨L, hL⟩ : ∃ L, G[i]? = some L := ⟨_, List.getElem?_eq_getElem (by omega)⟩
    obtain ⟨hne, v, hv⟩ := hG1 L (List.mem_of_getElem? hL)
    obtain ⟨x, hx⟩ : ∃ x, L[0]? = some x := ⟨_, List.getElem?_eq_getElem (List.length_pos_iff.2 hne)⟩
    exact ⟨L, List.mem_of_getElem? hL, x, hx, fun y hy => by rw [hv y hy, hv x (List.mem_of_getElem? hx)], hE i L M x hL hi hx⟩
  have hall : l.all (fun d => D.ok d (tv s (D.v d))) = true := List.all_eq_true.2 fun y hy => by
    rw [← hG2] at hy
    obtain ⟨L, hL, hyL⟩ := List.mem_flatten.1 hy
    obtain ⟨M, _, x, _, hv, hp⟩ := get L hL
    rw [hv y hyL]
    exact (po_some hp).1 y hyL
  rw [DemT.rf, if_pos hall]
  refine allJ_same (by rw [List.length_map]; exact Nat.le_refl _) (Nat.le_refl _) (fun m hm => ?_) (fun M hM => ?_) fun z => ?_
  · obtain ⟨d, _, rfl⟩ := List.mem_map.1 hm
    exact one_asc D s d
  · obtain ⟨L, hL, x, _, hv, hp⟩ := back M hM
    rw [(po_some hp).2]
    refine poL_asc (List.Pairwise.sublist (by rw [← hG2]; exact List.sublist_flatten_of_mem hL) hl) (fun a ha b hb => by rw [hv a ha, hv b hb]) vars_asc
  · constructor
    · rintro ⟨m, hm, hz⟩
      obtain ⟨d, hd, rfl⟩ := List.mem_map.1 hm
      obtain ⟨v, hv, d', hd', rfl⟩ := poL_mem.1 hz
      rw [List.mem_singleton] at hd'
      subst hd'
      rw [← hG2] at hd
      obtain ⟨L, hL, hdL⟩ := List.mem_flatten.1 hd
      obtain ⟨M, hM, x, _, hvx, hp⟩ := get L hL
      refine ⟨M, hM, ?_⟩
      rw [(po_some hp).2]
      rw [hvx d' hdL] at hv
      exact poL_mem.2 ⟨v, hv, d', hdL, rfl⟩
    · rintro ⟨M, hM, hz⟩
      obtain ⟨L, hL, x, _, hvx, hp⟩ := back M hM
      rw [(po_some hp).2] at hz
      obtain ⟨v, hv, d, hd, rfl⟩ := poL_mem.1 hz
      have hdl : d ∈ l := by rw [← hG2]; exact List.mem_flatten.2 ⟨L, hL, hd⟩
      refine ⟨D.one s d, List.mem_map.2 ⟨d, hdl, rfl⟩, poL_mem.2 ⟨v, ?_, d, List.mem_singleton.2 rfl, rfl⟩⟩
      rw [hvx d hd]
      exact hv

/-! ### One after the other -/
noncomputable def DemT.fold {α : Type} (D : DemT α) (s : List Bd) : List α → List α → Option (List α)
  | [], acc => some acc
  | x :: l, acc => ((D.po [x] (tv s (D.v x))).bind (jn D.O acc)).bind (D.fold s l)
theorem inL_cons {α : Type} {m : List α} {ls : List (List α)} {z : α} : InL (m :: ls) z ↔ z ∈ m ∨ InL ls z := by
  constructor
  · rintro ⟨l, hl, hz⟩
    rcases List.mem_cons.1 hl with rfl | hl
    · exact .inl hz
    · exact .inr ⟨l, hl, hz⟩
  · rintro (hz | ⟨l, hl, hz⟩)
    · exact ⟨m, List.mem_cons_self .., hz⟩
    · exact ⟨l, List.mem_cons_of_mem _ hl, hz⟩
theorem fold_spec {α : Type} (D : DemT α) (s : List Bd) : ∀ (l acc : List α), AscO D.O acc →
    (∀ r, D.fold s l acc = some r → (∀ x ∈ l, D.ok x (tv s (D.v x)) = true) ∧ AscO D.O r ∧ ∀ z, z ∈ r ↔ z ∈ acc ∨ InL (l.map (D.one s)) z) ∧
    (D.fold s l acc = none ↔ (¬ ∀ x ∈ l, D.ok x (tv s (D.v x)) = true) ∨ ¬ Fits D.O (acc :: l.map (D.one s)))
  | [], acc, ha => by
    refine ⟨fun r h => ?_, ?_⟩
    · rw [DemT.fold] at h; cases h
      exact ⟨fun x hx => by simp at hx, ha, fun z => ⟨.inl, fun h => h.elim id fun ⟨_, hl, _⟩ => by simp at hl⟩⟩
    · rw [DemT.fold]
      refine ⟨fun h => by (cases h), fun h => ?_⟩
      rcases h with h | h
      · exact absurd (fun x hx => by simp at hx) h
      · refine absurd (fun a b h1 h2 => ?_) h
        have e : ∀ z, InL (acc :: ([] : List α).map (D.one s)) z → z ∈ acc := fun z hz => (inL_cons.1 hz).elim id fun ⟨_, hl, _⟩ => by simp at hl
        exact ha.no_clash a (e a h1) b (e b h2)
  | x :: l, acc, ha => by
    cases hok : D.ok x (tv s (D.v x)) with
    | false =>
      have hp : D.po [x] (tv s (D.v x)) = none := if_neg (by simp [hok])
      have hf : D.fold s (x :: l) acc = none := by rw [DemT.fold, hp]; rfl
      rw [hf]
      exact ⟨fun r h => by (cases h), ⟨fun _ => .inl fun h => (by have := h x (List.mem_cons_self ..); rw [hok] at this; cases this), fun _ => rfl⟩⟩
    | true =>
      have hp : D.po [x] (tv s (D.v x)) = some (D.one s x) := po_all fun y hy => by rw [List.mem_singleton] at hy; subst hy; exact hok
      have hone := one_asc D s x
      cases hj : jn D.O acc (D.one s x) with
      | none =>
        have hf : D.fold s (x :: l) acc = none := by rw [DemT.fold, hp]; show (jn D.O acc (D.one s x)).bind _ = none; rw [hj]; rfl
        rw [hf]
        refine ⟨fun r h => by (cases h), ⟨fun _ => .inr fun hfit => ?_, fun _ => rfl⟩⟩
        obtain ⟨a, h1, b, h2, hc⟩ := (jn_no ha hone).1 hj
        exact hfit a b (inL_cons.2 (.inl h1)) (inL_cons.2 (.inr ⟨_, List.mem_cons_self .., h2⟩)) hc
      | some acc' =>
        have hf : D.fold s (x :: l) acc = D.fold s l acc' := by rw [DemT.fold, hp]; show (jn D.O acc (D.one s x)).bind _ = _; rw [hj]; rfl
        obtain ⟨s1, s2⟩ := jn_yes ha hone hj
        obtain ⟨i1, i2⟩ := fold_spec D s l acc' s1
        rw [hf]
        have hin : ∀ z, InL (acc' :: l.map (D.one s)) z ↔ InL (acc :: (x :: l).map (D.one s)) z := fun z => by
          rw [inL_cons, inL_cons, List.map_cons, inL_cons, s2, or_assoc]
        refine ⟨fun r h => ?_, ?_⟩
        · obtain ⟨a1, a2, a3⟩ := i1 r h
          refine ⟨fun y hy => ?_, a2, fun z => ?_⟩
          · rcases List.mem_cons.1 hy with rfl | hy
            · exact hok
            · exact a1 y hy
          · rw [a3, s2, List.map_cons, inL_cons, or_assoc]
        · rw [i2, fits_congr hin]
          constructor
          · rintro (h | h)
            · exact .inl fun hall => h fun y hy => hall y (List.mem_cons_of_mem _ hy)
            · exact .inr h
          · rintro (h | h)
            · refine .inl fun hall => h fun y hy => ?_
              rcases List.mem_cons.1 hy with rfl | hy
              · exact hok
              · exact hall y hy
            · exact .inr h
theorem fold_rf {α : Type} (D : DemT α) (s : List Bd) (l : List α) : D.fold s l [] = D.rf s l := by
  have hone : ∀ m ∈ l.map (D.one s), AscO D.O m := fun m hm => by
    obtain ⟨d, _, rfl⟩ := List.mem_map.1 hm
    exact one_asc D s d
  have hlen : (l.map (D.one s)).length ≤ l.length := by rw [List.length_map]; exact Nat.le_refl _
  have hin : ∀ z, InL ([] :: l.map (D.one s)) z ↔ InL (l.map (D.one s)) z := fun z => by rw [inL_cons]; simp
  obtain ⟨f1, f2⟩ := fold_spec D s l [] List.Pairwise.nil
  cases h : D.fold s l [] with
  | none =>
    rcases f2.1 h with hn | hn
    · exact (if_neg fun ha => hn (List.all_eq_true.1 ha)).symm
    · unfold DemT.rf
      split
      · exact ((allJ_no hlen hone).2 fun hf => hn ((fits_congr hin).2 hf)).symm
      · rfl
  | some r =>
    obtain ⟨a1, a2, a3⟩ := f1 r h
    rw [DemT.rf, if_pos (List.all_eq_true.2 a1)]
    cases h2 : allJ D.O l.length (l.map (D.one s)) with
    | none =>
      have := f2.2 (.inr fun hf => (allJ_no hlen hone).1 h2 ((fits_congr hin).1 hf))
      rw [h] at this
      cases this
    | some q =>
      obtain ⟨b1, b2⟩ := allJ_yes hlen hone h2
      rw [ascO_ext a2 b1 fun z => by rw [a3, b2]; simp]
end Go.Proofs.Ytnmdnajbafpfiaa

