/-
  Demands and the values that bear them out, plain: passing on, joining and refreshing keep what a list of demands says of values that solve the substitution.
-/
import Derived.Test.YtnmdnajbafpfiaaDemR
import Derived.Test.YtnmdnajbafpfiaaSolved
namespace Go.Proofs.Ytnmdnajbafpfiaa
open Go.RowKit
set_option linter.unusedVariables false
set_option linter.unusedSimpArgs false

theorem mem_vars {t : Tm} (h : Ok t) {v : Int} : v ∈ varsOf t ↔ v ∈ t.vl := by
  rw [varsOf, if_pos h, show Lib.compact (sorted t.vl) = t.vl.foldl insAsc [] from (by rw [ins_is_compact]; rfl), (insL_spec t.vl [] List.Pairwise.nil).2]
  simp
theorem vars_one (v : Int) (h : Ok (varTm v)) : varsOf (varTm v) = [v] := by
  rw [varsOf, if_pos h, show Lib.compact (sorted (varTm v).vl) = (varTm v).vl.foldl insAsc [] from (by rw [ins_is_compact]; rfl), show (varTm v).vl = [v] from vl_of_var rfl]
  rfl

/-! ### Values that solve a drawn substitution -/
theorem good_vl0 {t : Tm} (h : Good t) : ∀ v ∈ t.vl, 0 ≤ v ∧ v ≤ 100000 := by
  induction h with
  | nil => intro v hv; simp [Tm.vl, vlL] at hv
  | sym s hs => intro v hv; simp [Tm.vl, vlL] at hv
  | int i _ _ => intro v hv; simp [Tm.vl, vlL] at hv
  | var i h0 h1 => intro v hv; rw [show (Tm.mk 1 i ⟨#[]⟩ []).vl = [i] from vl_of_var rfl, List.mem_singleton] at hv; subst hv; exact ⟨h0, h1⟩
  | pair a b _ _ iha ihb => intro v hv; rw [vl_pair, List.mem_append] at hv; exact hv.elim (iha v) (ihb v)
theorem putT_eq {f g : List Bd} {x : Tm} (h : Good x) (hv : ∀ v ∈ x.vl, putT f (varTm v) = putT g (varTm v)) : putT f x = putT g x := by
  have h1 := putT_comp (s := []) (t := f) (u := g) h (fun v hm => by rw [show putT [] (varTm v) = varTm v from putT_free rfl]; exact hv v hm)
  rwa [putT_same h (fun v _ => rfl)] at h1
/-- What is asked of a substitution and of values: eight values, ground and small, that solve it; what it puts in a place of the eight fits, and its variables are free. -/
structure SolvedP (s g : List Bd) : Prop where
  sub : SubstP s
  len : g.length = 8
  good : ∀ b ∈ g, Good b.t ∧ b.t.nodes ≤ 33
  small : ∀ b ∈ s, b.t.nodes ≤ 11
  val : ∀ v : Int, 0 ≤ v → v < 8 → Good (putT g (varTm v)) ∧ (putT g (varTm v)).vl = [] ∧ (putT g (varTm v)).nodes ≤ 33
  hold : ∀ v : Int, 0 ≤ v → v < 8 → putT g (tv s v) = putT g (varTm v)
  fit : ∀ v : Int, 0 ≤ v → v < 8 → Ok (tv s v) ∧ (tv s v).nodes ≤ 11 ∧ ∀ u ∈ (tv s v).vl, (0 ≤ u ∧ u < 8) ∧ getO s u = none
theorem solved_of {s f : List Bd} (hs : SubD 4 8 4 11 s) (hf : GroundP 8 f) : SolvedP s (svL s f) := by
  have hsp : SubstP s := hs.subst (by decide) (by decide) (by decide) (by decide) (by decide)
  have hfree : ∀ u : Int, u < 4 → getO s u = none := fun u hu => getO_none.2 fun b hb e => by have := (hs.1 b hb).1; omega
  have hfit : ∀ v : Int, 0 ≤ v → v < 8 → Ok (tv s v) ∧ (tv s v).nodes ≤ 11 ∧ ∀ u ∈ (tv s v).vl, (0 ≤ u ∧ u < 8) ∧ getO s u = none := by
    intro v h0 h1
    refine ⟨(tv_ok hsp ⟨h0, by omega⟩).1, ?_⟩
    unfold tv
    cases hg : getO s v with
    | none =>
      rw [putT_free hg]
      refine ⟨by rw [varTm, Tm.nodes, nodesL]; decide, fun u hu => ?_⟩
      rw [show (varTm v).vl = [v] from vl_of_var rfl, List.mem_singleton] at hu
      subst hu
      exact ⟨⟨h0, h1⟩, hg⟩
    | some t =>
      rw [putT_of hg]
      obtain ⟨b, hb, _, rfl⟩ := getO_some hg
      have hb1 := (hs.1 b hb).2.2
      refine ⟨by have := hb1.2; omega, fun u hu => ?_⟩
      have h4 := hb1.1.2 u hu
      have h5 := good_vl0 hb1.1.1 u hu
      exact ⟨⟨h5.1, by omega⟩, hfree u h4⟩
  have hasc : (svL s f).Pairwise (fun a b => a.v < b.v) := by
    unfold svL
    rw [List.pairwise_map]
    exact hf.asc
  have hval : ∀ v : Int, 0 ≤ v → v < 8 → putT (svL s f) (varTm v) = putT f (tv s v) := by
    intro v h0 h1
    obtain ⟨b, hb, hgb⟩ := ground_get hf ⟨h0, h1⟩
    have hbv : b.v = v := by have := (hf.2 _ b hb).1; omega
    have hm : svB s f b ∈ svL s f := List.mem_map.2 ⟨b, List.mem_of_getElem? hb, rfl⟩
    have h2 := get_asc hasc _ hm
    rw [show (svB s f b).v = v from hbv] at h2
    rw [putT_of h2]
    unfold svB tv
    simp only
    rw [hbv]
    cases hg : getO s v with
    | none => simp only; rw [putT_free hg, putT_of hgb]
    | some t => simp only; rw [putT_of hg]
  have hvv : ∀ v : Int, 0 ≤ v → v < 8 → Good (putT (svL s f) (varTm v)) ∧ (putT (svL s f) (varTm v)).vl = [] ∧ (putT (svL s f) (varTm v)).nodes ≤ 33 := by
    intro v h0 h1
    rw [hval v h0 h1]
    obtain ⟨hok, hn, hu⟩ := hfit v h0 h1
    obtain ⟨p1, p2⟩ := ground_put hf hok.2
    refine ⟨p1, ?_, by omega⟩
    rw [List.eq_nil_iff_forall_not_mem]
    intro u hm
    rcases putT_vl hok.2 u hm with ⟨hv, hnone⟩ | ⟨x, hx, y, hy, hyu⟩
    · obtain ⟨b, _, hgb⟩ := ground_get hf (hu u hv).1
      rw [hgb] at hnone
      cases hnone
    · obtain ⟨b, hb, _, rfl⟩ := getO_some hy
      have := (hf.mem b hb).2.2.1
      rw [this] at hyu
      cases hyu
  refine ⟨hsp, (List.length_map ..).trans hf.1, ?_, fun b hb => by have := (hs.1 b hb).2.2.2; omega, hvv, ?_, hfit⟩
  · intro b hb
    unfold svL at hb
    obtain ⟨c, hc, rfl⟩ := List.mem_map.1 hb
    have hc1 := hf.mem c hc
    have h2 := hvv c.v hc1.1.1 (by have := hc1.1.2; omega)
    have h3 := get_asc hasc _ (List.mem_map.2 ⟨c, hc, rfl⟩ : svB s f c ∈ svL s f)
    rw [show (svB s f c).v = c.v from rfl] at h3
    rw [putT_of h3] at h2
    exact ⟨h2.1, h2.2.2⟩
  · intro v h0 h1
    obtain ⟨hok, hn, hu⟩ := hfit v h0 h1
    rw [hval v h0 h1]
    refine putT_eq hok.2 fun u hm => ?_
    have h2 := hu u hm
    rw [hval u h2.1.1 h2.1.2, show tv s u = varTm u from putT_free h2.2]
theorem SolvedP.put {s g : List Bd} (h : SolvedP s g) {t : Tm} (ht : Good t) (hv : ∀ v ∈ t.vl, v < 8) : putT g (putT s t) = putT g t :=
  putT_comp ht fun v hm => h.hold v (good_vl0 ht v hm).1 (hv v hm)

/-! ### Demands -/
/-- The values bear out all demands. -/
def DemT.sat {α : Type} (D : DemT α) (g : List Bd) (l : List α) : Prop := ∀ d ∈ l, D.ok d (putT g (varTm (D.v d))) = true
/-- What a kind of demands bears out. -/
structure Sound {α : Type} (D : DemT α) (F : α → Prop) (g : List Bd) : Prop where
  okput : ∀ d t, F d → Good t → (∀ v ∈ t.vl, 0 ≤ v ∧ v < 8) → (D.ok d (putT g t) = true ↔ D.ok d t = true ∧ ∀ v ∈ t.vl, D.ok d (putT g (varTm v)) = true)
  okvar : ∀ d v, D.ok d (varTm v) = true
  ofok : ∀ v d t, D.ok (D.of v d) t = D.ok d t
  ofv : ∀ v d, D.v (D.of v d) = v
  ofself : ∀ d, D.of (D.v d) d = d
  fv : ∀ d, F d → 0 ≤ D.v d ∧ D.v d < 8
  fof : ∀ v d, F d → 0 ≤ v → v < 8 → F (D.of v d)
  clash : ∀ a b, F a → F b → Clash D.O a b → ¬ (D.ok a (putT g (varTm (D.v a))) = true ∧ D.ok b (putT g (varTm (D.v b))) = true)
theorem po_sat {α : Type} {D : DemT α} {F : α → Prop} {g : List Bd} (S : Sound D F g) {d : α} {t : Tm} (hd : F d) (ht : Ok t) (hv : ∀ v ∈ t.vl, 0 ≤ v ∧ v < 8) :
    (D.po [d] t = none → ¬ D.ok d (putT g t) = true) ∧ (∀ M, D.po [d] t = some M → (D.sat g M ↔ D.ok d (putT g t) = true) ∧ AscO D.O M ∧ (∀ x ∈ M, F x) ∧ ∀ x, x ∈ M ↔ ∃ v ∈ t.vl, D.of v d = x) := by
  refine ⟨fun h hp => ?_, fun M h => ?_⟩
  · obtain ⟨x, hx, hf⟩ := po_none h
    rw [List.mem_singleton] at hx
    subst hx
    rw [((S.okput _ t hd ht.2 hv).1 hp).1] at hf
    cases hf
  · obtain ⟨h1, rfl⟩ := po_some h
    have hok := h1 d (List.mem_singleton.2 rfl)
    have hmem : ∀ x, x ∈ D.poL [d] (varsOf t) ↔ ∃ v ∈ t.vl, D.of v d = x := by
      intro x
      rw [poL_mem]
      constructor
      · rintro ⟨v, hv, e, he, hx⟩
        rw [List.mem_singleton] at he
        subst he
        exact ⟨v, (mem_vars ht).1 hv, hx⟩
      · rintro ⟨v, hv, hx⟩
        exact ⟨v, (mem_vars ht).2 hv, d, List.mem_singleton.2 rfl, hx⟩
    refine ⟨?_, poL_asc (List.pairwise_singleton _ _) (fun x hx y hy => by rw [List.mem_singleton] at hx hy; rw [hx, hy]) vars_asc, fun x hx => ?_, hmem⟩
    · rw [S.okput d t hd ht.2 hv]
      constructor
      · intro hs
        refine ⟨hok, fun v hm => ?_⟩
        have := hs _ ((hmem _).2 ⟨v, hm, rfl⟩)
        rwa [S.ofok, S.ofv] at this
      · rintro ⟨_, hs⟩ x hx
        obtain ⟨v, hm, rfl⟩ := (hmem x).1 hx
        rw [S.ofok, S.ofv]
        exact hs v hm
    · obtain ⟨v, hm, rfl⟩ := (hmem x).1 hx
      exact S.fof v d hd (hv v hm).1 (hv v hm).2
theorem sat_clash {α : Type} {D : DemT α} {F : α → Prop} {g : List Bd} (S : Sound D F g) {Ls : List (List α)} (hF : ∀ x, InL Ls x → F x) (hs : ∀ x, InL Ls x → D.ok x (putT g (varTm (D.v x))) = true) : Fits D.O Ls :=
  fun a b ha hb hc => S.clash a b (hF a ha) (hF b hb) hc ⟨hs a ha, hs b hb⟩
theorem rf_sat {α : Type} {D : DemT α} {F : α → Prop} {s g : List Bd} (S : Sound D F g) (hg : SolvedP s g) {l : List α} (hF : ∀ d ∈ l, F d) :
    (D.rf s l = none → ¬ D.sat g l) ∧ (∀ m, D.rf s l = some m → (D.sat g m ↔ D.sat g l) ∧ AscO D.O m ∧ (∀ x ∈ m, F x) ∧ ∀ x ∈ m, getO s (D.v x) = none) := by
  have hfit : ∀ d ∈ l, Ok (tv s (D.v d)) ∧ (∀ u ∈ (tv s (D.v d)).vl, (0 ≤ u ∧ u < 8) ∧ getO s u = none) := fun d hd =>
    ⟨(hg.fit _ (S.fv d (hF d hd)).1 (S.fv d (hF d hd)).2).1, (hg.fit _ (S.fv d (hF d hd)).1 (S.fv d (hF d hd)).2).2.2⟩
  have hput : ∀ d ∈ l, putT g (tv s (D.v d)) = putT g (varTm (D.v d)) := fun d hd => hg.hold _ (S.fv d (hF d hd)).1 (S.fv d (hF d hd)).2
  have hpo : ∀ d ∈ l, _ := fun d hd => po_sat S (hF d hd) (hfit d hd).1 (fun v hv => ((hfit d hd).2 v hv).1)
  have hone : ∀ d ∈ l, D.ok d (tv s (D.v d)) = true → D.po [d] (tv s (D.v d)) = some (D.one s d) := fun d hd h => po_all fun x hx => by rw [List.mem_singleton] at hx; subst hx; exact h
  unfold DemT.rf
  by_cases ha : l.all (fun d => D.ok d (tv s (D.v d))) = true
  · rw [if_pos ha]
    have hall : ∀ d ∈ l, D.ok d (tv s (D.v d)) = true := List.all_eq_true.1 ha
    have hin : ∀ x, InL (l.map (D.one s)) x ↔ ∃ d ∈ l, x ∈ D.one s d := fun x => ⟨fun ⟨L, hL, hx⟩ => by
      obtain ⟨d, hd, rfl⟩ := List.mem_map.1 hL
      exact ⟨d, hd, hx⟩, fun ⟨d, hd, hx⟩ => ⟨_, List.mem_map.2 ⟨d, hd, rfl⟩, hx⟩⟩
    have hasc : ∀ L ∈ l.map (D.one s), AscO D.O L := fun L hL => by
      obtain ⟨d, hd, rfl⟩ := List.mem_map.1 hL
      exact one_asc D s d
    have hln : (l.map (D.one s)).length ≤ l.length := Nat.le_of_eq (List.length_map ..)
    have hFI : ∀ x, InL (l.map (D.one s)) x → F x := fun x hx => by
      obtain ⟨d, hd, hm⟩ := (hin x).1 hx
      exact ((hpo d hd).2 _ (hone d hd (hall d hd))).2.2.1 x hm
    have hsI : D.sat g l → ∀ x, InL (l.map (D.one s)) x → D.ok x (putT g (varTm (D.v x))) = true := fun hs x hx => by
      obtain ⟨d, hd, hm⟩ := (hin x).1 hx
      exact (((hpo d hd).2 _ (hone d hd (hall d hd))).1.2 (by rw [hput d hd]; exact hs d hd)) x hm
    refine ⟨fun h hs => ((allJ_no hln hasc).1 h) (sat_clash S hFI (hsI hs)), fun m h => ?_⟩
    obtain ⟨a1, a2⟩ := allJ_yes hln hasc h
    refine ⟨⟨fun hs d hd => ?_, fun hs x hx => hsI hs x ((a2 x).1 hx)⟩, a1, fun x hx => hFI x ((a2 x).1 hx), fun x hx => ?_⟩
    · rw [← hput d hd]
      exact ((hpo d hd).2 _ (hone d hd (hall d hd))).1.1 fun x hx => hs x ((a2 x).2 ((hin x).2 ⟨d, hd, hx⟩))
    · obtain ⟨d, hd, hm⟩ := (hin x).1 ((a2 x).1 hx)
      obtain ⟨v, hv, rfl⟩ := (((hpo d hd).2 _ (hone d hd (hall d hd))).2.2.2 x).1 hm
      rw [S.ofv]
      exact ((hfit d hd).2 v hv).2
  · rw [if_neg ha]
    refine ⟨fun _ hs => ha (List.all_eq_true.2 fun d hd => ?_), fun m h => by cases h⟩
    have h1 := hs d hd
    rw [← hput d hd] at h1
    exact ((S.okput d _ (hF d hd) (hfit d hd).1.2 fun v hv => ((hfit d hd).2 v hv).1).1 h1).1
/-- What is up to date stays. -/
theorem rf_again {α : Type} {D : DemT α} {F : α → Prop} {s g : List Bd} (S : Sound D F g) {m : List α} (hA : AscO D.O m) (hF : ∀ d ∈ m, F d) (hn : ∀ d ∈ m, getO s (D.v d) = none) : D.rf s m = some m := by
  have htv : ∀ d ∈ m, tv s (D.v d) = varTm (D.v d) := fun d hd => putT_free (hn d hd)
  have hok : ∀ d ∈ m, Ok (varTm (D.v d)) := fun d hd => ⟨by rw [varTm, Tm.nodes, nodesL]; decide, .var _ (S.fv d (hF d hd)).1 (by have := (S.fv d (hF d hd)).2; omega)⟩
  have hone : ∀ d ∈ m, D.one s d = [d] := fun d hd => by
    unfold DemT.one
    rw [htv d hd, vars_one _ (hok d hd)]
    unfold DemT.poL
    rw [List.flatMap_cons, List.flatMap_nil, List.append_nil, List.map_cons, List.map_nil, S.ofself]
  have hm : m.map (D.one s) = m.map (fun d => [d]) := List.map_congr_left hone
  unfold DemT.rf
  rw [if_pos (List.all_eq_true.2 fun d hd => by rw [htv d hd]; exact S.okvar d _), hm]
  have hin : ∀ x, InL (m.map fun d => [d]) x ↔ x ∈ m := fun x => ⟨fun ⟨L, hL, hx⟩ => by
    obtain ⟨d, hd, rfl⟩ := List.mem_map.1 hL
    rw [List.mem_singleton] at hx
    subst hx
    exact hd, fun hx => ⟨_, List.mem_map.2 ⟨x, hx, rfl⟩, List.mem_singleton.2 rfl⟩⟩
  have hasc : ∀ L ∈ m.map (fun d => [d]), AscO D.O L := fun L hL => by
    obtain ⟨d, hd, rfl⟩ := List.mem_map.1 hL
    exact List.pairwise_singleton _ _
  have hln : (m.map (fun d => [d])).length ≤ m.length := Nat.le_of_eq (List.length_map ..)
  cases h : allJ D.O m.length (m.map fun d => [d]) with
  | none => exact absurd (fun a b ha hb => hA.no_clash a ((hin a).1 ha) b ((hin b).1 hb)) ((allJ_no hln hasc).1 h)
  | some r =>
    obtain ⟨a1, a2⟩ := allJ_yes hln hasc h
    rw [ascO_ext a1 hA fun x => by rw [a2, hin]]
end Go.Proofs.Ytnmdnajbafpfiaa

