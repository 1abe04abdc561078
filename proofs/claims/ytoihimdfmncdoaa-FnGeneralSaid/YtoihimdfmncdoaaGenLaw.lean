/-
  Generalization, plain: its elements are its instances, what has them as instances has it as one, the order of the elements is not seen, its variables are numbered from 0 on; what FnGeneral asks.
-/
import Derived.Test.YtoihimdfmncdoaaNameLaw
import Derived.Test.YtoihimdfmncdoaaSpecGenC
namespace Go.Proofs.Ytoihimdfmncdoaa
open Go.RowKit
set_option linter.unusedVariables false
set_option linter.unusedSimpArgs false

theorem gen_lensL (n : Nat) : ∀ (l : List Tm) (k : List (List Tm)), (∀ x ∈ k, x.length = l.length) → ∀ x ∈ (genF n l k).2, x.length = l.length := by
  induction n with
  | zero => intro l k h; rw [genF]; exact h
  | succ n ih =>
    intro l k h
    rw [genF]
    split
    · have h1 := ih (l.map headT) k (by rw [List.length_map]; exact h)
      rw [List.length_map] at h1
      have h2 := ih (l.map tailT) (genF n (l.map headT) k).2 (by rw [List.length_map]; exact h1)
      rw [List.length_map] at h2
      exact h2
    · split
      · exact h
      · intro x hx
        have hx' : x ∈ kAdd k l := hx
        unfold kAdd at hx'
        split at hx'
        · exact h x hx'
        · rcases List.mem_append.1 hx' with hx' | hx'
          · exact h x hx'
          · rw [List.mem_singleton.1 hx']
theorem ev_goodV {f : Int → Tm} {t : Tm} (h : Good t) (hf : ∀ v ∈ t.vl, Good (f v)) : Good (evT f t) := by
  induction h with
  | nil => exact .nil
  | var i h0 h1 => rw [ev_var]; exact hf i (by rw [vl_of_var rfl]; exact List.mem_cons_self ..)
  | sym s hs => exact .sym s hs
  | int i h0 h1 => exact .int i h0 h1
  | pair a b ha hb iha ihb =>
    rw [ev_pair]
    exact .pair _ _ (iha fun v hv => hf v (by rw [vl_pair]; exact List.mem_append_left _ hv)) (ihb fun v hv => hf v (by rw [vl_pair]; exact List.mem_append_right _ hv))
theorem kAdd_pre (k : List (List Tm)) (l : List Tm) : ∃ m, kAdd k l = k ++ m := by
  unfold kAdd
  split
  · exact ⟨[], by rw [List.append_nil]⟩
  · exact ⟨[l], rfl⟩
theorem gen_pre (n : Nat) : ∀ (l : List Tm) (k : List (List Tm)), ∃ m, (genF n l k).2 = k ++ m := by
  induction n with
  | zero => intro l k; exact ⟨[], by rw [genF, List.append_nil]⟩
  | succ n ih =>
    intro l k
    rw [genF]
    split
    · obtain ⟨m1, h1⟩ := ih (l.map headT) k
      obtain ⟨m2, h2⟩ := ih (l.map tailT) (genF n (l.map headT) k).2
      exact ⟨m1 ++ m2, by show (genF n (l.map tailT) (genF n (l.map headT) k).2).2 = _; rw [h2, h1, List.append_assoc]⟩
    · split
      · exact ⟨[], by rw [List.append_nil]⟩
      · exact kAdd_pre k l
theorem kAdd_at (k : List (List Tm)) (l : List Tm) : (kAdd k l)[idxL k l]? = some l := by
  unfold kAdd
  split
  · rename_i h; exact (idx_in h).1
  · rename_i h; rw [idx_out h]; simp
theorem atom_of {f : Tm} (h : Good f) (h4 : ¬ f.kind = 4) : f.args = [] := h.fit.atom h4
theorem ev_atom {σ : Int → Tm} {f : Tm} (h : Good f) (h1 : ¬ f.kind = 1) (h4 : ¬ f.kind = 4) : evT σ f = f := by
  have := atom_of h h4
  obtain ⟨k, i, s, l⟩ := f
  have h2 : l = [] := this
  subst h2
  exact ev_leaf _ h1
/-- What is drawn out of all elements has each of them as an instance. -/
theorem gen_inst (n : Nat) : ∀ (l : List Tm) (k : List (List Tm)) (f : Tm), l[0]? = some f → f.nodes ≤ n → (∀ t ∈ l, Good t) → ∀ (σ : Int → Tm) (i : Nat) (t : Tm), l[i]? = some t → (∀ (j : Nat) (x : List Tm), (genF n l k).2[j]? = some x → x[i]? = some (σ (j : Int))) → evT σ (genF n l k).1 = t := by
  induction n with
  | zero => intro l k f _ hn; have := nodes_pos f; omega
  | succ n ih =>
    intro l k f hf hn hg σ i t ht hσ
    rw [genF] at hσ ⊢
    split at hσ
    · rename_i hp
      rw [if_pos hp]
      obtain ⟨x, y, hxy, hx, hy⟩ := good_pair (hg f (List.mem_of_getElem? hf)) (hp f (List.mem_of_getElem? hf))
      have hparts : ∀ u ∈ l, Good (headT u) ∧ Good (tailT u) := fun u hu => by
        obtain ⟨a, b, rfl, ha, hb⟩ := good_pair (hg u hu) (hp u hu)
        exact ⟨ha, hb⟩
      have h3 : f.nodes = 1 + (x.nodes + y.nodes) := by rw [hxy, nodes_eq]; show 1 + nodesL [x, y] = _; rw [nodesL, nodesL, nodesL]; omega
      have hgh : ∀ u ∈ l.map headT, Good u := fun u hu => by obtain ⟨v, hv, rfl⟩ := List.mem_map.1 hu; exact (hparts v hv).1
      have hgt : ∀ u ∈ l.map tailT, Good u := fun u hu => by obtain ⟨v, hv, rfl⟩ := List.mem_map.1 hu; exact (hparts v hv).2
      have hpy := nodes_pos y
      have hpx := nodes_pos x
      have e1 := ih (l.map headT) k x (by rw [List.getElem?_map, hf, hxy]; rfl) (by omega) hgh σ i (headT t) (by rw [List.getElem?_map, ht]; rfl) fun j z hz => by
        obtain ⟨m, hm⟩ := gen_pre n (l.map tailT) (genF n (l.map headT) k).2
        refine hσ j z ?_
        show (genF n (l.map tailT) (genF n (l.map headT) k).2).2[j]? = _
        rw [hm, List.getElem?_append_left (List.getElem?_eq_some_iff.1 hz).1]
        exact hz
      have e2 := ih (l.map tailT) (genF n (l.map headT) k).2 y (by rw [List.getElem?_map, hf, hxy]; rfl) (by omega) hgt σ i (tailT t) (by rw [List.getElem?_map, ht]; rfl) hσ
      show evT σ (.mk 4 0 ⟨#[]⟩ [_, _]) = t
      rw [ev_pair, e1, e2]
      exact (pair_eq (hg t (List.mem_of_getElem? ht)) (hp t (List.mem_of_getElem? ht))).symm
    · rename_i hp
      rw [if_neg hp]
      split at hσ
      · rename_i ho
        rw [if_pos ho]
        obtain ⟨g, hg1, hg2, hg3⟩ := ho
        rw [List.head?_eq_getElem?, hf] at hg1
        cases hg1
        have h4 : ¬ f.kind = 4 := fun h4 => hp fun u hu => by rw [hg3 u hu]; exact h4
        have hh : l.headD (.mk 0 0 ⟨#[]⟩ []) = f := by rw [List.headD_eq_head?_getD, List.head?_eq_getElem?, hf]; rfl
        show evT σ (l.headD _) = t
        rw [hh, ev_atom (hg f (List.mem_of_getElem? hf)) hg2 h4, hg3 t (List.mem_of_getElem? ht)]
      · rename_i ho
        rw [if_neg ho]
        have h1 := hσ (idxL k l) l (kAdd_at k l)
        rw [ht] at h1
        show evT σ (.mk 1 (idxL k l : Nat) ⟨#[]⟩ []) = t
        rw [ev_var]
        exact (Option.some.inj h1).symm

/-! ### With the table known -/
open Classical in
noncomputable def genK (K : List (List Tm)) : Nat → List Tm → Tm
  | 0, _ => .mk 0 0 ⟨#[]⟩ []
  | n + 1, l =>
    if AllPair l then .mk 4 0 ⟨#[]⟩ [genK K n (l.map headT), genK K n (l.map tailT)]
    else if OneAtom l then l.headD (.mk 0 0 ⟨#[]⟩ [])
    else .mk 1 (idxL K l) ⟨#[]⟩ []
open Classical in
theorem idxL_app {k : List (List Tm)} {l : List Tm} (m : List (List Tm)) (h : l ∈ k) : idxL (k ++ m) l = idxL k l := by
  unfold idxL
  induction k with
  | nil => cases h
  | cons x k ih =>
    rw [List.cons_append]
    by_cases e : x = l
    · rw [List.takeWhile_cons_of_neg (by simp [e]), List.takeWhile_cons_of_neg (by simp [e])]
    · rw [List.takeWhile_cons_of_pos (by simp [e]), List.takeWhile_cons_of_pos (by simp [e]), List.length_cons, List.length_cons, ih ((List.mem_cons.1 h).elim (fun h => absurd h.symm e) id)]
theorem idxL_add (k m : List (List Tm)) (l : List Tm) : idxL (kAdd k l ++ m) l = idxL k l := by
  by_cases h : l ∈ k
  · rw [kAdd, if_pos h, idxL_app m h]
  · have h1 : l ∈ k ++ [l] := by simp
    rw [kAdd, if_neg h, idxL_app m h1, idx_out h]
    obtain ⟨h2, h3⟩ := idx_in h1
    have h4 : ¬ idxL (k ++ [l]) l < k.length := fun hlt => by
      rw [List.getElem?_append_left hlt] at h2
      exact h (List.mem_of_getElem? h2)
    have h5 := (List.getElem?_eq_some_iff.1 h2).1
    simp at h5
    omega
theorem gen_K (n : Nat) : ∀ (l : List Tm) (k m : List (List Tm)), (genF n l k).1 = genK ((genF n l k).2 ++ m) n l := by
  induction n with
  | zero => intro l k m; rw [genF, genK]
  | succ n ih =>
    intro l k m
    rw [genF, genK]
    by_cases hp : AllPair l
    · rw [if_pos hp, if_pos hp]
      obtain ⟨m2, h2⟩ := gen_pre n (l.map tailT) (genF n (l.map headT) k).2
      have e1 := ih (l.map headT) k (m2 ++ m)
      have e2 := ih (l.map tailT) (genF n (l.map headT) k).2 m
      show Tm.mk 4 0 ⟨#[]⟩ [(genF n (l.map headT) k).1, (genF n (l.map tailT) (genF n (l.map headT) k).2).1] = .mk 4 0 ⟨#[]⟩ [genK ((genF n (l.map tailT) (genF n (l.map headT) k).2).2 ++ m) n _, genK ((genF n (l.map tailT) (genF n (l.map headT) k).2).2 ++ m) n _]
      rw [e2]
      rw [e1, h2, List.append_assoc]
    · rw [if_neg hp, if_neg hp]
      by_cases ho : OneAtom l
      · rw [if_pos ho, if_pos ho]
      · rw [if_neg ho, if_neg ho]
        show Tm.mk 1 (idxL k l : Nat) ⟨#[]⟩ [] = .mk 1 (idxL (kAdd k l ++ m) l : Nat) ⟨#[]⟩ []
        rw [idxL_add]
theorem genK_fuel (K : List (List Tm)) (n : Nat) : ∀ (n' : Nat) (l : List Tm) (f : Tm), l[0]? = some f → (∀ t ∈ l, Good t) → f.nodes ≤ n → f.nodes ≤ n' → genK K n l = genK K n' l := by
  induction n with
  | zero => intro n' l f _ _ h; have := nodes_pos f; omega
  | succ n ih =>
    intro n' l f hf hg h1 h2
    cases n' with
    | zero => have := nodes_pos f; omega
    | succ n' =>
      rw [genK, genK]
      by_cases hp : AllPair l
      · rw [if_pos hp, if_pos hp]
        obtain ⟨x, y, hxy, hx, hy⟩ := good_pair (hg f (List.mem_of_getElem? hf)) (hp f (List.mem_of_getElem? hf))
        have hparts : ∀ u ∈ l, Good (headT u) ∧ Good (tailT u) := fun u hu => by
          obtain ⟨a, b, rfl, ha, hb⟩ := good_pair (hg u hu) (hp u hu)
          exact ⟨ha, hb⟩
        have h3 : f.nodes = 1 + (x.nodes + y.nodes) := by rw [hxy, nodes_eq]; show 1 + nodesL [x, y] = _; rw [nodesL, nodesL, nodesL]; omega
        have hpx := nodes_pos x
        have hpy := nodes_pos y
        rw [ih n' (l.map headT) x (by rw [List.getElem?_map, hf, hxy]; rfl) (fun u hu => by obtain ⟨v, hv, rfl⟩ := List.mem_map.1 hu; exact (hparts v hv).1) (by omega) (by omega),
          ih n' (l.map tailT) y (by rw [List.getElem?_map, hf, hxy]; rfl) (fun u hu => by obtain ⟨v, hv, rfl⟩ := List.mem_map.1 hu; exact (hparts v hv).2) (by omega) (by omega)]
      · rw [if_neg hp, if_neg hp]
/-- What has all elements as instances has the generalization as one. -/
theorem gen_most (K : List (List Tm)) (θ0 : Int → Tm) (θs : List (Int → Tm)) (n : Nat) {h : Tm} (hh : Good h) (hn : (evT θ0 h).nodes ≤ n) (hg : ∀ θ ∈ θ0 :: θs, ∀ v ∈ h.vl, Good (θ v)) : evT (fun v => genK K n ((θ0 :: θs).map fun θ => θ v)) h = genK K n ((θ0 :: θs).map fun θ => evT θ h) := by
  induction hh with
  | nil =>
    cases n with
    | zero => have := nodes_pos (evT θ0 (.mk 0 0 ⟨#[]⟩ [])); omega
    | succ n =>
      rw [genK, if_neg (fun hp => by have := hp (evT θ0 (.mk 0 0 ⟨#[]⟩ [])) (by simp); cases this), if_pos ⟨.mk 0 0 ⟨#[]⟩ [], rfl, by simp [Tm.kind], fun t ht => by
        obtain ⟨θ, _, rfl⟩ := List.mem_map.1 ht; rfl⟩]
      rfl
  | var i h0 h1 =>
    have e : ((θ0 :: θs).map fun θ => evT θ (.mk 1 i ⟨#[]⟩ [])) = (θ0 :: θs).map fun θ => θ i := List.map_congr_left fun θ _ => ev_var θ i
    rw [ev_var, e]
  | sym s hs =>
    cases n with
    | zero => have := nodes_pos (evT θ0 (.mk 2 0 s [])); omega
    | succ n =>
      rw [genK, if_neg (fun hp => by have := hp (evT θ0 (.mk 2 0 s [])) (by simp); cases this), if_pos ⟨.mk 2 0 s [], rfl, by simp [Tm.kind], fun t ht => by
        obtain ⟨θ, _, rfl⟩ := List.mem_map.1 ht; rfl⟩]
      rfl
  | int i h0 h1 =>
    cases n with
    | zero => have := nodes_pos (evT θ0 (.mk 3 i ⟨#[]⟩ [])); omega
    | succ n =>
      rw [genK, if_neg (fun hp => by have := hp (evT θ0 (.mk 3 i ⟨#[]⟩ [])) (by simp); cases this), if_pos ⟨.mk 3 i ⟨#[]⟩ [], rfl, by simp [Tm.kind], fun t ht => by
        obtain ⟨θ, _, rfl⟩ := List.mem_map.1 ht; rfl⟩]
      rfl
  | pair a b ha hb iha ihb =>
    have hga : ∀ θ ∈ θ0 :: θs, ∀ v ∈ a.vl, Good (θ v) := fun θ hθ v hv => hg θ hθ v (by rw [vl_pair]; exact List.mem_append_left _ hv)
    have hgb : ∀ θ ∈ θ0 :: θs, ∀ v ∈ b.vl, Good (θ v) := fun θ hθ v hv => hg θ hθ v (by rw [vl_pair]; exact List.mem_append_right _ hv)
    have hgood : ∀ (t : Tm), Good t → (∀ θ ∈ θ0 :: θs, ∀ v ∈ t.vl, Good (θ v)) → ∀ θ ∈ θ0 :: θs, Good (evT θ t) := fun t ht h θ hθ => ev_goodV ht (h θ hθ)
    rw [ev_pair, nodes_two] at hn
    cases n with
    | zero => omega
    | succ n =>
      have hpa := nodes_pos (evT θ0 a)
      have hpb := nodes_pos (evT θ0 b)
      rw [genK]
      have hap : AllPair ((θ0 :: θs).map fun θ => evT θ (.mk 4 0 ⟨#[]⟩ [a, b])) := fun t ht => by
        obtain ⟨θ, _, rfl⟩ := List.mem_map.1 ht
        rw [ev_pair]; rfl
      rw [if_pos hap]
      rw [List.map_map, List.map_map]
      have e1 : ((θ0 :: θs).map (headT ∘ fun θ => evT θ (.mk 4 0 ⟨#[]⟩ [a, b]))) = (θ0 :: θs).map fun θ => evT θ a := List.map_congr_left fun θ _ => by show headT (evT θ _) = _; rw [ev_pair]; rfl
      have e2 : ((θ0 :: θs).map (tailT ∘ fun θ => evT θ (.mk 4 0 ⟨#[]⟩ [a, b]))) = (θ0 :: θs).map fun θ => evT θ b := List.map_congr_left fun θ _ => by show tailT (evT θ _) = _; rw [ev_pair]; rfl
      rw [e1, e2, ev_pair]
      rw [genK_fuel K n (n + 1) ((θ0 :: θs).map fun θ => evT θ a) (evT θ0 a) rfl (fun t ht => by obtain ⟨θ, hθ, rfl⟩ := List.mem_map.1 ht; exact hgood a ha hga θ hθ) (by omega) (by omega),
        genK_fuel K n (n + 1) ((θ0 :: θs).map fun θ => evT θ b) (evT θ0 b) rfl (fun t ht => by obtain ⟨θ, hθ, rfl⟩ := List.mem_map.1 ht; exact hgood b hb hgb θ hθ) (by omega) (by omega)]
      rw [← iha (by omega) hga, ← ihb (by omega) hgb]

/-! ### Its variables -/
theorem gen_ord (n : Nat) : ∀ (l : List Tm) (k : List (List Tm)) (f : Tm), l[0]? = some f → f.nodes ≤ n → (∀ t ∈ l, Good t) → ordL (rangeI k.length) (genF n l k).1.vl = rangeI (genF n l k).2.length := by
  induction n with
  | zero => intro l k f _ hn; have := nodes_pos f; omega
  | succ n ih =>
    intro l k f hf hn hg
    rw [genF]
    by_cases hp : AllPair l
    · rw [if_pos hp]
      obtain ⟨x, y, hxy, hx, hy⟩ := good_pair (hg f (List.mem_of_getElem? hf)) (hp f (List.mem_of_getElem? hf))
      have hparts : ∀ u ∈ l, Good (headT u) ∧ Good (tailT u) := fun u hu => by
        obtain ⟨a, b, rfl, ha, hb⟩ := good_pair (hg u hu) (hp u hu)
        exact ⟨ha, hb⟩
      have h3 : f.nodes = 1 + (x.nodes + y.nodes) := by rw [hxy, nodes_eq]; show 1 + nodesL [x, y] = _; rw [nodesL, nodesL, nodesL]; omega
      have hpx := nodes_pos x
      have hpy := nodes_pos y
      have e1 := ih (l.map headT) k x (by rw [List.getElem?_map, hf, hxy]; rfl) (by omega) fun u hu => by obtain ⟨v, hv, rfl⟩ := List.mem_map.1 hu; exact (hparts v hv).1
      have e2 := ih (l.map tailT) (genF n (l.map headT) k).2 y (by rw [List.getElem?_map, hf, hxy]; rfl) (by omega) fun u hu => by obtain ⟨v, hv, rfl⟩ := List.mem_map.1 hu; exact (hparts v hv).2
      show ordL (rangeI k.length) (Tm.mk 4 0 ⟨#[]⟩ [_, _]).vl = rangeI (genF n (l.map tailT) (genF n (l.map headT) k).2).2.length
      rw [vl_pair, ordL_append, e1, e2]
    · rw [if_neg hp]
      by_cases ho : OneAtom l
      · rw [if_pos ho]
        obtain ⟨g, hg1, hg2, hg3⟩ := ho
        rw [List.head?_eq_getElem?, hf] at hg1
        cases hg1
        have h4 : ¬ f.kind = 4 := fun h4 => hp fun u hu => by rw [hg3 u hu]; exact h4
        have hh : l.headD (.mk 0 0 ⟨#[]⟩ []) = f := by rw [List.headD_eq_head?_getD, List.head?_eq_getElem?, hf]; rfl
        show ordL (rangeI k.length) (l.headD _).vl = rangeI k.length
        rw [hh, vl_eq, if_neg hg2, atom_of (hg f (List.mem_of_getElem? hf)) h4]
        rfl
      · rw [if_neg ho]
        show ordL (rangeI k.length) (Tm.mk 1 (idxL k l : Nat) ⟨#[]⟩ []).vl = rangeI (kAdd k l).length
        rw [vl_of_var rfl, ordL_cons, ordL_nil]
        show ordAdd (rangeI k.length) ((idxL k l : Nat) : Int) = _
        by_cases h : l ∈ k
        · have h1 := (List.getElem?_eq_some_iff.1 (idx_in h).1).1
          rw [ordAdd_in (rangeI_mem.2 ⟨by omega, by omega⟩), kAdd, if_pos h]
        · rw [idx_out h, ordAdd_out (fun hm => by have := (rangeI_mem.1 hm).2; omega), kAdd, if_neg h, List.length_append]
          exact (rangeI_succ _).symm

/-! ### The order of the elements -/
def turn4 : List Tm → List Tm
  | [x, y, z] => [z, x, y, x]
  | _ => []
def Three (l : List Tm) : Prop := ∃ x y z, l = [x, y, z]
theorem turn_inj {l m : List Tm} (hl : Three l) (hm : Three m) : turn4 l = turn4 m ↔ l = m := by
  obtain ⟨x, y, z, rfl⟩ := hl
  obtain ⟨x', y', z', rfl⟩ := hm
  simp only [turn4, List.cons.injEq, and_true]
  constructor
  · rintro ⟨h1, h2, h3, _⟩; exact ⟨h2, h3, h1⟩
  · rintro ⟨h1, h2, h3⟩; exact ⟨h3, h1, h2, h1⟩
theorem turn_mem {k : List (List Tm)} {l : List Tm} (hk : ∀ x ∈ k, Three x) (hl : Three l) : turn4 l ∈ k.map turn4 ↔ l ∈ k := by
  rw [List.mem_map]
  constructor
  · rintro ⟨x, hx, he⟩
    rwa [← (turn_inj (hk x hx) hl).1 he]
  · exact fun h => ⟨l, h, rfl⟩
open Classical in
theorem turn_idx {k : List (List Tm)} {l : List Tm} (hk : ∀ x ∈ k, Three x) (hl : Three l) : idxL (k.map turn4) (turn4 l) = idxL k l := by
  unfold idxL
  induction k with
  | nil => rfl
  | cons x k ih =>
    rw [List.map_cons]
    have h1 := turn_inj (hk x (List.mem_cons_self ..)) hl
    by_cases e : x = l
    · rw [List.takeWhile_cons_of_neg (by simp [h1.2 e]), List.takeWhile_cons_of_neg (by simp [e])]
    · rw [List.takeWhile_cons_of_pos (by simp; exact fun h => e (h1.1 h)), List.takeWhile_cons_of_pos (by simp [e]), List.length_cons, List.length_cons, ih fun y hy => hk y (List.mem_cons_of_mem _ hy)]
theorem turn_gen (n : Nat) : ∀ (x y z : Tm) (k : List (List Tm)), (∀ u ∈ k, Three u) → (genF n [z, x, y, x] (k.map turn4)).1 = (genF n [x, y, z] k).1 ∧ (genF n [z, x, y, x] (k.map turn4)).2 = (genF n [x, y, z] k).2.map turn4 ∧ ∀ u ∈ (genF n [x, y, z] k).2, Three u := by
  induction n with
  | zero => intro x y z k hk; rw [genF, genF]; exact ⟨rfl, rfl, hk⟩
  | succ n ih =>
    intro x y z k hk
    rw [genF, genF]
    have hap : AllPair [z, x, y, x] ↔ AllPair [x, y, z] := by
      unfold AllPair
      simp only [List.mem_cons, List.not_mem_nil, or_false, forall_eq_or_imp, forall_eq]
      exact ⟨fun ⟨h1, h2, h3, _⟩ => ⟨h2, h3, h1⟩, fun ⟨h1, h2, h3⟩ => ⟨h3, h1, h2, h1⟩⟩
    have hoa : OneAtom [z, x, y, x] ↔ OneAtom [x, y, z] := by
      unfold OneAtom
      simp only [List.head?_cons, Option.some.injEq, List.mem_cons, List.not_mem_nil, or_false, forall_eq_or_imp, forall_eq]
      constructor
      · rintro ⟨f, rfl, h1, _, h2, h3, _⟩
        exact ⟨x, rfl, by rw [h2]; exact h1, rfl, by rw [h2, h3], h2.symm⟩
      · rintro ⟨f, rfl, h1, _, h2, h3⟩
        exact ⟨z, rfl, by rw [h3]; exact h1, rfl, h3.symm, by rw [h2, h3], h3.symm⟩
    by_cases hp : AllPair [x, y, z]
    · rw [if_pos hp, if_pos (hap.2 hp)]
      obtain ⟨a1, a2, a3⟩ := ih (headT x) (headT y) (headT z) k hk
      obtain ⟨b1, b2, b3⟩ := ih (tailT x) (tailT y) (tailT z) (genF n [headT x, headT y, headT z] k).2 a3
      simp only [List.map_cons, List.map_nil]
      rw [a1, a2, b1, b2]
      exact ⟨rfl, rfl, b3⟩
    · rw [if_neg hp, if_neg (fun h => hp (hap.1 h))]
      by_cases ho : OneAtom [x, y, z]
      · rw [if_pos ho, if_pos (hoa.2 ho)]
        obtain ⟨f, h1, _, h3⟩ := ho
        have e1 := h3 z (by simp)
        have e2 := h3 x (by simp)
        exact ⟨by show z = x; rw [e1, e2], rfl, hk⟩
      · rw [if_neg ho, if_neg (fun h => ho (hoa.1 h))]
        have ht : Three [x, y, z] := ⟨x, y, z, rfl⟩
        have hi := turn_idx hk ht
        have hm := turn_mem hk ht
        refine ⟨?_, ?_, fun u hu => ?_⟩
        · show Tm.mk 1 (idxL (k.map turn4) (turn4 [x, y, z]) : Nat) ⟨#[]⟩ [] = .mk 1 (idxL k [x, y, z] : Nat) ⟨#[]⟩ []
          rw [hi]
        · show kAdd (k.map turn4) (turn4 [x, y, z]) = (kAdd k [x, y, z]).map turn4
          unfold kAdd
          by_cases h : [x, y, z] ∈ k
          · rw [if_pos h, if_pos (hm.2 h)]
          · rw [if_neg h, if_neg (fun h' => h (hm.1 h')), List.map_append]; rfl
        · have hu : u ∈ kAdd k [x, y, z] := hu
          unfold kAdd at hu
          split at hu
          · exact hk u hu
          · rcases List.mem_append.1 hu with hu | hu
            · exact hk u hu
            · rw [List.mem_singleton.1 hu]; exact ht

/-! ### Instances as the program answers them -/
theorem mtB_of {p t : Tm} (hp : Ok p) (ht : Ok t) (hn : p.nodes ≤ 400) (h : ∃ f, evT f p = t) : mtB p t = true := by
  obtain ⟨f, rfl⟩ := h
  obtain ⟨hs, hm⟩ := insL_spec p.vl [] List.Pairwise.nil
  have hmem : ∀ v, v ∈ p.vl.foldl insAsc [] ↔ v ∈ p.vl := fun v => by rw [hm]; simp
  have hgd := ev_good_in hp.2 ht.2
  have hasc : ((p.vl.foldl insAsc []).map fun v => (⟨v, f v⟩ : Bd)).Pairwise (fun a b => a.v < b.v) := by rw [List.pairwise_map]; exact hs
  refine (mt_yes (l := (p.vl.foldl insAsc []).map fun v => ⟨v, f v⟩) ⟨hp, ht, ⟨hasc, fun b hb => ?_, fun v => ?_, ?_⟩, ?_⟩).2
  · obtain ⟨v, hv, rfl⟩ := List.mem_map.1 hb
    have hv' := (hmem v).1 hv
    refine ⟨good_vrange hp.2 v hv', ?_, hgd v hv'⟩
    have := ev_in (f := f) hp.2 hv'
    have := ht.1
    show (f v).nodes ≤ 5000
    omega
  · rw [getO_ne]
    constructor
    · rintro ⟨b, hb, hbv⟩
      obtain ⟨u, hu, rfl⟩ := List.mem_map.1 hb
      have : u = v := hbv
      rw [← this]
      exact (hmem u).1 hu
    · intro hv
      exact ⟨⟨v, f v⟩, List.mem_map.2 ⟨v, (hmem v).2 hv, rfl⟩, rfl⟩
  · rw [put_ev hp.2]
    refine ev_congr hp.2 fun v hv => ?_
    exact sgm_bound (get_asc hasc ⟨v, f v⟩ (List.mem_map.2 ⟨v, (hmem v).2 hv, rfl⟩))
  · rw [List.length_map]
    have h1 := insL_len p.vl []
    have h2 := vl_len p
    simp at h1
    omega

/-! ### What FnGeneral asks -/
theorem gz_yes2 {l : List Tm} (h1 : 1 ≤ l.length ∧ l.length ≤ 40) (h2 : ∀ t ∈ l, Ok t) : GzOk l := ⟨h1, List.all_eq_true.2 fun t ht => okB_true.2 (h2 t ht)⟩
theorem gz_inst {l : List Tm} (h : GzOk l) {t : Tm} (ht : t ∈ l) : ∃ σ, evT σ (gzT l) = t := by
  obtain ⟨f, hf, hn, hg⟩ := gz_first h
  obtain ⟨i, hi⟩ := List.getElem?_of_mem ht
  rw [(gz_yes h).1]
  have hlens := gen_lensL 5000 l [] (fun x hx => by cases hx)
  refine ⟨fun v => (((genF 5000 l []).2.getD v.toNat []).getD i zeroTm), gen_inst 5000 l [] f hf hn hg _ i t hi fun j x hx => ?_⟩
  have hl := hlens x (List.mem_of_getElem? hx)
  have hil := (List.getElem?_eq_some_iff.1 hi).1
  rw [Int.toNat_natCast, List.getD_eq_getElem?_getD (l := (genF 5000 l []).2), hx]
  show x[i]? = some (x.getD i zeroTm)
  rw [List.getD_eq_getElem?_getD, List.getElem?_eq_getElem (by rw [hl]; exact hil)]
  rfl
theorem gz_most {h : Tm} (hh : Good h) (θ0 : Int → Tm) (θs : List (Int → Tm)) {l : List Tm} (hl : l = (θ0 :: θs).map fun θ => evT θ h) (hz : GzOk l) : ∃ τ, evT τ h = gzT l := by
  subst hl
  rw [(gz_yes hz).1]
  have hok : ∀ θ ∈ θ0 :: θs, Ok (evT θ h) := fun θ hθ => okB_true.1 (List.all_eq_true.1 hz.2 _ (List.mem_map.2 ⟨θ, hθ, rfl⟩))
  have h1 := gen_K 5000 ((θ0 :: θs).map fun θ => evT θ h) [] []
  rw [h1]
  exact ⟨_, gen_most _ θ0 θs 5000 hh (hok θ0 (List.mem_cons_self ..)).1 fun θ hθ v hv => ev_good_in hh (hok θ hθ).2 v hv⟩
theorem gz_nodes {l : List Tm} (h : GzOk l) {t : Tm} (ht : t ∈ l) : (gzT l).nodes ≤ t.nodes := by
  obtain ⟨σ, hσ⟩ := gz_inst h ht
  rw [← hσ]
  exact ev_nodes (gz_ok l).2
theorem gz_can {l : List Tm} (h : GzOk l) : canF (gzT l) = gzT l := by
  obtain ⟨f, hf, hn, hg⟩ := gz_first h
  have h1 := gen_ord 5000 l [] f hf hn hg
  have h2 := gz_ok l
  rw [(gz_yes h).1] at h2 ⊢
  exact canF_of h2.2 h1
theorem gz_turn {x y z : Tm} (h : GzOk [x, y, z]) (h' : GzOk [z, x, y, x]) : gzT [z, x, y, x] = gzT [x, y, z] := by
  rw [(gz_yes h).1, (gz_yes h').1]
  exact (turn_gen 5000 x y z [] fun u hu => by cases hu).1
theorem gz_one {t : Tm} (h : GzOk [t]) : (∃ σ, evT σ (gzT [t]) = t) ∧ ∃ τ, evT τ t = gzT [t] := by
  have ht : Ok t := okB_true.1 (List.all_eq_true.1 h.2 t (List.mem_cons_self ..))
  refine ⟨gz_inst h (List.mem_cons_self ..), gz_most ht.2 varTm [] ?_ h⟩
  rw [List.map_cons, List.map_nil, ev_self ht.2]
end Go.Proofs.Ytoihimdfmncdoaa

