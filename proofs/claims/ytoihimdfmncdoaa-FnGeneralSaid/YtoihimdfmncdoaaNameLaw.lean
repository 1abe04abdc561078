/-
  Canonical names and variants, plain: terms are variants exactly if their canonical forms are equal; what FnCanonical asks.
-/
import Derived.Test.YtoihimdfmncdoaaNameP
import Derived.Test.YtoihimdfmncdoaaMatchP
namespace Go.Proofs.Ytoihimdfmncdoaa
open Go.RowKit
set_option linter.unusedVariables false
set_option linter.unusedSimpArgs false

/-! ### Matching and valuations -/
theorem matB_iff {p t : Tm} (hp : Good p) : matB (fun _ => none) p t = true ↔ ∃ h, evT h p = t := by
  constructor
  · intro hm
    obtain ⟨g, hg⟩ := matB_true hm
    refine ⟨fun v => (g v).getD zeroTm, ?_⟩
    exact ((hg.1 _).1 fun v x hv => by rw [hv]; rfl).2
  · rintro ⟨h, hh⟩
    cases hm : matB (fun _ => none) p t with
    | true => rfl
    | false => exact absurd hh (matB_false hp hm h fun v x hv => by cases hv)
theorem ev_comp {f g : Int → Tm} {t : Tm} (h : Good t) : evT g (evT f t) = evT (fun v => evT g (f v)) t := by
  induction h with
  | nil => rfl
  | var i h0 h1 => rw [ev_var, ev_var]
  | sym s hs => rfl
  | int i h0 h1 => rfl
  | pair a b ha hb iha ihb => rw [ev_pair, ev_pair, ev_pair, iha, ihb]
theorem ev_good_in {f : Int → Tm} {t : Tm} (h : Good t) (hg : Good (evT f t)) : ∀ v ∈ t.vl, Good (f v) := by
  induction h with
  | nil => intro v hv; cases hv
  | var i h0 h1 =>
    intro v hv
    rw [vl_of_var rfl] at hv
    rw [ev_var] at hg
    rw [List.mem_singleton.1 hv]
    exact hg
  | sym s hs => intro v hv; cases hv
  | int i h0 h1 => intro v hv; cases hv
  | pair a b ha hb iha ihb =>
    intro v hv
    rw [ev_pair] at hg
    obtain ⟨h1, h2⟩ := (good_two hg.fit rfl).1 hg
    rw [vl_pair] at hv
    rcases List.mem_append.1 hv with hv | hv
    · exact iha h1 v hv
    · exact ihb h2 v hv
theorem ren_comp {f g : Int → Int} {t : Tm} (h : Good t) : renT g (renT f t) = renT (fun v => g (f v)) t := by
  unfold renT
  rw [ev_comp h]
  exact ev_congr h fun v hv => ev_varTm _ _

/-! ### Orders under an injection -/
def InjOn (f : Int → Int) (l : List Int) : Prop := ∀ x ∈ l, ∀ y ∈ l, f x = f y → x = y
theorem mem_map_inj {f : Int → Int} {k : List Int} {v : Int} (h : InjOn f (v :: k)) : f v ∈ k.map f ↔ v ∈ k := by
  constructor
  · intro hm
    obtain ⟨u, hu, he⟩ := List.mem_map.1 hm
    have := h u (List.mem_cons_of_mem _ hu) v (List.mem_cons_self ..) he
    rwa [← this]
  · exact fun hv => List.mem_map_of_mem hv
theorem ord_map {f : Int → Int} : ∀ (vs k : List Int), InjOn f (k ++ vs) → ordL (k.map f) (vs.map f) = (ordL k vs).map f
  | [], k, _ => rfl
  | v :: vs, k, h => by
    have hv : InjOn f (v :: k) := fun x hx y hy e => h x (by
      rcases List.mem_cons.1 hx with rfl | hx
      · exact List.mem_append_right _ (List.mem_cons_self ..)
      · exact List.mem_append_left _ hx) y (by
      rcases List.mem_cons.1 hy with rfl | hy
      · exact List.mem_append_right _ (List.mem_cons_self ..)
      · exact List.mem_append_left _ hy) e
    have he : ordAdd (k.map f) (f v) = (ordAdd k v).map f := by
      by_cases hk : v ∈ k
      · rw [ordAdd_in hk, ordAdd_in ((mem_map_inj hv).2 hk)]
      · rw [ordAdd_out hk, ordAdd_out (fun h => hk ((mem_map_inj hv).1 h)), List.map_append]; rfl
    rw [List.map_cons, ordL_cons, ordL_cons, he]
    refine ord_map vs _ fun x hx y hy e => h x ?_ y ?_ e
    · rcases List.mem_append.1 hx with hx | hx
      · rcases ordAdd_mem.1 hx with hx | rfl
        · exact List.mem_append_left _ hx
        · exact List.mem_append_right _ (List.mem_cons_self ..)
      · exact List.mem_append_right _ (List.mem_cons_of_mem _ hx)
    · rcases List.mem_append.1 hy with hy | hy
      · rcases ordAdd_mem.1 hy with hy | rfl
        · exact List.mem_append_left _ hy
        · exact List.mem_append_right _ (List.mem_cons_self ..)
      · exact List.mem_append_right _ (List.mem_cons_of_mem _ hy)
theorem idx_map {f : Int → Int} : ∀ (k : List Int) (v : Int), InjOn f (v :: k) → idxI (k.map f) (f v) = idxI k v
  | [], v, _ => rfl
  | x :: k, v, h => by
    rw [List.map_cons, idxI, idxI]
    by_cases e : x = v
    · rw [if_pos e, if_pos (by rw [e])]
    · rw [if_neg e, if_neg (fun he => e (h x (List.mem_cons_of_mem _ (List.mem_cons_self ..)) v (List.mem_cons_self ..) he))]
      rw [idx_map k v fun x hx y hy he => h x (by rcases List.mem_cons.1 hx with rfl | hx; exact List.mem_cons_self ..; exact List.mem_cons_of_mem _ (List.mem_cons_of_mem _ hx)) y (by rcases List.mem_cons.1 hy with rfl | hy; exact List.mem_cons_self ..; exact List.mem_cons_of_mem _ (List.mem_cons_of_mem _ hy)) he]

/-! ### Numbers from 0 on -/
def rangeI (m : Nat) : List Int := (List.range m).map fun (n : Nat) => (n : Int)
theorem rangeI_len (m : Nat) : (rangeI m).length = m := by unfold rangeI; rw [List.length_map, List.length_range]
theorem rangeI_at {m i : Nat} (h : i < m) : (rangeI m)[i]? = some (i : Int) := by
  unfold rangeI
  rw [List.getElem?_map, List.getElem?_range h]; rfl
theorem rangeI_mem {m : Nat} {v : Int} : v ∈ rangeI m ↔ 0 ≤ v ∧ v < m := by
  unfold rangeI
  rw [List.mem_map]
  constructor
  · rintro ⟨n, hn, rfl⟩
    have := List.mem_range.1 hn
    omega
  · rintro ⟨h1, h2⟩
    exact ⟨v.toNat, List.mem_range.2 (by omega), by omega⟩
theorem rangeI_nodup (m : Nat) : (rangeI m).Nodup := by
  unfold rangeI
  rw [List.nodup_iff_pairwise_ne, List.pairwise_map]
  have h : (List.range m).Nodup := List.nodup_range
  rw [List.nodup_iff_pairwise_ne] at h
  exact h.imp fun hne e => hne (by omega)
theorem rangeI_idx {m : Nat} {v : Int} (h : 0 ≤ v ∧ v < m) : idxI (rangeI m) v = v.toNat := by
  refine idxI_at (rangeI_nodup m) ?_
  rw [rangeI_at (by omega)]
  congr 1
  omega
theorem rangeI_succ (m : Nat) : rangeI (m + 1) = rangeI m ++ [(m : Int)] := by unfold rangeI; rw [List.range_succ, List.map_append]; rfl
theorem map_idx {k : List Int} (hn : k.Nodup) : k.map (fun v => (idxI k v : Int)) = rangeI k.length := by
  apply List.ext_getElem?
  intro i
  rw [List.getElem?_map]
  by_cases h : i < k.length
  · rw [rangeI_at h, List.getElem?_eq_getElem h]
    show some ((idxI k k[i] : Nat) : Int) = _
    rw [idxI_at hn (List.getElem?_eq_getElem h)]
  · rw [List.getElem?_eq_none (by omega), List.getElem?_eq_none (by rw [rangeI_len]; omega)]; rfl
theorem idx_injOn (k : List Int) : InjOn (fun v => (idxI k v : Int)) k := fun x hx y hy e => by
  have h1 := idxI_in hx
  have h2 := idxI_in hy
  have : idxI k x = idxI k y := by
    have e' : ((idxI k x : Nat) : Int) = ((idxI k y : Nat) : Int) := e
    omega
  rw [this, h2] at h1
  exact (Option.some.inj h1).symm
theorem ord_idx (vs : List Int) : ordL [] (vs.map fun v => (idxI (ordL [] vs) v : Int)) = rangeI (ordL [] vs).length := by
  have h := ord_map (f := fun v => (idxI (ordL [] vs) v : Int)) vs [] fun x hx y hy e => idx_injOn (ordL [] vs) x ((ordL_mem vs []).2 (.inr (by simpa using hx))) y ((ordL_mem vs []).2 (.inr (by simpa using hy))) e
  rw [List.map_nil] at h
  rw [h, map_idx (ordL_nodup vs [] List.nodup_nil)]
theorem bnd_range (m : Nat) : bndL (rangeI m) = m := by
  refine Int.le_antisymm (bnd_le.2 ⟨by omega, fun v hv => by have := rangeI_mem.1 hv; omega⟩) ?_
  cases m with
  | zero => exact bnd_pos _
  | succ m =>
    have := ((bnd_le (vs := rangeI (m + 1)) (b := bndL (rangeI (m + 1)))).1 (Int.le_refl _)).2 (m : Int) (rangeI_mem.2 ⟨by omega, by omega⟩)
    omega

/-! ### One term's canonical form -/
def ordT (t : Tm) : List Int := ordL [] t.vl
def canF (t : Tm) : Tm := canT (ordT t) t
theorem ordOf_one (t : Tm) : ordOf [t] = ordT t := by unfold ordOf ordT; rw [vlL, vlL, List.append_nil]
theorem cn_one {t : Tm} (h : Ok t) : cnL [t] = [canF t] := by
  rw [cn_yes (by simp [okB_true.2 h]), ordOf_one]; rfl
theorem canF_vl {t : Tm} (h : Good t) : (canF t).vl = t.vl.map fun v => (idxI (ordT t) v : Int) := ren_vl h
theorem canF_ord {t : Tm} (h : Good t) : ordT (canF t) = rangeI (ordT t).length := by
  unfold ordT
  rw [canF_vl h]
  exact ord_idx t.vl
theorem ordT_mem {t : Tm} {v : Int} : v ∈ ordT t ↔ v ∈ t.vl := by unfold ordT; rw [ordL_mem]; simp
/-- A term whose variables first occur as 0, 1, .. is its own canonical form. -/
theorem canF_of {t : Tm} {m : Nat} (h : Good t) (ho : ordT t = rangeI m) : canF t = t := by
  unfold canF canT
  rw [ho]
  have := ren_congr (f := fun v => (idxI (rangeI m) v : Int)) (g := fun v => v) h fun v hv => by
    have hm : v ∈ rangeI m := by rw [← ho]; exact ordT_mem.2 hv
    have hr := rangeI_mem.1 hm
    have := rangeI_idx hr
    show ((idxI (rangeI m) v : Nat) : Int) = v
    omega
  rw [this, ren_self h]
theorem ord_small {t : Tm} (h : Ok t) : (ordT t).length ≤ 5000 := by
  have h1 := ordL_len t.vl []
  have h2 := vl_len t
  have h3 := h.1
  simp at h1
  unfold ordT
  omega
theorem canF_ok {t : Tm} (h : Ok t) : Ok (canF t) := by
  refine ⟨by unfold canF canT; rw [ren_nodes h.2]; exact h.1, ren_good h.2 fun v hv => ⟨by omega, ?_⟩⟩
  have h1 := idxI_lt (ordT_mem.2 hv)
  have h2 := ord_small h
  omega
theorem canF_nodes {t : Tm} (h : Good t) : (canF t).nodes = t.nodes := ren_nodes h
theorem canF_self {t : Tm} (h : Ok t) : canF (canF t) = canF t := canF_of (canF_ok h).2 (canF_ord h.2)
theorem canF_bound {t : Tm} (h : Ok t) : vbI [canF t] = (ordT t).length := by
  rw [vb_yes (by simp [okB_true.2 (canF_ok h)]), ← vb_ord, ordOf_one, canF_ord h.2, bnd_range]

/-! ### Variants -/
theorem can_eq_of {a b : Tm} (ha : Good a) {f : Int → Int} (hf : InjOn f a.vl) (hb : renT f a = b) : canF b = canF a := by
  subst hb
  have hv : (renT f a).vl = a.vl.map f := ren_vl ha
  have ho : ordT (renT f a) = (ordT a).map f := by
    unfold ordT
    rw [hv]
    exact ord_map a.vl [] fun x hx y hy e => hf x (by simpa using hx) y (by simpa using hy) e
  unfold canF canT
  rw [ho, ren_comp ha]
  refine ren_congr ha fun v hv => ?_
  have := idx_map (f := f) (ordT a) v fun x hx y hy e => hf x (by
    rcases List.mem_cons.1 hx with rfl | hx
    · exact hv
    · exact ordT_mem.1 hx) y (by
    rcases List.mem_cons.1 hy with rfl | hy
    · exact hv
    · exact ordT_mem.1 hy) e
  show ((idxI ((ordT a).map f) (f v) : Nat) : Int) = _
  rw [this]
theorem var_of_can {a b : Tm} (ha : Good a) (hb : Good b) (h : canF a = canF b) : ∃ g, evT g a = b := by
  refine ⟨fun v => varTm ((ordT b).getD (idxI (ordT a) v) 0), ?_⟩
  have h1 : renT (fun i => (ordT b).getD i.toNat 0) (canF b) = b := by
    unfold canF canT
    rw [ren_comp hb]
    have := ren_congr (f := fun v => (ordT b).getD ((idxI (ordT b) v : Int)).toNat 0) (g := fun v => v) hb fun v hv => by
      have := idxI_in (ordT_mem.2 hv)
      show (ordT b).getD ((idxI (ordT b) v : Int)).toNat 0 = v
      rw [Int.toNat_natCast, List.getD_eq_getElem?_getD, this]; rfl
    rw [this, ren_self hb]
  have h2 : evT (fun v => varTm ((ordT b).getD (idxI (ordT a) v) 0)) a = renT (fun i => (ordT b).getD i.toNat 0) (canF a) := by
    unfold canF canT
    rw [ren_comp ha]
    rfl
  rw [h2, h, h1]
theorem can_of_var {a b : Tm} (ha : Good a) (hb : Good b) (h1 : ∃ g, evT g a = b) (h2 : ∃ g, evT g b = a) : canF a = canF b := by
  obtain ⟨g1, e1⟩ := h1
  obtain ⟨g2, e2⟩ := h2
  have hback : ∀ v ∈ a.vl, evT g2 (g1 v) = varTm v := by
    refine ev_inj ha ?_
    rw [← ev_comp ha, e1, e2, ev_self ha]
  have hgood := ev_good_in ha (by rw [e1]; exact hb)
  have hvar : ∀ v ∈ a.vl, g1 v = varTm (g1 v).num := fun v hv => by
    refine var_is (hgood v hv) ?_
    by_cases hk : (g1 v).kind = 1
    · exact hk
    · have := (ev_kind (f := g2) hk).1
      rw [hback v hv] at this
      exact this.symm
  refine (can_eq_of ha (f := fun v => (g1 v).num) (fun x hx y hy e => ?_) ?_).symm
  · have h3 : g1 x = g1 y := by rw [hvar x hx, hvar y hy]; exact congrArg varTm e
    have h4 := hback x hx
    rw [h3, hback y hy] at h4
    have h5 := congrArg Tm.num h4
    exact h5.symm
  · rw [← e1]
    exact ev_congr ha fun v hv => (hvar v hv).symm

/-! ### What FnCanonical asks -/
theorem reify_same {u : List Bd} {a b : Tm} (hu : SubstP u) (ha : Ok a) (hb : Ok b) (h : ∀ v ∈ a.vl ++ b.vl, getO u v = none) : reB u [a, b] = true ∧ ∃ y, reL u [a, b] = [canF a, y] ∧ Ok y := by
  have e1 : putT u a = a := putT_same ha.2 fun v hv => h v (List.mem_append_left _ hv)
  have e2 : putT u b = b := putT_same hb.2 fun v hv => h v (List.mem_append_right _ hv)
  have hok : [a, b].all okB = true := by simp [okB_true.2 ha, okB_true.2 hb]
  have hr : ReP u [a, b] := ⟨hu, hok, fun t ht => by
    rcases List.mem_cons.1 ht with rfl | ht
    · rw [e1]; exact ha.1
    · rw [List.mem_singleton.1 ht, e2]; exact hb.1⟩
  obtain ⟨h1, h2⟩ := re_yes hr
  refine ⟨h2, canT (ordOf [a, b]) b, ?_, ?_⟩
  · rw [h1, List.map_cons, List.map_cons, List.map_nil, e1, e2, cn_yes hok]
    show [canT (ordOf [a, b]) a, canT (ordOf [a, b]) b] = _
    congr 1
    refine ren_congr ha.2 fun v hv => ?_
    unfold ordOf
    rw [vlL, vlL, vlL, List.append_nil, ordL_append, idxI_ext (k := ordL [] a.vl) ((ordL_mem _ _).2 (.inr hv))]
    rfl
  · refine ⟨by unfold canT; rw [ren_nodes hb.2]; exact hb.1, ren_good hb.2 fun v hv => ⟨by omega, ?_⟩⟩
    have h3 : v ∈ ordOf [a, b] := by
      unfold ordOf
      rw [ordL_mem, vlL, vlL]
      exact .inr (List.mem_append_right _ (List.mem_append_left _ hv))
    have h4 := idxI_lt h3
    have h5 := ord_len hok
    omega
theorem shift_facts {a : Tm} (ha : Ok a) (hv : ∀ v ∈ a.vl, v < 3) : shB a 77 = true ∧ shT a 77 = renT (fun v => v + 77) a ∧ Ok (renT (fun v => v + 77) a) ∧ (∀ v ∈ (renT (fun v => v + 77) a).vl, 77 ≤ v) ∧ canF (renT (fun v => v + 77) a) = canF a := by
  have hs : ShP a 77 := ⟨ha, by decide, fun v h => by have := hv v h; omega⟩
  obtain ⟨h1, h2⟩ := sh_yes hs
  refine ⟨h2, h1, sh_ok hs, fun v h => ?_, can_eq_of ha.2 (fun x _ y _ e => by have h : x + 77 = y + 77 := e; omega) rfl⟩
  rw [ren_vl ha.2] at h
  obtain ⟨u, hu, rfl⟩ := List.mem_map.1 h
  have := (good_vrange ha.2 u hu).1
  omega
end Go.Proofs.Ytoihimdfmncdoaa

