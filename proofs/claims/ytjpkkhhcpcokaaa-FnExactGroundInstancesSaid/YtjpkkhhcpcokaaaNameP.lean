/-
  Canonical names, plain: the order in which variables first occur, the index in it, terms with other variables.
-/
import Derived.Test.YtjpkkhhcpcokaaaUnifT
import Derived.Test.YtjpkkhhcpcokaaaMatchP
import Derived.Test.YtjpkkhhcpcokaaaEachT
namespace Go.Proofs.Ytjpkkhhcpcokaaa
open Go.RowKit
set_option linter.unusedVariables false
set_option linter.unusedSimpArgs false

/-! ### The order of first occurrence -/
def ordAdd (k : List Int) (v : Int) : List Int := if v ∈ k then k else k ++ [v]
def ordL (k vs : List Int) : List Int := vs.foldl ordAdd k
theorem ordAdd_in {k : List Int} {v : Int} (h : v ∈ k) : ordAdd k v = k := if_pos h
theorem ordAdd_out {k : List Int} {v : Int} (h : ¬ v ∈ k) : ordAdd k v = k ++ [v] := if_neg h
theorem ordL_nil (k : List Int) : ordL k [] = k := rfl
theorem ordL_cons (k : List Int) (v : Int) (vs : List Int) : ordL k (v :: vs) = ordL (ordAdd k v) vs := rfl
theorem ordL_append (k a b : List Int) : ordL k (a ++ b) = ordL (ordL k a) b := by unfold ordL; rw [List.foldl_append]
theorem ordAdd_mem {k : List Int} {v x : Int} : x ∈ ordAdd k v ↔ x ∈ k ∨ x = v := by
  unfold ordAdd
  split
  · rename_i h
    constructor
    · exact fun hx => .inl hx
    · rintro (hx | rfl)
      · exact hx
      · exact h
  · rw [List.mem_append, List.mem_singleton]
theorem ordAdd_nodup {k : List Int} {v : Int} (h : k.Nodup) : (ordAdd k v).Nodup := by
  unfold ordAdd
  split
  · exact h
  · rename_i hv
    rw [List.nodup_append]
    refine ⟨h, by simp, fun a ha b hb => ?_⟩
    rw [List.mem_singleton] at hb
    subst hb
    intro e
    subst e
    exact hv ha
theorem ordAdd_pre (k : List Int) (v : Int) : ∃ m, ordAdd k v = k ++ m := by
  unfold ordAdd
  split
  · exact ⟨[], by rw [List.append_nil]⟩
  · exact ⟨[v], rfl⟩
theorem ordAdd_len (k : List Int) (v : Int) : (ordAdd k v).length ≤ k.length + 1 := by
  unfold ordAdd
  split
  · omega
  · rw [List.length_append]; exact Nat.le_refl _
theorem ordL_mem {x : Int} : ∀ (vs k : List Int), x ∈ ordL k vs ↔ x ∈ k ∨ x ∈ vs
  | [], k => by rw [ordL_nil]; simp
  | v :: vs, k => by
    rw [ordL_cons, ordL_mem vs, ordAdd_mem, List.mem_cons]
    constructor
    · rintro ((h | h) | h)
      · exact .inl h
      · exact .inr (.inl h)
      · exact .inr (.inr h)
    · rintro (h | h | h)
      · exact .inl (.inl h)
      · exact .inl (.inr h)
      · exact .inr h
theorem ordL_nodup : ∀ (vs k : List Int), k.Nodup → (ordL k vs).Nodup
  | [], k, h => h
  | v :: vs, k, h => by rw [ordL_cons]; exact ordL_nodup vs _ (ordAdd_nodup h)
theorem ordL_pre : ∀ (vs k : List Int), ∃ m, ordL k vs = k ++ m
  | [], k => ⟨[], by rw [ordL_nil, List.append_nil]⟩
  | v :: vs, k => by
    obtain ⟨m, hm⟩ := ordAdd_pre k v
    obtain ⟨m', hm'⟩ := ordL_pre vs (ordAdd k v)
    exact ⟨m ++ m', by rw [ordL_cons, hm', hm, List.append_assoc]⟩
theorem ordL_len : ∀ (vs k : List Int), (ordL k vs).length ≤ k.length + vs.length
  | [], k => by rw [ordL_nil]; exact Nat.le_refl _
  | v :: vs, k => by
    have h1 := ordL_len vs (ordAdd k v)
    have h2 := ordAdd_len k v
    rw [ordL_cons, List.length_cons]
    omega
theorem nodup_nil : ([] : List Int).Nodup := List.nodup_nil

/-! ### The index -/
def idxI : List Int → Int → Nat
  | [], _ => 0
  | x :: l, v => if x = v then 0 else idxI l v + 1
theorem idxI_le : ∀ (k : List Int) (v : Int), idxI k v ≤ k.length
  | [], _ => Nat.le_refl _
  | x :: l, v => by
    rw [idxI, List.length_cons]
    split
    · omega
    · have := idxI_le l v; omega
theorem idxI_in : ∀ {k : List Int} {v : Int}, v ∈ k → k[idxI k v]? = some v
  | x :: l, v, h => by
    rw [idxI]
    split
    · rename_i e; subst e; rfl
    · rename_i e
      rcases List.mem_cons.1 h with h | h
      · exact absurd h.symm e
      · rw [List.getElem?_cons_succ]; exact idxI_in h
theorem idxI_lt {k : List Int} {v : Int} (h : v ∈ k) : idxI k v < k.length := (List.getElem?_eq_some_iff.1 (idxI_in h)).1
theorem idxI_out : ∀ {k : List Int} {v : Int}, ¬ v ∈ k → idxI k v = k.length
  | [], v, _ => rfl
  | x :: l, v, h => by
    rw [idxI, if_neg (fun e => h (by rw [e]; exact List.mem_cons_self ..)), idxI_out (fun e => h (List.mem_cons_of_mem _ e))]
    rfl
theorem idxI_app : ∀ {k : List Int} {v : Int} (m : List Int), v ∈ k → idxI (k ++ m) v = idxI k v
  | x :: l, v, m, h => by
    rw [List.cons_append, idxI, idxI]
    split
    · rfl
    · rename_i e
      rcases List.mem_cons.1 h with h | h
      · exact absurd h.symm e
      · rw [idxI_app m h]
theorem idxI_at : ∀ {k : List Int} {i : Nat} {v : Int}, k.Nodup → k[i]? = some v → idxI k v = i
  | x :: l, 0, v, _, h => by
    rw [List.getElem?_cons_zero] at h
    cases h
    rw [idxI, if_pos rfl]
  | x :: l, i + 1, v, hn, h => by
    rw [List.getElem?_cons_succ] at h
    obtain ⟨h1, h2⟩ := List.nodup_cons.1 hn
    rw [idxI, if_neg (fun e => h1 (by rw [e]; exact List.mem_of_getElem? h)), idxI_at h2 h]
theorem idxI_add (k : List Int) (v : Int) : idxI (ordAdd k v) v = idxI k v := by
  by_cases h : v ∈ k
  · rw [ordAdd_in h]
  · rw [ordAdd_out h, idxI_out h]
    have : (k ++ [v])[k.length]? = some v := by simp
    have hl : ∀ {l : List Int}, ¬ v ∈ l → idxI (l ++ [v]) v = l.length := by
      intro l
      induction l with
      | nil => intro _; rw [List.nil_append, idxI, if_pos rfl]; rfl
      | cons x l ih =>
        intro hx
        rw [List.cons_append, idxI, if_neg (fun e => hx (by rw [e]; exact List.mem_cons_self ..)), ih (fun e => hx (List.mem_cons_of_mem _ e))]
        rfl
    exact hl h
/-- The index of a variable is not changed by what comes behind it. -/
theorem idxI_ext {k vs : List Int} {v : Int} (h : v ∈ k) : idxI (ordL k vs) v = idxI k v := by
  obtain ⟨m, hm⟩ := ordL_pre vs k
  rw [hm, idxI_app m h]
theorem idxI_first (k : List Int) (v : Int) (vs : List Int) : idxI (ordL k (v :: vs)) v = idxI k v := by
  rw [ordL_cons, idxI_ext (ordAdd_mem.2 (.inr rfl)), idxI_add]

/-! ### Terms with other variables -/
def renT (f : Int → Int) (t : Tm) : Tm := evT (fun v => varTm (f v)) t
theorem ren_var {f : Int → Int} {t : Tm} (h : Good t) (hk : t.kind = 1) : renT f t = varTm (f t.num) := by
  rw [var_is h hk]
  exact ev_varTm _ _
theorem ren_pair (f : Int → Int) (a b : Tm) : renT f (.mk 4 0 ⟨#[]⟩ [a, b]) = .mk 4 0 ⟨#[]⟩ [renT f a, renT f b] := ev_pair _ _ _
theorem ren_atom {f : Int → Int} {t : Tm} (h : Good t) (h1 : ¬ t.kind = 1) (h4 : ¬ t.kind = 4) : renT f t = t := by
  obtain ⟨k, i, s, l⟩ := t
  have : l = [] := h.fit.atom h4
  subst this
  exact ev_leaf _ h1
theorem ren_congr {f g : Int → Int} {t : Tm} (h : Good t) (hv : ∀ v ∈ t.vl, f v = g v) : renT f t = renT g t := ev_congr h fun v hv' => by rw [hv v hv']
theorem ren_self {t : Tm} (h : Good t) : renT (fun v => v) t = t := ev_self h
theorem ren_nodes {f : Int → Int} {t : Tm} (h : Good t) : (renT f t).nodes = t.nodes := by
  induction h with
  | nil => rw [ren_atom .nil (by simp [Tm.kind]) (by simp [Tm.kind])]
  | var i h0 h1 => rw [ren_var (.var i h0 h1) rfl]; rfl
  | sym s hs => rw [ren_atom (.sym s hs) (by simp [Tm.kind]) (by simp [Tm.kind])]
  | int i h0 h1 => rw [ren_atom (.int i h0 h1) (by simp [Tm.kind]) (by simp [Tm.kind])]
  | pair a b ha hb iha ihb => rw [ren_pair, nodes_two, nodes_two, iha, ihb]
theorem sz_two (k i : Int) (s : ByteArray) (x y : Tm) : (Tm.mk k i s [x, y]).sz = s.size + (1 + x.sz + (1 + y.sz + 0)) := by
  rw [sz_eq]
  show s.size + szL [x, y] = _
  rw [szL, szL, szL]
theorem ren_sz {f : Int → Int} {t : Tm} (h : Good t) : (renT f t).sz = t.sz := by
  induction h with
  | nil => rw [ren_atom .nil (by simp [Tm.kind]) (by simp [Tm.kind])]
  | var i h0 h1 => rw [ren_var (.var i h0 h1) rfl]; rfl
  | sym s hs => rw [ren_atom (.sym s hs) (by simp [Tm.kind]) (by simp [Tm.kind])]
  | int i h0 h1 => rw [ren_atom (.int i h0 h1) (by simp [Tm.kind]) (by simp [Tm.kind])]
  | pair a b ha hb iha ihb => rw [ren_pair, sz_two, sz_two, iha, ihb]
theorem ren_good {f : Int → Int} {t : Tm} (h : Good t) (hf : ∀ v ∈ t.vl, 0 ≤ f v ∧ f v ≤ 100000) : Good (renT f t) := by
  induction h with
  | nil => rw [ren_atom .nil (by simp [Tm.kind]) (by simp [Tm.kind])]; exact .nil
  | var i h0 h1 => rw [ren_var (.var i h0 h1) rfl]; exact .var _ (hf i (by rw [vl_of_var rfl]; exact List.mem_cons_self ..)).1 (hf i (by rw [vl_of_var rfl]; exact List.mem_cons_self ..)).2
  | sym s hs => rw [ren_atom (.sym s hs) (by simp [Tm.kind]) (by simp [Tm.kind])]; exact .sym s hs
  | int i h0 h1 => rw [ren_atom (.int i h0 h1) (by simp [Tm.kind]) (by simp [Tm.kind])]; exact .int i h0 h1
  | pair a b ha hb iha ihb =>
    rw [ren_pair]
    exact .pair _ _ (iha fun v hv => hf v (by rw [vl_pair]; exact List.mem_append_left _ hv)) (ihb fun v hv => hf v (by rw [vl_pair]; exact List.mem_append_right _ hv))
theorem ren_vl {f : Int → Int} {t : Tm} (h : Good t) : (renT f t).vl = t.vl.map f := by
  induction h with
  | nil => rw [ren_atom .nil (by simp [Tm.kind]) (by simp [Tm.kind])]; rfl
  | var i h0 h1 => rw [ren_var (.var i h0 h1) rfl, vl_of_var rfl, vl_of_var rfl]; rfl
  | sym s hs => rw [ren_atom (.sym s hs) (by simp [Tm.kind]) (by simp [Tm.kind])]; rfl
  | int i h0 h1 => rw [ren_atom (.int i h0 h1) (by simp [Tm.kind]) (by simp [Tm.kind])]; rfl
  | pair a b ha hb iha ihb => rw [ren_pair, vl_pair, vl_pair, List.map_append, iha, ihb]
/-- No variable leaves the range: the renamed term is one only if each number is one. -/
theorem ren_good_inv {f : Int → Int} {t : Tm} (h : Good t) (hg : Good (renT f t)) : ∀ v ∈ t.vl, 0 ≤ f v ∧ f v ≤ 100000 := fun v hv =>
  good_vrange hg (f v) (by rw [ren_vl h]; exact List.mem_map_of_mem hv)

/-! ### The five functions -/
def ordOf (l : List Tm) : List Int := ordL [] (vlL l)
/-- OrderedVars. -/
noncomputable def ovL (l : List Tm) : List Int := if l.all okB = true then ordOf l else []
theorem ov_yes {l : List Tm} (h : l.all okB = true) : ovL l = ordOf l := if_pos h
theorem ov_no {l : List Tm} (h : l.all okB = false) : ovL l = [] := if_neg (by rw [h]; exact Bool.false_ne_true)
theorem vlL_nodes (l : List Tm) : (vlL l).length ≤ szL l := Nat.le_trans (vlL_len l) (nodesL_sz l)
theorem nodup_short : ∀ {l m : List Int}, l.Nodup → (∀ x ∈ l, x ∈ m) → l.length ≤ m.length
  | [], _, _, _ => Nat.zero_le _
  | x :: l, m, hn, h => by
    obtain ⟨h1, h2⟩ := List.nodup_cons.1 hn
    have hx := h x (List.mem_cons_self ..)
    have h3 := nodup_short (m := m.erase x) h2 fun y hy => (List.mem_erase_of_ne (fun e => h1 (by rw [← e]; exact hy))).2 (h y (List.mem_cons_of_mem _ hy))
    rw [List.length_erase_of_mem hx] at h3
    have h4 := List.length_pos_of_mem hx
    rw [List.length_cons]
    omega
theorem short_range {l : List Int} (hn : l.Nodup) (h : ∀ v ∈ l, 0 ≤ v ∧ v ≤ 100000) : l.length ≤ 100001 := by
  have h1 := nodup_short (m := (List.range 100001).map Int.ofNat) hn fun v hv => by
    obtain ⟨h2, h3⟩ := h v hv
    exact List.mem_map.2 ⟨v.toNat, List.mem_range.2 (by omega), by rw [Int.ofNat_eq_natCast]; omega⟩
  rwa [List.length_map, List.length_range] at h1
theorem ord_short {vs : List Int} (h : ∀ v ∈ vs, 0 ≤ v ∧ v ≤ 100000) : (ordL [] vs).length ≤ 100001 :=
  short_range (ordL_nodup vs [] List.nodup_nil) fun v hv => h v (((ordL_mem vs []).1 hv).resolve_left (by simp))
/-- 1 more than the greatest. -/
def bndL (vs : List Int) : Int := vs.foldl (fun m v => if m < v + 1 then v + 1 else m) 0
theorem bnd_from (vs : List Int) (m b : Int) : vs.foldl (fun m v => if m < v + 1 then v + 1 else m) m ≤ b ↔ m ≤ b ∧ ∀ v ∈ vs, v + 1 ≤ b := by
  induction vs generalizing m with
  | nil => simp
  | cons v vs ih =>
    rw [List.foldl_cons, ih]
    constructor
    · rintro ⟨h1, h2⟩
      refine ⟨by split at h1 <;> omega, fun x hx => ?_⟩
      rcases List.mem_cons.1 hx with rfl | hx
      · split at h1 <;> omega
      · exact h2 x hx
    · rintro ⟨h1, h2⟩
      have := h2 v (List.mem_cons_self ..)
      exact ⟨by split <;> omega, fun x hx => h2 x (List.mem_cons_of_mem _ hx)⟩
theorem bnd_le {vs : List Int} {b : Int} : bndL vs ≤ b ↔ 0 ≤ b ∧ ∀ v ∈ vs, v + 1 ≤ b := bnd_from vs 0 b
theorem bnd_congr {a b : List Int} (h : ∀ x, x ∈ a ↔ x ∈ b) : bndL a = bndL b := by
  refine Int.le_antisymm ?_ ?_
  · rw [bnd_le]
    have := (bnd_le (vs := b) (b := bndL b)).1 (Int.le_refl _)
    exact ⟨this.1, fun v hv => this.2 v ((h v).1 hv)⟩
  · rw [bnd_le]
    have := (bnd_le (vs := a) (b := bndL a)).1 (Int.le_refl _)
    exact ⟨this.1, fun v hv => this.2 v ((h v).2 hv)⟩
theorem bnd_snoc (a : List Int) (v : Int) : bndL (a ++ [v]) = if bndL a < v + 1 then v + 1 else bndL a := by unfold bndL; rw [List.foldl_append]; rfl
theorem bnd_pos (a : List Int) : 0 ≤ bndL a := ((bnd_le (vs := a) (b := bndL a)).1 (Int.le_refl _)).1
theorem bnd_nil : bndL [] = 0 := rfl
/-- VarBound. -/
noncomputable def vbI (l : List Tm) : Int := if l.all okB = true then bndL (vlL l) else -1
theorem vb_yes {l : List Tm} (h : l.all okB = true) : vbI l = bndL (vlL l) := if_pos h
theorem vb_no {l : List Tm} (h : l.all okB = false) : vbI l = -1 := if_neg (by rw [h]; exact Bool.false_ne_true)
theorem vb_ord (l : List Tm) : bndL (ordOf l) = bndL (vlL l) := bnd_congr fun x => by unfold ordOf; rw [ordL_mem]; simp
theorem mem_vlL {v : Int} : ∀ {l : List Tm}, v ∈ vlL l ↔ ∃ t ∈ l, v ∈ t.vl
  | [] => by rw [vlL]; simp
  | t :: l => by
    rw [vlL, List.mem_append, mem_vlL (l := l)]
    constructor
    · rintro (h | ⟨u, hu, hv⟩)
      · exact ⟨t, List.mem_cons_self .., h⟩
      · exact ⟨u, List.mem_cons_of_mem _ hu, hv⟩
    · rintro ⟨u, hu, hv⟩
      rcases List.mem_cons.1 hu with rfl | hu
      · exact .inl hv
      · exact .inr ⟨u, hu, hv⟩
theorem all_ok {l : List Tm} (h : l.all okB = true) : ∀ t ∈ l, Ok t := fun t ht => okB_true.1 (List.all_eq_true.1 h t ht)
theorem vl_range {l : List Tm} (h : l.all okB = true) : ∀ v ∈ vlL l, 0 ≤ v ∧ v ≤ 100000 := fun v hv => by
  obtain ⟨t, ht, hv'⟩ := mem_vlL.1 hv
  exact good_vrange (all_ok h t ht).2 v hv'
theorem ord_len {l : List Tm} (h : l.all okB = true) : (ordOf l).length ≤ 100001 := ord_short (vl_range h)
theorem ov_len (l : List Tm) : (ovL l).length ≤ 100001 := by
  unfold ovL
  split
  · rename_i h; exact ord_len h
  · exact Nat.zero_le _
theorem ov_max (l : List Tm) : (ovL l).length ≤ maxLen := by have := ov_len l; unfold maxLen; omega
theorem bnd_max {l : List Tm} (h : l.all okB = true) : bndL (vlL l) ≤ 100001 := bnd_le.2 ⟨by decide, fun v hv => by have := (vl_range h v hv).2; omega⟩
theorem vb_range (l : List Tm) : -1 ≤ vbI l ∧ vbI l ≤ 100001 := by
  unfold vbI
  split
  · rename_i h
    have := bnd_max h
    have := bnd_pos (vlL l)
    omega
  · exact ⟨by decide, by decide⟩
/-- ShiftTerm. -/
def ShP (t : Tm) (n : Int) : Prop := Ok t ∧ 0 ≤ n ∧ ∀ v ∈ t.vl, v + n ≤ 100000
open Classical in
noncomputable def shB (t : Tm) (n : Int) : Bool := decide (ShP t n)
open Classical in
noncomputable def shT (t : Tm) (n : Int) : Tm := if ShP t n then renT (fun v => v + n) t else zeroTm
open Classical in
theorem sh_yes {t : Tm} {n : Int} (h : ShP t n) : shT t n = renT (fun v => v + n) t ∧ shB t n = true := ⟨if_pos h, decide_eq_true h⟩
open Classical in
theorem sh_no {t : Tm} {n : Int} (h : ¬ ShP t n) : shT t n = zeroTm ∧ shB t n = false := ⟨if_neg h, decide_eq_false h⟩
theorem sh_ok {t : Tm} {n : Int} (h : ShP t n) : Ok (renT (fun v => v + n) t) :=
  ⟨by rw [ren_nodes h.1.2]; exact h.1.1, ren_good h.1.2 fun v hv => ⟨by have := (good_vrange h.1.2 v hv).1; have := h.2.1; omega, h.2.2 v hv⟩⟩
theorem sh_sz (t : Tm) (n : Int) : (shT t n).sz ≤ 1048576 := by
  by_cases h : ShP t n
  · rw [(sh_yes h).1]
    have h1 := sh_ok h
    have h2 := good_sz h1.2
    have h3 := h1.1
    omega
  · rw [(sh_no h).1]
    exact Nat.zero_le _
/-- One renamed term of Canonical. -/
def canT (k : List Int) (t : Tm) : Tm := renT (fun v => (idxI k v : Int)) t
/-- Canonical. -/
noncomputable def cnL (l : List Tm) : List Tm := if l.all okB = true then l.map (canT (ordOf l)) else []
theorem cn_yes {l : List Tm} (h : l.all okB = true) : cnL l = l.map (canT (ordOf l)) := if_pos h
theorem cn_no {l : List Tm} (h : l.all okB = false) : cnL l = [] := if_neg (by rw [h]; exact Bool.false_ne_true)
theorem cn_each {l : List Tm} (h : EachT l) : EachT (cnL l) := by
  unfold cnL
  split
  · rename_i ha
    refine ⟨by rw [List.length_map]; exact h.1, fun t ht => ?_⟩
    obtain ⟨u, hu, rfl⟩ := List.mem_map.1 ht
    unfold canT
    rw [ren_sz (all_ok ha u hu).2]
    exact h.2 u hu
  · exact ⟨Nat.zero_le _, fun t ht => by cases ht⟩
theorem nodesL_most {l : List Tm} (h : ∀ t ∈ l, t.nodes ≤ 5000) : nodesL l ≤ 5000 * l.length := by
  induction l with
  | nil => rw [nodesL]; exact Nat.zero_le _
  | cons t l ih =>
    have h1 := ih fun u hu => h u (List.mem_cons_of_mem _ hu)
    have h2 := h t (List.mem_cons_self ..)
    rw [nodesL, List.length_cons]
    omega
theorem cn_nodes {l : List Tm} (h : EachT l) : nodesL (cnL l) ≤ 5242885000 := by
  unfold cnL
  split
  · rename_i ha
    have h1 := nodesL_most (l := l.map (canT (ordOf l))) fun t ht => by
      obtain ⟨u, hu, rfl⟩ := List.mem_map.1 ht
      unfold canT
      rw [ren_nodes (all_ok ha u hu).2]
      exact (all_ok ha u hu).1
    rw [List.length_map] at h1
    have := h.1
    omega
  · rw [nodesL]; exact Nat.zero_le _
/-- Reify. -/
def ReP (s : List Bd) (l : List Tm) : Prop := SubstP s ∧ l.all okB = true ∧ ∀ t ∈ l, (putT s t).nodes ≤ 5000
open Classical in
noncomputable def reB (s : List Bd) (l : List Tm) : Bool := decide (ReP s l)
open Classical in
noncomputable def reL (s : List Bd) (l : List Tm) : List Tm := if ReP s l then cnL (l.map (putT s)) else []
open Classical in
theorem re_yes {s : List Bd} {l : List Tm} (h : ReP s l) : reL s l = cnL (l.map (putT s)) ∧ reB s l = true := ⟨if_pos h, decide_eq_true h⟩
open Classical in
theorem re_no {s : List Bd} {l : List Tm} (h : ¬ ReP s l) : reL s l = [] ∧ reB s l = false := ⟨if_neg h, decide_eq_false h⟩
theorem re_ok {s : List Bd} {l : List Tm} (h : ReP s l) : (l.map (putT s)).all okB = true := by
  rw [List.all_eq_true]
  intro x hx
  obtain ⟨t, ht, rfl⟩ := List.mem_map.1 hx
  exact okB_true.2 ⟨h.2.2 t ht, (putT_fine h.1 (all_ok h.2.1 t ht)).1⟩
theorem map_each {l : List Tm} (h : l.all okB = true) (hl : l.length ≤ 1048577) : EachT l := ⟨hl, fun t ht => by
  have h1 := all_ok h t ht
  have h2 := good_sz h1.2
  have h3 := h1.1
  omega⟩
theorem re_each {s : List Bd} {l : List Tm} (h : EachT l) : EachT (reL s l) := by
  by_cases hr : ReP s l
  · rw [(re_yes hr).1]
    exact cn_each (map_each (re_ok hr) (by rw [List.length_map]; exact h.1))
  · rw [(re_no hr).1]
    exact ⟨Nat.zero_le _, fun t ht => by cases ht⟩
theorem re_nodes {s : List Bd} {l : List Tm} (h : EachT l) : nodesL (reL s l) ≤ 5242885000 := by
  by_cases hr : ReP s l
  · rw [(re_yes hr).1]
    exact cn_nodes (map_each (re_ok hr) (by rw [List.length_map]; exact h.1))
  · rw [(re_no hr).1, nodesL]
    exact Nat.zero_le _

/-! ### The numbers handed out so far -/
/-- What a map of numbers says of an order. -/
def OrdF (k : List Int) (f : Int → Option Nat) : Prop := k.Nodup ∧ ∀ v i, f v = some i ↔ k[i]? = some v
theorem ordF_nil : OrdF [] (fun _ => none) := ⟨List.nodup_nil, fun v i => by simp⟩
theorem OrdF.in_ {k : List Int} {f : Int → Option Nat} (h : OrdF k f) {v : Int} {i : Nat} (hf : f v = some i) : v ∈ k ∧ idxI k v = i := ⟨List.mem_of_getElem? ((h.2 v i).1 hf), idxI_at h.1 ((h.2 v i).1 hf)⟩
theorem OrdF.out {k : List Int} {f : Int → Option Nat} (h : OrdF k f) {v : Int} (hf : f v = none) : ¬ v ∈ k := fun hv => by
  have := (h.2 v _).2 (idxI_in hv)
  rw [hf] at this
  cases this
end Go.Proofs.Ytjpkkhhcpcokaaa

