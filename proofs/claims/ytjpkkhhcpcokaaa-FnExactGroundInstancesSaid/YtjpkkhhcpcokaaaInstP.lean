/-
  Ground instances by assignments, plain: the program's list is the model's.
-/
import Derived.Test.YtjpkkhhcpcokaaaSpecInst
import Derived.Test.YtjpkkhhcpcokaaaNameP
import Derived.Test.YtjpkkhhcpcokaaaUnifT
import Derived.Test.YtjpkkhhcpcokaaaAscT
namespace Go.Proofs.Ytjpkkhhcpcokaaa
open Go.RowKit
set_option linter.unusedVariables false

/-- All ways to give each variable a value, in the order of the values of the first one, and so on. -/
def asgL (u : List Tm) : List Int → List (List Bd)
  | [] => [[]]
  | v :: vs => u.flatMap fun x => (asgL u vs).map fun s => (⟨v, x⟩ : Bd) :: s
theorem asg_mem {u : List Tm} : ∀ {vs : List Int} {s : List Bd}, s ∈ asgL u vs ↔ s.map (fun b => b.v) = vs ∧ ∀ b ∈ s, b.t ∈ u
  | [], s => by
    rw [asgL, List.mem_singleton]
    constructor
    · rintro rfl; exact ⟨rfl, fun b h => by cases h⟩
    · rintro ⟨h, _⟩; exact List.map_eq_nil_iff.1 h
  | v :: vs, s => by
    rw [asgL, List.mem_flatMap]
    constructor
    · rintro ⟨x, hx, h⟩
      obtain ⟨s', hs', rfl⟩ := List.mem_map.1 h
      obtain ⟨h1, h2⟩ := asg_mem.1 hs'
      refine ⟨by rw [List.map_cons, h1], fun b hb => ?_⟩
      rcases List.mem_cons.1 hb with rfl | hb
      · exact hx
      · exact h2 b hb
    · rintro ⟨h1, h2⟩
      cases s with
      | nil => cases h1
      | cons b s' =>
        rw [List.map_cons] at h1
        injection h1 with e1 e2
        refine ⟨b.t, h2 b (by simp), List.mem_map.2 ⟨s', asg_mem.2 ⟨e2, fun c hc => h2 c (by simp [hc])⟩, ?_⟩⟩
        cases b
        subst e1
        rfl
theorem sum_rep (k : Nat) : ∀ n : Nat, (List.replicate n k).sum = n * k
  | 0 => by simp
  | n + 1 => by rw [List.replicate_succ, List.sum_cons, sum_rep k n, Nat.succ_mul, Nat.add_comm]
theorem asg_len {u : List Tm} : ∀ vs : List Int, (asgL u vs).length = u.length ^ vs.length
  | [] => rfl
  | v :: vs => by
    rw [asgL, List.length_flatMap]
    have h : (u.map fun x => ((asgL u vs).map fun s => (⟨v, x⟩ : Bd) :: s).length) = List.replicate u.length (u.length ^ vs.length) := by
      rw [List.eq_replicate_iff]
      refine ⟨by simp, fun k hk => ?_⟩
      obtain ⟨x, _, rfl⟩ := List.mem_map.1 hk
      rw [List.length_map, asg_len vs]
    rw [h, sum_rep, List.length_cons, Nat.pow_succ, Nat.mul_comm]

/-- One list of values comes before another one, for the same variables. -/
def LexB : List Bd → List Bd → Prop
  | a :: s, b :: t => a.t.cmp b.t < 0 ∨ (a.t = b.t ∧ LexB s t)
  | _, _ => False
theorem asg_asc {u : List Tm} (hu : u.Pairwise fun a b => a.cmp b < 0) : ∀ vs : List Int, (asgL u vs).Pairwise LexB
  | [] => List.pairwise_singleton _ _
  | v :: vs => by
    rw [asgL, List.pairwise_flatMap]
    refine ⟨fun x hx => ?_, hu.imp fun {a b} h s hs t ht => ?_⟩
    · rw [List.pairwise_map]
      exact (asg_asc hu vs).imp fun {a b} h => .inr ⟨rfl, h⟩
    · obtain ⟨s', _, rfl⟩ := List.mem_map.1 hs
      obtain ⟨t', _, rfl⟩ := List.mem_map.1 ht
      exact .inl h

/-- The value of a variable. -/
def valB (s : List Bd) (v : Int) : Tm := (getO s v).getD (varTm v)
theorem putT_valB (s : List Bd) (i : Int) : putT s (varTm i) = valB s i := by
  unfold valB
  cases h : getO s i with
  | none => exact putT_free h
  | some y => exact putT_of h
/-- The first variable at which two assignments differ has a smaller value. -/
def Dl (f g : Int → Tm) (occ : List Int) : Prop := ∃ pre v post, occ = pre ++ v :: post ∧ (∀ x ∈ pre, f x = g x) ∧ (f v).cmp (g v) < 0
theorem dl_no {f g : Int → Tm} {k : List Int} (h : ∀ x ∈ k, f x = g x) : ¬ Dl f g k := by
  rintro ⟨pre, v, post, rfl, _, hc⟩
  rw [h v (by simp), cmpT_self] at hc
  omega
theorem dl_ord {f g : Int → Tm} : ∀ (occ k : List Int), (∀ x ∈ k, f x = g x) → Dl f g (ordL k occ) → Dl f g occ
  | [], k, hk, h => absurd h (by rw [ordL_nil]; exact dl_no hk)
  | x :: occ, k, hk, h => by
    rw [ordL_cons] at h
    by_cases hx : f x = g x
    · obtain ⟨pre, v, post, e, h1, h2⟩ := dl_ord occ (ordAdd k x) (fun y hy => by
        rcases ordAdd_mem.1 hy with hy | rfl
        · exact hk y hy
        · exact hx) h
      refine ⟨x :: pre, v, post, by rw [e, List.cons_append], fun y hy => ?_, h2⟩
      rcases List.mem_cons.1 hy with rfl | hy
      · exact hx
      · exact h1 y hy
    · have hn : ¬ x ∈ k := fun h => hx (hk x h)
      rw [ordAdd_out hn] at h
      obtain ⟨m, hm⟩ := ordL_pre occ (k ++ [x])
      rw [hm, List.append_assoc] at h
      obtain ⟨pre, v, post, e, h1, h2⟩ := h
      -- v stands where x does
      have hv : v = x := by
        rcases List.append_eq_append_iff.1 e with ⟨a', e1, e2⟩ | ⟨c', e1, e2⟩
        · cases a' with
          | nil =>
            rw [List.nil_append] at e2
            simp only [List.cons_append, List.nil_append] at e2
            injection e2 with e3 _
            exact e3.symm
          | cons y a'' =>
            simp only [List.cons_append, List.nil_append] at e2
            injection e2 with e3 e4
            exact absurd (h1 x (by rw [e1, e3]; simp)) hx
        · cases c' with
          | nil =>
            simp only [List.cons_append, List.nil_append] at e2
            injection e2 with e3 _
          | cons y c'' =>
            rw [List.cons_append] at e2
            injection e2 with e3 e4
            have : v ∈ k := by rw [e1, e3]; simp
            rw [hk v this, cmpT_self] at h2
            omega
      subst hv
      exact ⟨[], v, occ, rfl, fun y hy => by simp at hy, h2⟩
theorem lex_dl : ∀ {vs : List Int} {s t : List Bd}, vs.Nodup → s.map (fun b => b.v) = vs → t.map (fun b => b.v) = vs → LexB s t → Dl (valB s) (valB t) vs
  | [], s, t, _, hs, ht, h => by
    rw [List.map_eq_nil_iff.1 hs] at h
    exact h.elim
  | v :: vs, s, t, hn, hs, ht, h => by
    cases s with
    | nil => cases hs
    | cons a s =>
    cases t with
    | nil => cases ht
    | cons b t =>
    rw [List.map_cons] at hs ht
    injection hs with a1 a2
    injection ht with b1 b2
    have hself : valB (a :: s) v = a.t := by rw [valB, getO, if_pos a1]; rfl
    have hself' : valB (b :: t) v = b.t := by rw [valB, getO, if_pos b1]; rfl
    rcases h with h | ⟨h1, h2⟩
    · exact ⟨[], v, vs, rfl, fun x hx => by simp at hx, by rw [hself, hself']; exact h⟩
    · obtain ⟨hn1, hn2⟩ := List.nodup_cons.1 hn
      obtain ⟨pre, w, post, e, h3, h4⟩ := lex_dl hn2 a2 b2 h2
      have hne : ∀ x ∈ vs, valB (a :: s) x = valB s x ∧ valB (b :: t) x = valB t x := fun x hx => by
        have hxv : ¬ v = x := fun e => hn1 (e ▸ hx)
        exact ⟨by rw [valB, getO, if_neg (by rw [a1]; exact hxv)]; rfl, by rw [valB, getO, if_neg (by rw [b1]; exact hxv)]; rfl⟩
      refine ⟨v :: pre, w, post, by rw [e, List.cons_append], fun x hx => ?_, ?_⟩
      · rcases List.mem_cons.1 hx with rfl | hx
        · rw [hself, hself', h1]
        · obtain ⟨e1, e2⟩ := hne x (by rw [e]; simp [hx])
          rw [e1, e2]; exact h3 x hx
      · obtain ⟨e1, e2⟩ := hne w (by rw [e]; simp)
        rw [e1, e2]; exact h4
theorem cmp_two (a b c d : Tm) : (Tm.mk 4 0 ⟨#[]⟩ [a, b]).cmp (Tm.mk 4 0 ⟨#[]⟩ [c, d]) = if ¬ a.cmp c = 0 then a.cmp c else b.cmp d := by
  rw [cmp_by_args (a := Tm.mk 4 0 ⟨#[]⟩ [a, b]) (b := Tm.mk 4 0 ⟨#[]⟩ [c, d]) rfl rfl rfl]
  show cmpL [a, b] [c, d] = _
  by_cases h : a.cmp c = 0
  · rw [cmpL_two h, cmpL_last, if_neg (by omega)]
  · rw [cmpL_one h, if_pos h]
theorem put_eqv {s t : List Bd} {x : Tm} (h : Good x) (hv : ∀ v ∈ x.vl, valB s v = valB t v) : putT s x = putT t x := by
  induction h with
  | nil => rw [putT_atom (s := s) (by simp [Tm.kind]) (by simp [Tm.kind]), putT_atom (by simp [Tm.kind]) (by simp [Tm.kind])]
  | sym n hn => rw [putT_atom (s := s) (by simp [Tm.kind]) (by simp [Tm.kind]), putT_atom (by simp [Tm.kind]) (by simp [Tm.kind])]
  | int r h0 h1 => rw [putT_atom (s := s) (by simp [Tm.kind]) (by simp [Tm.kind]), putT_atom (by simp [Tm.kind]) (by simp [Tm.kind])]
  | var i h0 h1 =>
    have e1 : putT s (Tm.mk 1 i ⟨#[]⟩ []) = valB s i := putT_valB s i
    have e2 : putT t (Tm.mk 1 i ⟨#[]⟩ []) = valB t i := putT_valB t i
    rw [e1, e2]
    exact hv i (by simp [Tm.vl])
  | pair x y _ _ ihx ihy =>
    rw [vl_pair] at hv
    rw [putT_two (s := s) (x := x) (y := y) rfl rfl, putT_two (s := t) (x := x) (y := y) rfl rfl, ihx fun v h => hv v (List.mem_append_left _ h), ihy fun v h => hv v (List.mem_append_right _ h)]
theorem put_lt {s t : List Bd} {x : Tm} (h : Good x) : Dl (valB s) (valB t) x.vl → (putT s x).cmp (putT t x) < 0 := by
  induction h with
  | nil => rintro ⟨pre, v, post, e, _⟩; simp [Tm.vl, vlL] at e
  | sym n hn => rintro ⟨pre, v, post, e, _⟩; simp [Tm.vl, vlL] at e
  | int r h0 h1 => rintro ⟨pre, v, post, e, _⟩; simp [Tm.vl, vlL] at e
  | var i h0 h1 =>
    rintro ⟨pre, v, post, e, _, h2⟩
    have e1 : putT s (Tm.mk 1 i ⟨#[]⟩ []) = valB s i := putT_valB s i
    have e2 : putT t (Tm.mk 1 i ⟨#[]⟩ []) = valB t i := putT_valB t i
    have hv : v = i := by
      have : v ∈ (Tm.mk 1 i ⟨#[]⟩ []).vl := by rw [e]; simp
      simpa [Tm.vl] using this
    subst hv
    rw [e1, e2]
    exact h2
  | pair x y hx hy ihx ihy =>
    rintro ⟨pre, v, post, e, h1, h2⟩
    rw [vl_pair] at e
    rw [putT_two (s := s) (x := x) (y := y) rfl rfl, putT_two (s := t) (x := x) (y := y) rfl rfl, cmp_two]
    rcases List.append_eq_append_iff.1 e with ⟨a', e1, e2⟩ | ⟨c', e1, e2⟩
    · -- within y
      have hxe : putT s x = putT t x := put_eqv hx fun w hw => h1 w (by rw [e1]; simp [hw])
      rw [hxe, cmpT_self, if_neg (by omega)]
      exact ihy ⟨a', v, post, e2, fun w hw => h1 w (by rw [e1]; simp [hw]), h2⟩
    · cases c' with
      | nil =>
        rw [List.nil_append] at e2
        rw [List.append_nil] at e1
        have hxe : putT s x = putT t x := put_eqv hx fun w hw => h1 w (by rw [← e1]; exact hw)
        rw [hxe, cmpT_self, if_neg (by omega)]
        exact ihy ⟨[], v, post, by rw [← e2]; rfl, fun w hw => by simp at hw, h2⟩
      | cons c c'' =>
        rw [List.cons_append] at e2
        injection e2 with e3 e4
        have hlt := ihx ⟨pre, v, c'', by rw [e1, e3], h1, h2⟩
        rw [if_pos (by omega)]
        exact hlt

/-! ### the program's list -/
def inL (t : Tm) (u : List Tm) : List Tm := (asgL u (ordOf [t])).map fun s => putT s t
theorem uni_pair {u : List Tm} (h : UniP u) : u.Pairwise fun a b => a.cmp b < 0 := by
  have hg : ∀ (k : Nat) (x : Tm), u[k]? = some x → Good x := fun k x hx => (h.2 k x hx).1.1.2
  have step : ∀ (d i : Nat) (x y : Tm), u[i]? = some x → u[i + 1 + d]? = some y → x.cmp y < 0 := by
    intro d
    induction d with
    | zero => intro i x y hx hy; exact (h.2 (i + 1) y hy).2 i x rfl hx
    | succ d ih =>
      intro i x y hx hy
      have hlt : i + 1 + d < u.length := by have := (List.getElem?_eq_some_iff.1 hy).1; omega
      obtain ⟨z, hz⟩ : ∃ z, u[i + 1 + d]? = some z := ⟨_, List.getElem?_eq_getElem hlt⟩
      exact cmpT_lt (hg _ _ hx) (hg _ _ hz) (hg _ _ hy) (ih i x z hx hz) ((h.2 (i + 1 + d + 1) y (by rw [← hy]; congr 1)).2 (i + 1 + d) z rfl hz)
  rw [List.pairwise_iff_getElem]
  intro i j hi hj hij
  have := step (j - i - 1) i u[i] u[j] (List.getElem?_eq_getElem hi) (by rw [show i + 1 + (j - i - 1) = j by omega]; exact List.getElem?_eq_getElem hj)
  exact this
theorem ordOf_one (t : Tm) : ordOf [t] = ordL [] t.vl := by unfold ordOf; simp [vlL]
theorem ord_nodup (t : Tm) : (ordOf [t]).Nodup := by rw [ordOf_one]; exact ordL_nodup _ _ List.nodup_nil
theorem ord_mem {t : Tm} {v : Int} : v ∈ ordOf [t] ↔ v ∈ t.vl := by rw [ordOf_one, ordL_mem]; simp
theorem giVs_mem {t : Tm} {v : Int} : v ∈ giVs t ↔ v ∈ t.vl := by
  unfold giVs
  rw [(insL_spec t.vl [] List.Pairwise.nil).2]
  simp
theorem giVs_nodup (t : Tm) : (giVs t).Nodup := by
  have h : Asc (giVs t) := (insL_spec t.vl [] List.Pairwise.nil).1
  exact h.imp fun h => Int.ne_of_lt h
theorem giVs_ord (t : Tm) : (giVs t).length = (ordOf [t]).length :=
  ((List.perm_ext_iff_of_nodup (giVs_nodup t) (ord_nodup t)).2 fun v => by rw [giVs_mem, ord_mem]).length_eq
theorem in_asc {t : Tm} {u : List Tm} (ht : Good t) (hu : UniP u) : AscT (inL t u) := by
  refine ⟨?_, fun x hx => ?_⟩
  · unfold inL
    rw [List.pairwise_map]
    refine (List.Pairwise.and_mem.1 (asg_asc (uni_pair hu) (ordOf [t]))).imp fun {s s'} h => ?_
    obtain ⟨h1, h2, h3⟩ := h
    have hd := lex_dl (ord_nodup t) (asg_mem.1 h1).1 (asg_mem.1 h2).1 h3
    rw [ordOf_one] at hd
    exact put_lt ht (dl_ord t.vl [] (fun x hx => by simp at hx) hd)
  · obtain ⟨s, hs, rfl⟩ := List.mem_map.1 hx
    exact putT_good (fun b hb => (uni_ok hu _ ((asg_mem.1 hs).2 b hb)).2) t.nodes t (Nat.le_refl _) ht
/-! ### the model's values are assignments, and all of them -/
theorem valsU_vars (u : List Tm) : ∀ (vs : List Int) (k : Nat), (valsU u vs k).map (fun b => b.v) = vs
  | [], _ => rfl
  | v :: vs, k => by rw [valsU, List.map_cons, valsU_vars u vs]
theorem valsU_in {u : List Tm} (hp : 1 ≤ u.length) : ∀ (vs : List Int) (k : Nat), ∀ b ∈ valsU u vs k, b.t ∈ u
  | [], _, b, h => by cases h
  | v :: vs, k, b, h => by
    rw [valsU] at h
    rcases List.mem_cons.1 h with rfl | h
    · have hlt : k % u.length < u.length := Nat.mod_lt _ hp
      show ((u[k % u.length]?).getD _) ∈ u
      rw [List.getElem?_eq_getElem hlt]
      exact List.getElem_mem hlt
    · exact valsU_in hp vs _ b h
theorem valsU_all {u : List Tm} : ∀ (vs : List Int) (s : List Bd), s.map (fun b => b.v) = vs → (∀ b ∈ s, b.t ∈ u) → ∃ k, k < u.length ^ vs.length ∧ valsU u vs k = s
  | [], s, hs, _ => ⟨0, by simp, by rw [List.map_eq_nil_iff.1 hs]; rfl⟩
  | v :: vs, s, hs, hu => by
    cases s with
    | nil => cases hs
    | cons b s =>
      rw [List.map_cons] at hs
      injection hs with e1 e2
      obtain ⟨k, hk, hv⟩ := valsU_all vs s e2 (fun c hc => hu c (by simp [hc]))
      obtain ⟨j, hj⟩ := List.getElem?_of_mem (hu b (by simp))
      have hjl := (List.getElem?_eq_some_iff.1 hj).1
      refine ⟨j + u.length * k, ?_, ?_⟩
      · rw [List.length_cons, Nat.pow_succ]
        calc j + u.length * k < u.length + u.length * k := by omega
          _ = u.length * (k + 1) := by rw [Nat.mul_add, Nat.mul_one, Nat.add_comm]
          _ ≤ u.length * u.length ^ vs.length := Nat.mul_le_mul_left _ hk
          _ = u.length ^ vs.length * u.length := Nat.mul_comm _ _
      · rw [valsU, Nat.add_mul_mod_self_left, Nat.mod_eq_of_lt hjl, hj, Nat.add_mul_div_left _ _ (by omega), Nat.div_eq_of_lt hjl, Nat.zero_add, hv]
        cases b
        subst e1
        rfl
/-- An assignment of the same variables in another order. -/
def reordB (s : List Bd) (vs : List Int) : List Bd := vs.map fun v => ⟨v, valB s v⟩
theorem reBd_get (s : List Bd) : ∀ (vs : List Int) (v : Int), v ∈ vs → valB (reordB s vs) v = valB s v
  | [], v, h => by cases h
  | w :: vs, v, h => by
    by_cases e : w = v
    · subst e
      show (getO (⟨w, valB s w⟩ :: reordB s vs) w).getD _ = _
      rw [getO, if_pos rfl]
      rfl
    · have h' : v ∈ vs := by rcases List.mem_cons.1 h with rfl | h; exact absurd rfl e; exact h
      have := reBd_get s vs v h'
      show (getO (⟨w, valB s w⟩ :: reordB s vs) v).getD _ = _
      rw [getO, if_neg e]
      exact this
theorem valB_in {u : List Tm} {s : List Bd} {v : Int} (h : v ∈ s.map (fun b => b.v)) (hu : ∀ b ∈ s, b.t ∈ u) : valB s v ∈ u := by
  unfold valB
  cases hg : getO s v with
  | none =>
    obtain ⟨b, hb, e⟩ := List.mem_map.1 h
    exact absurd e (getO_none.1 hg b hb)
  | some y =>
    obtain ⟨b, hb, _, e⟩ := getO_some hg
    rw [← e]
    exact hu b hb
theorem in_mem {t x : Tm} {u : List Tm} (ht : Good t) (hu : UniP u) : x ∈ inL t u ↔ ∃ k, k < u.length ^ (giVs t).length ∧ giX t u k = x := by
  constructor
  · intro hx
    obtain ⟨s, hs, rfl⟩ := List.mem_map.1 hx
    obtain ⟨h1, h2⟩ := asg_mem.1 hs
    obtain ⟨k, hk, hv⟩ := valsU_all (u := u) (giVs t) (reordB s (giVs t)) (by unfold reordB; rw [List.map_map]; exact List.map_id' _) (fun b hb => by
      obtain ⟨v, hv, rfl⟩ := List.mem_map.1 hb
      exact valB_in (by rw [h1, ord_mem]; exact giVs_mem.1 hv) h2)
    refine ⟨k, hk, ?_⟩
    rw [giX, hv]
    exact put_eqv ht fun v hv => reBd_get s _ v (giVs_mem.2 hv)
  · rintro ⟨k, hk, rfl⟩
    refine List.mem_map.2 ⟨reordB (valsU u (giVs t) k) (ordOf [t]), asg_mem.2 ⟨by unfold reordB; rw [List.map_map]; exact List.map_id' _, fun b hb => ?_⟩, ?_⟩
    · obtain ⟨v, hv, rfl⟩ := List.mem_map.1 hb
      exact valB_in (by rw [valsU_vars]; exact giVs_mem.2 (ord_mem.1 hv)) (valsU_in hu.1.1 _ _)
    · exact put_eqv ht fun v hv => reBd_get _ _ v (ord_mem.2 hv)
theorem inst_eq {t : Tm} {u : List Tm} (h1 : Ok t) (h2 : UniP u) (h3 : u.length ^ (ordOf [t]).length ≤ 512) (h4 : ∀ s ∈ asgL u (ordOf [t]), (putT s t).nodes ≤ 5000) : giL t u = inL t u := by
  have hN : giN t u = u.length ^ (giVs t).length := by
    unfold giN
    rw [giVs_ord]
    exact wysK_pow _ h2.1.1 _ h3
  rw [giL_yes h1 h2 (by rw [hN, giVs_ord]; exact h3) (fun k hk => ?_)]
  · refine ascT_ext ?_ (in_asc h1.2 h2) fun x => ?_
    · exact putsT_asc _ AscT.nil fun x hx => by
        obtain ⟨k, _, rfl⟩ := List.mem_map.1 hx
        exact giX_good h1 h2 k
    · unfold giS
      rw [putsT_mem, in_mem h1.2 h2, hN]
      constructor
      · rintro (h | h)
        · cases h
        · obtain ⟨k, hk, rfl⟩ := List.mem_map.1 h
          exact ⟨k, List.mem_range.1 hk, rfl⟩
      · rintro ⟨k, hk, rfl⟩
        exact .inr (List.mem_map.2 ⟨k, List.mem_range.2 hk, rfl⟩)
  · rw [hN] at hk
    obtain ⟨s, hs, e⟩ := List.mem_map.1 ((in_mem h1.2 h2).2 ⟨k, hk, rfl⟩)
    rw [← e]
    exact h4 s hs
theorem inst_many {t : Tm} {u : List Tm} (h2 : UniP u) (h3 : ¬ u.length ^ (ordOf [t]).length ≤ 512) : giL t u = [] := by
  refine giL_no fun h => ?_
  have := wysK_big u.length h2.1.1 (giVs t).length (by rw [giVs_ord]; omega)
  have h4 := h.2.2.1
  unfold giN at h4
  omega
theorem inst_large {t : Tm} {u : List Tm} (h1 : Ok t) (h2 : UniP u) (h3 : u.length ^ (ordOf [t]).length ≤ 512) {s : List Bd} (hs : s ∈ asgL u (ordOf [t])) (h : ¬ (putT s t).nodes ≤ 5000) : giL t u = [] := by
  refine giL_no fun hh => ?_
  obtain ⟨k, hk, e⟩ := (in_mem h1.2 h2).1 (List.mem_map.2 ⟨s, hs, rfl⟩)
  refine h ?_
  rw [← e]
  refine hh.2.2.2 k ?_
  unfold giN
  rw [giVs_ord, wysK_pow _ h2.1.1 _ h3, ← giVs_ord]
  exact hk
theorem inst_bad {t : Tm} {u : List Tm} (h : ¬ (Ok t ∧ UniP u)) : giL t u = [] := giL_no fun hh => h ⟨hh.1, hh.2.1⟩
end Go.Proofs.Ytjpkkhhcpcokaaa

