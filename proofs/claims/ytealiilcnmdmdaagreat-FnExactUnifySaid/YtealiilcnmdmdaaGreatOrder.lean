/-
  The order of terms is total: plain. Antisymmetric; zero for equal ones only; transitive.
-/
import Derived.Test.YtealiilcnmdmdaaGreatCmps
namespace Go.Proofs.YtealiilcnmdmdaaGreat
open Go.RowKit
set_option linter.unusedVariables false
set_option linter.unusedSimpArgs false

theorem bl_cons (a b : UInt8) (x y : List UInt8) : Op.bytesLess (a :: x) (b :: y) = (decide (a < b) || (a == b && Op.bytesLess x y)) := by rw [Op.bytesLess]
theorem bl_anti : ∀ x y : List UInt8, ¬ x = y → Op.bytesLess y x = !Op.bytesLess x y
  | [], [], h => absurd rfl h
  | [], b :: y, _ => by simp [Op.bytesLess]
  | a :: x, [], _ => by simp [Op.bytesLess]
  | a :: x, b :: y, h => by
    rw [bl_cons, bl_cons]
    by_cases hab : a = b
    · subst hab
      have hi := bl_anti x y (fun e => h (by rw [e]))
      have hn : ¬ a < a := fun hl => by rw [UInt8.lt_iff_toNat_lt] at hl; omega
      simp [hi, hn]
    · have hne : ¬ a.toNat = b.toNat := fun e => hab (UInt8.toNat_inj.1 e)
      have hba : ¬ b = a := fun e => hab e.symm
      by_cases hl : a < b
      · have hn : ¬ b < a := fun hx => by rw [UInt8.lt_iff_toNat_lt] at hl hx; omega
        simp [hl, hn, hba]
      · have hn : b < a := by rw [UInt8.lt_iff_toNat_lt] at hl ⊢; omega
        simp [hl, hn, hab]
theorem bl_trans : ∀ x y z : List UInt8, Op.bytesLess x y = true → Op.bytesLess y z = true → Op.bytesLess x z = true
  | _, [], _, h, _ => by simp [Op.bytesLess] at h
  | _, _ :: _, [], _, h => by simp [Op.bytesLess] at h
  | [], _ :: _, _ :: _, _, _ => by simp [Op.bytesLess]
  | a :: x, b :: y, c :: z, h1, h2 => by
    rw [bl_cons] at h1 h2 ⊢
    simp only [Bool.or_eq_true, decide_eq_true_eq, Bool.and_eq_true, beq_iff_eq] at h1 h2 ⊢
    rcases h1 with h1 | ⟨rfl, h1⟩
    · rcases h2 with h2 | ⟨rfl, h2⟩
      · left; rw [UInt8.lt_iff_toNat_lt] at h1 h2 ⊢; omega
      · exact .inl h1
    · rcases h2 with h2 | ⟨rfl, h2⟩
      · exact .inl h2
      · exact .inr ⟨rfl, bl_trans x y z h1 h2⟩

def Tri (x y z : Int) : Prop := (x ≤ 0 → y ≤ 0 → z ≤ 0) ∧ (x ≤ 0 → y < 0 → z < 0) ∧ (x < 0 → y ≤ 0 → z < 0) ∧ (x = 0 → y = 0 → z = 0)
def lex (x y : Int) : Int := if ¬ x = 0 then x else y
theorem lex_zero {x y : Int} (h : x = 0) : lex x y = y := by unfold lex; rw [if_neg (by omega)]
theorem lex_first {x y : Int} (h : ¬ x = 0) : lex x y = x := by unfold lex; rw [if_pos h]
theorem lex_le {x y : Int} : lex x y ≤ 0 ↔ (x < 0 ∨ (x = 0 ∧ y ≤ 0)) := by
  by_cases h : x = 0
  · rw [lex_zero h]; omega
  · rw [lex_first h]; omega
theorem lex_lt {x y : Int} : lex x y < 0 ↔ (x < 0 ∨ (x = 0 ∧ y < 0)) := by
  by_cases h : x = 0
  · rw [lex_zero h]; omega
  · rw [lex_first h]; omega
theorem lex_eq {x y : Int} : lex x y = 0 ↔ (x = 0 ∧ y = 0) := by
  by_cases h : x = 0
  · rw [lex_zero h]; omega
  · rw [lex_first h]; omega
theorem tri_lex {x y z x' y' z' : Int} (h1 : Tri x y z) (h2 : x = 0 → y = 0 → Tri x' y' z') : Tri (lex x x') (lex y y') (lex z z') := by
  obtain ⟨a1, a2, a3, a4⟩ := h1
  refine ⟨?_, ?_, ?_, ?_⟩
  · rw [lex_le, lex_le, lex_le]
    rintro (hx | ⟨hx, hx'⟩) (hy | ⟨hy, hy'⟩)
    · exact .inl (a2 (by omega) hy)
    · exact .inl (a3 hx (by omega))
    · exact .inl (a2 (by omega) hy)
    · exact .inr ⟨a4 hx hy, (h2 hx hy).1 hx' hy'⟩
  · rw [lex_le, lex_lt, lex_lt]
    rintro (hx | ⟨hx, hx'⟩) (hy | ⟨hy, hy'⟩)
    · exact .inl (a2 (by omega) hy)
    · exact .inl (a3 hx (by omega))
    · exact .inl (a2 (by omega) hy)
    · exact .inr ⟨a4 hx hy, (h2 hx hy).2.1 hx' hy'⟩
  · rw [lex_lt, lex_le, lex_lt]
    rintro (hx | ⟨hx, hx'⟩) (hy | ⟨hy, hy'⟩)
    · exact .inl (a2 (by omega) hy)
    · exact .inl (a3 hx (by omega))
    · exact .inl (a2 (by omega) hy)
    · exact .inr ⟨a4 hx hy, (h2 hx hy).2.2.1 hx' hy'⟩
  · rw [lex_eq, lex_eq, lex_eq]
    rintro ⟨hx, hx'⟩ ⟨hy, hy'⟩
    exact ⟨a4 hx hy, (h2 hx hy).2.2.2 hx' hy'⟩

theorem tri_int (a b c : Int) : Tri (cmpI a b) (cmpI b c) (cmpI a c) := by
  unfold Tri cmpI
  refine ⟨?_, ?_, ?_, ?_⟩ <;> (split <;> (try split) <;> (try split) <;> (try split) <;> (try split) <;> (try split) <;> omega)
theorem cmpI_anti (a b : Int) : cmpI b a = -cmpI a b := by
  unfold cmpI
  split <;> (try split) <;> (try split) <;> omega
theorem cmpI_zero {a b : Int} (h : cmpI a b = 0) : a = b := by
  unfold cmpI at h
  split at h
  · omega
  · split at h <;> omega
theorem cmpS_zero {a b : ByteArray} (h : cmpS a b = 0) : a = b := by
  unfold cmpS at h
  split at h
  · assumption
  · split at h <;> omega
theorem cmpS_neg {a b : ByteArray} : cmpS a b < 0 ↔ (¬ a = b ∧ Op.bytesLess a.toList b.toList = true) := by
  unfold cmpS
  by_cases h : a = b
  · rw [if_pos h]; simp [h]
  · rw [if_neg h]
    split
    · rename_i hl; simp [h, hl]
    · rename_i hl; simp [h, hl]
theorem cmpS_anti (a b : ByteArray) : cmpS b a = -cmpS a b := by
  unfold cmpS
  by_cases h : a = b
  · rw [if_pos h, if_pos h.symm]; rfl
  · rw [if_neg h, if_neg (fun e => h e.symm), bl_anti a.toList b.toList (fun e => h (toList_inj e))]
    cases Op.bytesLess a.toList b.toList <;> rfl
theorem tri_str (a b c : ByteArray) : Tri (cmpS a b) (cmpS b c) (cmpS a c) := by
  have step : cmpS a b < 0 → cmpS b c < 0 → cmpS a c < 0 := by
    rw [cmpS_neg, cmpS_neg, cmpS_neg]
    rintro ⟨h1, h2⟩ ⟨h3, h4⟩
    have h5 := bl_trans _ _ _ h2 h4
    refine ⟨fun e => ?_, h5⟩
    rw [e, bytesLess_irrefl] at h5
    cases h5
  have e1 : cmpS a b = 0 → cmpS a c = cmpS b c := fun h => by rw [cmpS_zero h]
  have e2 : cmpS b c = 0 → cmpS a c = cmpS a b := fun h => by rw [cmpS_zero h]
  refine ⟨fun h1 h2 => ?_, fun h1 h2 => ?_, fun h1 h2 => ?_, fun h1 h2 => ?_⟩
  · by_cases h3 : cmpS a b = 0
    · rw [e1 h3]; exact h2
    · by_cases h4 : cmpS b c = 0
      · rw [e2 h4]; exact h1
      · have := step (by omega) (by omega); omega
  · by_cases h3 : cmpS a b = 0
    · rw [e1 h3]; exact h2
    · exact step (by omega) h2
  · by_cases h4 : cmpS b c = 0
    · rw [e2 h4]; exact h1
    · exact step h1 (by omega)
  · rw [e1 h1]; exact h2

theorem or3_lex (x y z : Int) : or3 x y z = lex x (lex y z) := rfl
theorem cmpN_lex (t u : Tm) : cmpN t u = lex (cmpI t.kind u.kind) (lex (cmpI t.num u.num) (cmpS t.name u.name)) := rfl
theorem cmp_lex (t u : Tm) : t.cmp u = lex (cmpN t u) (cmpL t.args u.args) := cmp_eq t u
theorem cmpL_lex (t u : Tm) (l m : List Tm) : cmpL (t :: l) (u :: m) = lex (t.cmp u) (cmpL l m) := by rw [cmpL]; rfl
theorem tri_N (a b c : Tm) : Tri (cmpN a b) (cmpN b c) (cmpN a c) := by
  rw [cmpN_lex, cmpN_lex, cmpN_lex]
  exact tri_lex (tri_int _ _ _) fun _ _ => tri_lex (tri_int _ _ _) fun _ _ => tri_str _ _ _
theorem lex_neg (x y : Int) : lex (-x) (-y) = -lex x y := by
  by_cases h : x = 0
  · rw [lex_zero h, lex_zero (by omega)]
  · rw [lex_first h, lex_first (by omega)]
theorem cmpN_anti (t u : Tm) : cmpN u t = -cmpN t u := by
  rw [cmpN_lex, cmpN_lex, cmpI_anti, cmpI_anti t.num, cmpS_anti, lex_neg, lex_neg]
theorem cmpN_zero {t u : Tm} (h : cmpN t u = 0) : t.kind = u.kind ∧ t.num = u.num ∧ t.name = u.name := by
  rw [cmpN_lex, lex_eq, lex_eq] at h
  exact ⟨cmpI_zero h.1, cmpI_zero h.2.1, cmpS_zero h.2.2⟩
theorem cmpN_self (t : Tm) : cmpN t t = 0 := by
  rw [cmpN_lex, lex_zero (cmpI_self _), lex_zero (cmpI_self _), cmpS_self]
mutual
theorem cmp_self : ∀ t : Tm, t.cmp t = 0
  | .mk k i s l => by rw [cmp_lex, lex_zero (cmpN_self _)]; exact cmpL_self l
theorem cmpL_self : ∀ l : List Tm, cmpL l l = 0
  | [] => by rw [cmpL]
  | t :: l => by rw [cmpL_lex, lex_zero (cmp_self t)]; exact cmpL_self l
end
mutual
theorem cmp_anti : ∀ t u : Tm, u.cmp t = -t.cmp u
  | .mk k i s l, u => by rw [cmp_lex, cmp_lex (.mk k i s l), cmpN_anti, ← lex_neg]; congr 1; exact cmpL_anti l u.args
theorem cmpL_anti : ∀ l m : List Tm, cmpL m l = -cmpL l m
  | [], [] => by rw [cmpL]; rfl
  | [], _ :: _ => by rw [cmpL, cmpL]; rfl
  | _ :: _, [] => by rw [cmpL, cmpL]; rfl
  | t :: l, u :: m => by rw [cmpL_lex, cmpL_lex, cmp_anti t u, cmpL_anti l m, lex_neg]
end
theorem good_args_cases {t : Tm} (h : Good t) : (t.kind = 4 ∧ ∃ a b, t.args = [a, b] ∧ Good a ∧ Good b) ∨ (¬ t.kind = 4 ∧ t.args = []) := by
  by_cases hk : t.kind = 4
  · obtain ⟨a, b, hab⟩ := h.fit.pair hk
    exact .inl ⟨hk, a, b, hab, (good_two h.fit hab).1 h⟩
  · exact .inr ⟨hk, h.fit.atom hk⟩
theorem cmp_zero (n : Nat) : ∀ t u : Tm, t.nodes ≤ n → Good t → Good u → t.cmp u = 0 → t = u := by
  induction n with
  | zero => intro t u h; have := nodes_pos t; omega
  | succ n ih =>
    intro t u hn ht hu h
    rw [cmp_lex, lex_eq] at h
    obtain ⟨h1, h2, h3⟩ := cmpN_zero h.1
    have ha : t.args = u.args := by
      rcases good_args_cases ht with ⟨hk, a, b, hab, ga, gb⟩ | ⟨hk, hl⟩
      · rcases good_args_cases hu with ⟨hk', c, d, hcd, gc, gd⟩ | ⟨hk', hl'⟩
        · have h4 := h.2
          rw [hab, hcd, cmpL_lex, lex_eq, cmpL_lex, lex_eq] at h4
          have hnn : t.nodes = 1 + a.nodes + b.nodes := by rw [nodes_eq, hab, nodesL, nodesL, nodesL]; omega
          rw [hab, hcd, ih a c (by omega) ga gc h4.1, ih b d (by omega) gb gd h4.2.1]
        · omega
      · rcases good_args_cases hu with ⟨hk', c, d, hcd, gc, gd⟩ | ⟨hk', hl'⟩
        · omega
        · rw [hl, hl']
    rw [← t.eta, ← u.eta, h1, h2, h3, ha]
theorem tri_cmp (n : Nat) : ∀ a b c : Tm, a.nodes ≤ n → Good a → Good b → Good c → Tri (a.cmp b) (b.cmp c) (a.cmp c) := by
  induction n with
  | zero => intro a b c h; have := nodes_pos a; omega
  | succ n ih =>
    intro a b c hn ha hb hc
    rw [cmp_lex a b, cmp_lex b c, cmp_lex a c]
    refine tri_lex (tri_N a b c) fun h1 h2 => ?_
    have k1 := (cmpN_zero h1).1
    have k2 := (cmpN_zero h2).1
    rcases good_args_cases ha with ⟨hk, x, y, hxy, gx, gy⟩ | ⟨hk, hl⟩
    · obtain ⟨x2, y2, hxy2, gx2, gy2⟩ : ∃ x y, b.args = [x, y] ∧ Good x ∧ Good y := by
        rcases good_args_cases hb with ⟨_, x, y, h⟩ | ⟨hk', _⟩
        · exact ⟨x, y, h⟩
        · omega
      obtain ⟨x3, y3, hxy3, gx3, gy3⟩ : ∃ x y, c.args = [x, y] ∧ Good x ∧ Good y := by
        rcases good_args_cases hc with ⟨_, x, y, h⟩ | ⟨hk', _⟩
        · exact ⟨x, y, h⟩
        · omega
      have hnn : a.nodes = 1 + x.nodes + y.nodes := by rw [nodes_eq, hxy, nodesL, nodesL, nodesL]; omega
      have e : ∀ p q r s : Tm, cmpL [p, q] [r, s] = lex (p.cmp r) (q.cmp s) := fun p q r s => by rw [cmpL_lex, cmpL_last]
      rw [hxy, hxy2, hxy3, e, e, e]
      exact tri_lex (ih x x2 x3 (by omega) gx gx2 gx3) fun _ _ => ih y y2 y3 (by omega) gy gy2 gy3
    · have hl2 : b.args = [] := by
        rcases good_args_cases hb with ⟨hk', _⟩ | ⟨_, h⟩
        · omega
        · exact h
      have hl3 : c.args = [] := by
        rcases good_args_cases hc with ⟨hk', _⟩ | ⟨_, h⟩
        · omega
        · exact h
      rw [hl, hl2, hl3, cmpL]
      exact ⟨fun _ _ => by omega, fun _ h => by omega, fun h _ => by omega, fun _ _ => rfl⟩
end Go.Proofs.YtealiilcnmdmdaaGreat

