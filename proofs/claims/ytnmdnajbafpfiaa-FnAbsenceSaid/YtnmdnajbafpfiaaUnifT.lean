/-
  What a substitution makes of a term, plain: its variables, one substitution after another.
  A binding put in its place keeps the order.
  The order of terms is total: plain. Antisymmetric; zero for equal ones only; transitive.
  Unification, plain: what a valuation of the variables makes of terms, what satisfies substitutions and equations; most general unifiers that fit: there is at most one.
  One step of unification, plain: a variable is bound; when it can't be; the cases of two terms.
  Unification, plain: either there is a most general unifier that fits, or no substitution that fits is a unifier; the answers of chapter 6.
-/
import Derived.Test.YtnmdnajbafpfiaaSubstT
import Derived.Test.YtnmdnajbafpfiaaSpecComp
import Derived.Test.YtnmdnajbafpfiaaCmps
namespace Go.Proofs.Ytnmdnajbafpfiaa
open Go.RowKit
set_option linter.unusedVariables false
set_option linter.unusedSimpArgs false

theorem vl_pair (x y : Tm) : (Tm.mk 4 0 ⟨#[]⟩ [x, y]).vl = x.vl ++ y.vl := by simp [Tm.vl, vlL]
theorem vl_of_var {t : Tm} (h : t.kind = 1) : t.vl = [t.num] := by
  cases t with | mk k i s l => have hk : k = 1 := h; subst hk; simp [Tm.vl, Tm.num]
theorem putT_of {s : List Bd} {i : Int} {y : Tm} (h : getO s i = some y) : putT s (varTm i) = y := by rw [putT_var rfl]; show (match getO s i with | some x => x | none => varTm i) = y; rw [h]
theorem putT_free {s : List Bd} {i : Int} (h : getO s i = none) : putT s (varTm i) = varTm i := by rw [putT_var rfl]; show (match getO s i with | some x => x | none => varTm i) = _; rw [h]
theorem putT_vl {s : List Bd} {t : Tm} (h : Good t) : ∀ u ∈ (putT s t).vl, (u ∈ t.vl ∧ getO s u = none) ∨ ∃ v ∈ t.vl, ∃ y, getO s v = some y ∧ u ∈ y.vl := by
  induction h with
  | nil => intro u hu; rw [putT_atom (by simp [Tm.kind]) (by simp [Tm.kind])] at hu; simp [Tm.vl, vlL] at hu
  | sym n hn => intro u hu; rw [putT_atom (by simp [Tm.kind]) (by simp [Tm.kind])] at hu; simp [Tm.vl, vlL] at hu
  | int r h0 h1 => intro u hu; rw [putT_atom (by simp [Tm.kind]) (by simp [Tm.kind])] at hu; simp [Tm.vl, vlL] at hu
  | var i h0 h1 =>
    intro u hu
    have hm : i ∈ (Tm.mk 1 i ⟨#[]⟩ []).vl := by simp [Tm.vl]
    cases hg : getO s i with
    | none =>
      have e : putT s (Tm.mk 1 i ⟨#[]⟩ []) = varTm i := putT_free hg
      rw [e] at hu
      have : u = i := by simpa [varTm, Tm.vl] using hu
      subst this
      exact .inl ⟨hm, hg⟩
    | some y =>
      have e : putT s (Tm.mk 1 i ⟨#[]⟩ []) = y := putT_of hg
      rw [e] at hu
      exact .inr ⟨i, hm, y, hg, hu⟩
  | pair x y _ _ ihx ihy =>
    intro u hu
    rw [putT_two (x := x) (y := y) rfl rfl, vl_pair, List.mem_append] at hu
    rw [vl_pair]
    rcases hu with hu | hu
    · rcases ihx u hu with ⟨h1, h2⟩ | ⟨v, h1, h2⟩
      · exact .inl ⟨List.mem_append_left _ h1, h2⟩
      · exact .inr ⟨v, List.mem_append_left _ h1, h2⟩
    · rcases ihy u hu with ⟨h1, h2⟩ | ⟨v, h1, h2⟩
      · exact .inl ⟨List.mem_append_right _ h1, h2⟩
      · exact .inr ⟨v, List.mem_append_right _ h1, h2⟩
theorem putT_comp {s t u : List Bd} {x : Tm} (h : Good x) (hv : ∀ v ∈ x.vl, putT t (putT s (varTm v)) = putT u (varTm v)) : putT t (putT s x) = putT u x := by
  induction h with
  | nil => rw [putT_atom (s := s) (by simp [Tm.kind]) (by simp [Tm.kind]), putT_atom (by simp [Tm.kind]) (by simp [Tm.kind]), putT_atom (by simp [Tm.kind]) (by simp [Tm.kind])]
  | sym n hn => rw [putT_atom (s := s) (by simp [Tm.kind]) (by simp [Tm.kind]), putT_atom (by simp [Tm.kind]) (by simp [Tm.kind]), putT_atom (by simp [Tm.kind]) (by simp [Tm.kind])]
  | int r h0 h1 => rw [putT_atom (s := s) (by simp [Tm.kind]) (by simp [Tm.kind]), putT_atom (by simp [Tm.kind]) (by simp [Tm.kind]), putT_atom (by simp [Tm.kind]) (by simp [Tm.kind])]
  | var i h0 h1 => exact hv i (by simp [Tm.vl])
  | pair x y _ _ ihx ihy =>
    rw [vl_pair] at hv
    rw [putT_two (s := s) (x := x) (y := y) rfl rfl, putT_two (s := t) (x := putT s x) (y := putT s y) rfl rfl, putT_two (s := u) (x := x) (y := y) rfl rfl, ihx fun v h => hv v (List.mem_append_left _ h), ihy fun v h => hv v (List.mem_append_right _ h)]
theorem putT_same {s : List Bd} {x : Tm} (h : Good x) (hv : ∀ v ∈ x.vl, getO s v = none) : putT s x = x := by
  induction h with
  | nil => exact putT_atom (by simp [Tm.kind]) (by simp [Tm.kind])
  | sym n hn => exact putT_atom (by simp [Tm.kind]) (by simp [Tm.kind])
  | int r h0 h1 => exact putT_atom (by simp [Tm.kind]) (by simp [Tm.kind])
  | var i h0 h1 => exact putT_free (hv i (by simp [Tm.vl]))
  | pair x y _ _ ihx ihy =>
    rw [vl_pair] at hv
    rw [putT_two (x := x) (y := y) rfl rfl, ihx fun v h => hv v (List.mem_append_left _ h), ihy fun v h => hv v (List.mem_append_right _ h)]

end Go.Proofs.Ytnmdnajbafpfiaa

namespace Go.Proofs.Ytnmdnajbafpfiaa
open Go.RowKit
set_option linter.unusedVariables false
set_option linter.unusedSimpArgs false

theorem SubstP.asc {s : List Bd} (h : SubstP s) : s.Pairwise (fun a b => a.v < b.v) := by
  have key : ∀ (n i : Nat) (x y : Bd), s[i]? = some x → s[i + n + 1]? = some y → x.v < y.v := by
    intro n
    induction n with
    | zero => exact fun i x y hx hy => h.1.2.1 i x y hx hy
    | succ n ih =>
      intro i x y hx hy
      have hl := (List.getElem?_eq_some_iff.1 hy).1
      have hz := List.getElem?_eq_getElem (show i + n + 1 < s.length by omega)
      have h1 := ih i x _ hx hz
      have h2 := h.1.2.1 (i + n + 1) _ y hz (by rw [← hy]; congr 1)
      omega
  rw [List.pairwise_iff_getElem]
  intro i j hi hj hij
  exact key (j - i - 1) i _ _ (List.getElem?_eq_getElem hi) (by rw [show i + (j - i - 1) + 1 = j by omega]; exact List.getElem?_eq_getElem hj)
theorem scanB_after {s : List Bd} {v : Int} : ∀ (k j : Nat) (x : Bd), scanB s v k ≤ j → j < k → s[j]? = some x → v < x.v
  | 0, j, x, _, h, _ => absurd h (Nat.not_lt_zero _)
  | k + 1, j, x, h1, h2, hx => by
    rw [scanB] at h1
    split at h1
    · rename_i hc
      by_cases hj : j = k
      · subst hj
        rw [hx] at hc
        exact hc
      · exact scanB_after k j x h1 (by omega) hx
    · omega
theorem scanB_before {s : List Bd} {v : Int} : ∀ (k : Nat), k ≤ s.length → 0 < scanB s v k → ∃ x, s[scanB s v k - 1]? = some x ∧ x.v ≤ v
  | 0, _, h => by rw [scanB] at h; omega
  | k + 1, hk, h => by
    rw [scanB] at h ⊢
    split
    · rename_i hc
      rw [if_pos hc] at h
      exact scanB_before k (by omega) h
    · rename_i hc
      obtain ⟨x, hx⟩ : ∃ x, s[k]? = some x := ⟨_, List.getElem?_eq_getElem (by omega)⟩
      rw [hx] at hc
      refine ⟨x, by simpa using hx, ?_⟩
      have hc' : ¬ v < x.v := hc
      omega
theorem insB_asc {s : List Bd} {b : Bd} (h : s.Pairwise (fun a b => a.v < b.v)) (hb : ∀ c ∈ s, c.v ≠ b.v) : (insB s b).Pairwise (fun a b => a.v < b.v) := by
  have hle := scanB_le s b.v s.length
  have hidx := List.pairwise_iff_getElem.1 h
  have hbef : ∀ a ∈ s.take (scanB s b.v s.length), a.v < b.v := by
    intro a ha
    obtain ⟨i, hi⟩ := List.getElem?_of_mem ha
    have hil := (List.getElem?_eq_some_iff.1 hi).1
    rw [List.length_take] at hil
    rw [List.getElem?_take_of_lt (by omega)] at hi
    obtain ⟨x, hx, hxv⟩ := scanB_before (s := s) (v := b.v) s.length (Nat.le_refl _) (by omega)
    have hne := hb a (List.mem_of_getElem? hi)
    obtain ⟨hxl, hxe⟩ := List.getElem?_eq_some_iff.1 hx
    obtain ⟨hal, hae⟩ := List.getElem?_eq_some_iff.1 hi
    by_cases hix : i = scanB s b.v s.length - 1
    · subst hix
      rw [hx] at hi
      cases hi
      omega
    · have := hidx i (scanB s b.v s.length - 1) hal hxl (by omega)
      rw [hxe, hae] at this
      omega
  have haft : ∀ a ∈ s.drop (scanB s b.v s.length), b.v < a.v := by
    intro a ha
    obtain ⟨i, hi⟩ := List.getElem?_of_mem ha
    rw [List.getElem?_drop] at hi
    exact scanB_after s.length _ a (by omega) (List.getElem?_eq_some_iff.1 hi).1 hi
  unfold insB
  rw [List.pairwise_append]
  refine ⟨h.sublist (List.take_sublist _ _), List.pairwise_cons.2 ⟨haft, h.sublist (List.drop_sublist _ _)⟩, fun a ha c hc => ?_⟩
  rcases List.mem_cons.1 hc with rfl | hc
  · exact hbef a ha
  · have h1 := hbef a ha
    have h2 := haft c hc
    omega
end Go.Proofs.Ytnmdnajbafpfiaa

namespace Go.Proofs.Ytnmdnajbafpfiaa
open Go.RowKit
set_option linter.unusedVariables false
set_option linter.unusedSimpArgs false

theorem bl_cons (a b : UInt8) (x y : List UInt8) : Op.bytesLess (a :: x) (b :: y) = (decide (a < b) || (a == b && Op.bytesLess x y)) := by rw [Op.bytesLess]
theorem bl_anti : ∀ x y : List UInt8, ¬ x = y → Op.bytesLess y x = !Op.bytesLess x y
  | [], [], h => absurd rfl h
  | [], b :: y, _ => by simp [Op.bytesLess]
  | a :: x, [], _ => by simp [Op.bytesLess]
  | a :: x, b :: y, h => by
    rw [bl_cons, bl_cons]
    by_cases hab : a = b
    · subst hab
      have hi := bl_anti x y (fun e => h (by rw [e]))
      have hn : ¬ a < a := fun hl => by rw [UInt8.lt_iff_toNat_lt] at hl; omega
      simp [hi, hn]
    · have hne : ¬ a.toNat = b.toNat := fun e => hab (UInt8.toNat_inj.1 e)
      have hba : ¬ b = a := fun e => hab e.symm
      by_cases hl : a < b
      · have hn : ¬ b < a := fun hx => by rw [UInt8.lt_iff_toNat_lt] at hl hx; omega
        simp [hl, hn, hba]
      · have hn : b < a := by rw [UInt8.lt_iff_toNat_lt] at hl ⊢; omega
        simp [hl, hn, hab]
theorem bl_trans : ∀ x y z : List UInt8, Op.bytesLess x y = true → Op.bytesLess y z = true → Op.bytesLess x z = true
  | _, [], _, h, _ => by simp [Op.bytesLess] at h
  | _, _ :: _, [], _, h => by simp [Op.bytesLess] at h
  | [], _ :: _, _ :: _, _, _ => by simp [Op.bytesLess]
  | a :: x, b :: y, c :: z, h1, h2 => by
    rw [bl_cons] at h1 h2 ⊢
    simp only [Bool.or_eq_true, decide_eq_true_eq, Bool.and_eq_true, beq_iff_eq] at h1 h2 ⊢
    rcases h1 with h1 | ⟨rfl, h1⟩
    · rcases h2 with h2 | ⟨rfl, h2⟩
      · left; rw [UInt8.lt_iff_toNat_lt] at h1 h2 ⊢; omega
      · exact .inl h1
    · rcases h2 with h2 | ⟨rfl, h2⟩
      · exact .inl h2
      · exact .inr ⟨rfl, bl_trans x y z h1 h2⟩

def Tri (x y z : Int) : Prop := (x ≤ 0 → y ≤ 0 → z ≤ 0) ∧ (x ≤ 0 → y < 0 → z < 0) ∧ (x < 0 → y ≤ 0 → z < 0) ∧ (x = 0 → y = 0 → z = 0)
def lex (x y : Int) : Int := if ¬ x = 0 then x else y
theorem lex_zero {x y : Int} (h : x = 0) : lex x y = y := by unfold lex; rw [if_neg (by omega)]
theorem lex_first {x y : Int} (h : ¬ x = 0) : lex x y = x := by unfold lex; rw [if_pos h]
theorem lex_le {x y : Int} : lex x y ≤ 0 ↔ (x < 0 ∨ (x = 0 ∧ y ≤ 0)) := by
  by_cases h : x = 0
  · rw [lex_zero h]; omega
  · rw [lex_first h]; omega
theorem lex_lt {x y : Int} : lex x y < 0 ↔ (x < 0 ∨ (x = 0 ∧ y < 0)) := by
  by_cases h : x = 0
  · rw [lex_zero h]; omega
  · rw [lex_first h]; omega
theorem lex_eq {x y : Int} : lex x y = 0 ↔ (x = 0 ∧ y = 0) := by
  by_cases h : x = 0
  · rw [lex_zero h]; omega
  · rw [lex_first h]; omega
theorem tri_lex {x y z x' y' z' : Int} (h1 : Tri x y z) (h2 : x = 0 → y = 0 → Tri x' y' z') : Tri (lex x x') (lex y y') (lex z z') := by
  obtain ⟨a1, a2, a3, a4⟩ := h1
  refine ⟨?_, ?_, ?_, ?_⟩
  · rw [lex_le, lex_le, lex_le]
    rintro (hx | ⟨hx, hx'⟩) (hy | ⟨hy, hy'⟩)
    · exact .inl (a2 (by omega) hy)
    · exact .inl (a3 hx (by omega))
    · exact .inl (a2 (by omega) hy)
    · exact .inr ⟨a4 hx hy, (h2 hx hy).1 hx' hy'⟩
  · rw [lex_le, lex_lt, lex_lt]
    rintro (hx | ⟨hx, hx'⟩) (hy | ⟨hy, hy'⟩)
    · exact .inl (a2 (by omega) hy)
    · exact .inl (a3 hx (by omega))
    · exact .inl (a2 (by omega) hy)
    · exact .inr ⟨a4 hx hy, (h2 hx hy).2.1 hx' hy'⟩
  · rw [lex_lt, lex_le, lex_lt]
    rintro (hx | ⟨hx, hx'⟩) (hy | ⟨hy, hy'⟩)
    · exact .inl (a2 (by omega) hy)
    · exact .inl (a3 hx (by omega))
    · exact .inl (a2 (by omega) hy)
    · exact .inr ⟨a4 hx hy, (h2 hx hy).2.2.1 hx' hy'⟩
  · rw [lex_eq, lex_eq, lex_eq]
    rintro ⟨hx, hx'⟩ ⟨hy, hy'⟩
    exact ⟨a4 hx hy, (h2 hx hy).2.2.2 hx' hy'⟩

theorem tri_int (a b c : Int) : Tri (cmpI a b) (cmpI b c) (cmpI a c) := by
  unfold Tri cmpI
  refine ⟨?_, ?_, ?_, ?_⟩ <;> (split <;> (try split) <;> (try split) <;> (try split) <;> (try split) <;> (try split) <;> omega)
theorem cmpI_anti (a b : Int) : cmpI b a = -cmpI a b := by
  unfold cmpI
  split <;> (try split) <;> (try split) <;> omega
theorem cmpI_zero {a b : Int} (h : cmpI a b = 0) : a = b := by
  unfold cmpI at h
  split at h
  · omega
  · split at h <;> omega
theorem cmpS_zero {a b : ByteArray} (h : cmpS a b = 0) : a = b := by
  unfold cmpS at h
  split at h
  · assumption
  · split at h <;> omega
theorem cmpS_neg {a b : ByteArray} : cmpS a b < 0 ↔ (¬ a = b ∧ Op.bytesLess a.toList b.toList = true) := by
  unfold cmpS
  by_cases h : a = b
  · rw [if_pos h]; simp [h]
  · rw [if_neg h]
    split
    · rename_i hl; simp [h, hl]
    · rename_i hl; simp [h, hl]
theorem cmpS_anti (a b : ByteArray) : cmpS b a = -cmpS a b := by
  unfold cmpS
  by_cases h : a = b
  · rw [if_pos h, if_pos h.symm]; rfl
  · rw [if_neg h, if_neg (fun e => h e.symm), bl_anti a.toList b.toList (fun e => h (toList_inj e))]
    cases Op.bytesLess a.toList b.toList <;> rfl
theorem tri_str (a b c : ByteArray) : Tri (cmpS a b) (cmpS b c) (cmpS a c) := by
  have step : cmpS a b < 0 → cmpS b c < 0 → cmpS a c < 0 := by
    rw [cmpS_neg, cmpS_neg, cmpS_neg]
    rintro ⟨h1, h2⟩ ⟨h3, h4⟩
    have h5 := bl_trans _ _ _ h2 h4
    refine ⟨fun e => ?_, h5⟩
    rw [e, bytesLess_irrefl] at h5
    cases h5
  have e1 : cmpS a b = 0 → cmpS a c = cmpS b c := fun h => by rw [cmpS_zero h]
  have e2 : cmpS b c = 0 → cmpS a c = cmpS a b := fun h => by rw [cmpS_zero h]
  refine ⟨fun h1 h2 => ?_, fun h1 h2 => ?_, fun h1 h2 => ?_, fun h1 h2 => ?_⟩
  · by_cases h3 : cmpS a b = 0
    · rw [e1 h3]; exact h2
    · by_cases h4 : cmpS b c = 0
      · rw [e2 h4]; exact h1
      · have := step (by omega) (by omega); omega
  · by_cases h3 : cmpS a b = 0
    · rw [e1 h3]; exact h2
    · exact step (by omega) h2
  · by_cases h4 : cmpS b c = 0
    · rw [e2 h4]; exact h1
    · exact step h1 (by omega)
  · rw [e1 h1]; exact h2

theorem or3_lex (x y z : Int) : or3 x y z = lex x (lex y z) := rfl
theorem cmpN_lex (t u : Tm) : cmpN t u = lex (cmpI t.kind u.kind) (lex (cmpI t.num u.num) (cmpS t.name u.name)) := rfl
theorem cmp_lex (t u : Tm) : t.cmp u = lex (cmpN t u) (cmpL t.args u.args) := cmp_eq t u
theorem cmpL_lex (t u : Tm) (l m : List Tm) : cmpL (t :: l) (u :: m) = lex (t.cmp u) (cmpL l m) := by rw [cmpL]; rfl
theorem tri_N (a b c : Tm) : Tri (cmpN a b) (cmpN b c) (cmpN a c) := by
  rw [cmpN_lex, cmpN_lex, cmpN_lex]
  exact tri_lex (tri_int _ _ _) fun _ _ => tri_lex (tri_int _ _ _) fun _ _ => tri_str _ _ _
theorem lex_neg (x y : Int) : lex (-x) (-y) = -lex x y := by
  by_cases h : x = 0
  · rw [lex_zero h, lex_zero (by omega)]
  · rw [lex_first h, lex_first (by omega)]
theorem cmpN_anti (t u : Tm) : cmpN u t = -cmpN t u := by
  rw [cmpN_lex, cmpN_lex, cmpI_anti, cmpI_anti t.num, cmpS_anti, lex_neg, lex_neg]
theorem cmpN_zero {t u : Tm} (h : cmpN t u = 0) : t.kind = u.kind ∧ t.num = u.num ∧ t.name = u.name := by
  rw [cmpN_lex, lex_eq, lex_eq] at h
  exact ⟨cmpI_zero h.1, cmpI_zero h.2.1, cmpS_zero h.2.2⟩
theorem cmpN_self (t : Tm) : cmpN t t = 0 := by
  rw [cmpN_lex, lex_zero (cmpI_self _), lex_zero (cmpI_self _), cmpS_self]
mutual
theorem cmp_self : ∀ t : Tm, t.cmp t = 0
  | .mk k i s l => by rw [cmp_lex, lex_zero (cmpN_self _)]; exact cmpL_self l
theorem cmpL_self : ∀ l : List Tm, cmpL l l = 0
  | [] => by rw [cmpL]
  | t :: l => by rw [cmpL_lex, lex_zero (cmp_self t)]; exact cmpL_self l
end
mutual
theorem cmp_anti : ∀ t u : Tm, u.cmp t = -t.cmp u
  | .mk k i s l, u => by rw [cmp_lex, cmp_lex (.mk k i s l), cmpN_anti, ← lex_neg]; congr 1; exact cmpL_anti l u.args
theorem cmpL_anti : ∀ l m : List Tm, cmpL m l = -cmpL l m
  | [], [] => by rw [cmpL]; rfl
  | [], _ :: _ => by rw [cmpL, cmpL]; rfl
  | _ :: _, [] => by rw [cmpL, cmpL]; rfl
  | t :: l, u :: m => by rw [cmpL_lex, cmpL_lex, cmp_anti t u, cmpL_anti l m, lex_neg]
end
theorem good_args_cases {t : Tm} (h : Good t) : (t.kind = 4 ∧ ∃ a b, t.args = [a, b] ∧ Good a ∧ Good b) ∨ (¬ t.kind = 4 ∧ t.args = []) := by
  by_cases hk : t.kind = 4
  · obtain ⟨a, b, hab⟩ := h.fit.pair hk
    exact .inl ⟨hk, a, b, hab, (good_two h.fit hab).1 h⟩
  · exact .inr ⟨hk, h.fit.atom hk⟩
theorem cmp_zero (n : Nat) : ∀ t u : Tm, t.nodes ≤ n → Good t → Good u → t.cmp u = 0 → t = u := by
  induction n with
  | zero => intro t u h; have := nodes_pos t; omega
  | succ n ih =>
    intro t u hn ht hu h
    rw [cmp_lex, lex_eq] at h
    obtain ⟨h1, h2, h3⟩ := cmpN_zero h.1
    have ha : t.args = u.args := by
      rcases good_args_cases ht with ⟨hk, a, b, hab, ga, gb⟩ | ⟨hk, hl⟩
      · rcases good_args_cases hu with ⟨hk', c, d, hcd, gc, gd⟩ | ⟨hk', hl'⟩
        · have h4 := h.2
          rw [hab, hcd, cmpL_lex, lex_eq, cmpL_lex, lex_eq] at h4
          have hnn : t.nodes = 1 + a.nodes + b.nodes := by rw [nodes_eq, hab, nodesL, nodesL, nodesL]; omega
          rw [hab, hcd, ih a c (by omega) ga gc h4.1, ih b d (by omega) gb gd h4.2.1]
        · omega
      · rcases good_args_cases hu with ⟨hk', c, d, hcd, gc, gd⟩ | ⟨hk', hl'⟩
        · omega
        · rw [hl, hl']
    rw [← t.eta, ← u.eta, h1, h2, h3, ha]
theorem tri_cmp (n : Nat) : ∀ a b c : Tm, a.nodes ≤ n → Good a → Good b → Good c → Tri (a.cmp b) (b.cmp c) (a.cmp c) := by
  induction n with
  | zero => intro a b c h; have := nodes_pos a; omega
  | succ n ih =>
    intro a b c hn ha hb hc
    rw [cmp_lex a b, cmp_lex b c, cmp_lex a c]
    refine tri_lex (tri_N a b c) fun h1 h2 => ?_
    have k1 := (cmpN_zero h1).1
    have k2 := (cmpN_zero h2).1
    rcases good_args_cases ha with ⟨hk, x, y, hxy, gx, gy⟩ | ⟨hk, hl⟩
    · obtain ⟨x2, y2, hxy2, gx2, gy2⟩ : ∃ x y, b.args = [x, y] ∧ Good x ∧ Good y := by
        rcases good_args_cases hb with ⟨_, x, y, h⟩ | ⟨hk', _⟩
        · exact ⟨x, y, h⟩
        · omega
      obtain ⟨x3, y3, hxy3, gx3, gy3⟩ : ∃ x y, c.args = [x, y] ∧ Good x ∧ Good y := by
        rcases good_args_cases hc with ⟨_, x, y, h⟩ | ⟨hk', _⟩
        · exact ⟨x, y, h⟩
        · omega
      have hnn : a.nodes = 1 + x.nodes + y.nodes := by rw [nodes_eq, hxy, nodesL, nodesL, nodesL]; omega
      have e : ∀ p q r s : Tm, cmpL [p, q] [r, s] = lex (p.cmp r) (q.cmp s) := fun p q r s => by rw [cmpL_lex, cmpL_last]
      rw [hxy, hxy2, hxy3, e, e, e]
      exact tri_lex (ih x x2 x3 (by omega) gx gx2 gx3) fun _ _ => ih y y2 y3 (by omega) gy gy2 gy3
    · have hl2 : b.args = [] := by
        rcases good_args_cases hb with ⟨hk', _⟩ | ⟨_, h⟩
        · omega
        · exact h
      have hl3 : c.args = [] := by
        rcases good_args_cases hc with ⟨hk', _⟩ | ⟨_, h⟩
        · omega
        · exact h
      rw [hl, hl2, hl3, cmpL]
      exact ⟨fun _ _ => by omega, fun _ h => by omega, fun h _ => by omega, fun _ _ => rfl⟩
end Go.Proofs.Ytnmdnajbafpfiaa

namespace Go.Proofs.Ytnmdnajbafpfiaa
open Go.RowKit
set_option linter.unusedVariables false
set_option linter.unusedSimpArgs false

mutual
/-- What a valuation makes of a term. -/
def evT (f : Int → Tm) : Tm → Tm | .mk k i s l => if k = 1 then f i else .mk k i s (evL f l)
def evL (f : Int → Tm) : List Tm → List Tm | [] => [] | t :: l => evT f t :: evL f l
end
theorem ev_var (f : Int → Tm) (i : Int) : evT f (.mk 1 i ⟨#[]⟩ []) = f i := by rw [evT, if_pos rfl]
theorem ev_varTm (f : Int → Tm) (i : Int) : evT f (varTm i) = f i := ev_var f i
theorem ev_pair (f : Int → Tm) (a b : Tm) : evT f (.mk 4 0 ⟨#[]⟩ [a, b]) = .mk 4 0 ⟨#[]⟩ [evT f a, evT f b] := by rw [evT, if_neg (by decide), evL, evL, evL]
theorem ev_leaf (f : Int → Tm) {k i : Int} {s : ByteArray} (h : ¬ k = 1) : evT f (.mk k i s []) = .mk k i s [] := by rw [evT, if_neg h, evL]
theorem ev_kind {f : Int → Tm} {t : Tm} (h : ¬ t.kind = 1) : (evT f t).kind = t.kind ∧ (evT f t).num = t.num ∧ (evT f t).name = t.name := by
  cases t with
  | mk k i s l =>
    have h' : ¬ k = 1 := h
    rw [evT, if_neg h']
    exact ⟨rfl, rfl, rfl⟩
/-- Only the variables matter. -/
theorem ev_congr {f g : Int → Tm} {t : Tm} (h : Good t) (hv : ∀ v ∈ t.vl, f v = g v) : evT f t = evT g t := by
  induction h with
  | nil => rw [ev_leaf f (by decide), ev_leaf g (by decide)]
  | sym n hn => rw [ev_leaf f (by decide), ev_leaf g (by decide)]
  | int r h0 h1 => rw [ev_leaf f (by decide), ev_leaf g (by decide)]
  | var i h0 h1 => rw [ev_var, ev_var]; exact hv i (by simp [Tm.vl])
  | pair x y _ _ ihx ihy =>
    rw [vl_pair] at hv
    rw [ev_pair, ev_pair, ihx fun v h => hv v (List.mem_append_left _ h), ihy fun v h => hv v (List.mem_append_right _ h)]
theorem ev_self {t : Tm} (h : Good t) : evT varTm t = t := by
  induction h with
  | nil => rw [ev_leaf _ (by decide)]
  | sym n hn => rw [ev_leaf _ (by decide)]
  | int r h0 h1 => rw [ev_leaf _ (by decide)]
  | var i h0 h1 => rw [ev_var]; rfl
  | pair x y _ _ ihx ihy => rw [ev_pair, ihx, ihy]
theorem ev_nodes {f : Int → Tm} {t : Tm} (h : Good t) : t.nodes ≤ (evT f t).nodes := by
  induction h with
  | nil => rw [ev_leaf f (by decide)]; exact Nat.le_refl _
  | sym n hn => rw [ev_leaf f (by decide)]; exact Nat.le_refl _
  | int r h0 h1 => rw [ev_leaf f (by decide)]; exact Nat.le_refl _
  | var i h0 h1 => rw [ev_var]; have := nodes_pos (f i); rw [nodes_eq]; show 1 + nodesL [] ≤ _; rw [nodesL_nil]; omega
  | pair x y _ _ ihx ihy =>
    rw [ev_pair, nodes_eq, nodes_eq (.mk 4 0 ⟨#[]⟩ [evT f x, evT f y])]
    show 1 + nodesL [x, y] ≤ 1 + nodesL [evT f x, evT f y]
    simp only [nodesL]
    omega
theorem ev_in {f : Int → Tm} {t : Tm} (h : Good t) {v : Int} (hv : v ∈ t.vl) : (f v).nodes ≤ (evT f t).nodes := by
  induction h with
  | nil => simp [Tm.vl, vlL] at hv
  | sym n hn => simp [Tm.vl, vlL] at hv
  | int r h0 h1 => simp [Tm.vl, vlL] at hv
  | var i h0 h1 => have : v = i := by simpa [Tm.vl] using hv
                   subst this; rw [ev_var]; exact Nat.le_refl _
  | pair x y _ _ ihx ihy =>
    rw [vl_pair, List.mem_append] at hv
    rw [ev_pair, nodes_eq (.mk 4 0 ⟨#[]⟩ [evT f x, evT f y])]
    show _ ≤ 1 + nodesL [evT f x, evT f y]
    simp only [nodesL]
    rcases hv with hv | hv
    · have := ihx hv
      omega
    · have := ihy hv
      omega
theorem ev_occurs {f : Int → Tm} {t : Tm} (h : Good t) {v : Int} (hv : v ∈ t.vl) (hk : ¬ t.kind = 1) : ¬ f v = evT f t := by
  intro e
  cases h with
  | nil => simp [Tm.vl, vlL] at hv
  | sym n hn => simp [Tm.vl, vlL] at hv
  | int r h0 h1 => simp [Tm.vl, vlL] at hv
  | var i h0 h1 => exact hk rfl
  | pair x y hx hy =>
    rw [vl_pair, List.mem_append] at hv
    have hn := congrArg Tm.nodes e
    rw [ev_pair, nodes_eq (.mk 4 0 ⟨#[]⟩ [evT f x, evT f y])] at hn
    have hn2 : (f v).nodes = 1 + nodesL [evT f x, evT f y] := hn
    simp only [nodesL] at hn2
    rcases hv with hv | hv
    · have := ev_in (f := f) hx hv
      omega
    · have := ev_in (f := f) hy hv
      omega

/-- A valuation satisfies a list of bindings; equations. -/
def Sat (f : Int → Tm) (s : List Bd) : Prop := ∀ b ∈ s, f b.v = evT f b.t
def SolE (f : Int → Tm) (E : List (Tm × Tm)) : Prop := ∀ p ∈ E, evT f p.1 = evT f p.2
/-- A substitution as a valuation. -/
def sgm (s : List Bd) (v : Int) : Tm := putT s (varTm v)
theorem sgm_bound {s : List Bd} {v : Int} {t : Tm} (h : getO s v = some t) : sgm s v = t := putT_of h
theorem sgm_free {s : List Bd} {v : Int} (h : getO s v = none) : sgm s v = varTm v := putT_free h
theorem put_ev {s : List Bd} {t : Tm} (h : Good t) : putT s t = evT (sgm s) t := by
  induction h with
  | nil => rw [ev_leaf _ (by decide), putT_atom (by simp [Tm.kind]) (by simp [Tm.kind])]
  | sym n hn => rw [ev_leaf _ (by decide), putT_atom (by simp [Tm.kind]) (by simp [Tm.kind])]
  | int r h0 h1 => rw [ev_leaf _ (by decide), putT_atom (by simp [Tm.kind]) (by simp [Tm.kind])]
  | var i h0 h1 => rw [ev_var]; rfl
  | pair x y _ _ ihx ihy => rw [ev_pair, putT_two (x := x) (y := y) rfl rfl, ihx, ihy]
theorem sat_put {f : Int → Tm} {s : List Bd} (hs : Sat f s) {t : Tm} (h : Good t) : evT f (putT s t) = evT f t := by
  induction h with
  | nil => rw [putT_atom (by simp [Tm.kind]) (by simp [Tm.kind])]
  | sym n hn => rw [putT_atom (by simp [Tm.kind]) (by simp [Tm.kind])]
  | int r h0 h1 => rw [putT_atom (by simp [Tm.kind]) (by simp [Tm.kind])]
  | var i h0 h1 =>
    rw [ev_var]
    cases hg : getO s i with
    | none =>
      have e : putT s (Tm.mk 1 i ⟨#[]⟩ []) = varTm i := putT_free hg
      rw [e, ev_varTm]
    | some y =>
      have e : putT s (Tm.mk 1 i ⟨#[]⟩ []) = y := putT_of hg
      obtain ⟨b, hb, rfl, rfl⟩ := getO_some hg
      rw [e, hs b hb]
  | pair x y _ _ ihx ihy => rw [putT_two (x := x) (y := y) rfl rfl, ev_pair, ev_pair, ihx, ihy]
theorem get_asc : ∀ {s : List Bd}, s.Pairwise (fun a b => a.v < b.v) → ∀ b ∈ s, getO s b.v = some b.t
  | [], _, b, hb => by cases hb
  | c :: s, h, b, hb => by
    obtain ⟨h1, h2⟩ := List.pairwise_cons.1 h
    rw [getO]
    rcases List.mem_cons.1 hb with rfl | hb
    · exact if_pos rfl
    · have := h1 b hb
      rw [if_neg (by omega)]
      exact get_asc h2 b hb
theorem sgm_sat {s : List Bd} (h : SubstP s) : Sat (sgm s) s := fun b hb => by
  rw [sgm_bound (get_asc h.asc b hb), ← put_ev (h.good b hb), putT_same (h.good b hb) (h.2 b hb).2]
/-- What a substitution makes of a variable is small. -/
theorem sgm_small {s : List Bd} (h : SubstP s) (v : Int) : (sgm s v).nodes ≤ 5000 := by
  cases hg : getO s v with
  | none => rw [sgm_free hg, varTm, nodes_eq]; show 1 + nodesL [] ≤ _; rw [nodesL_nil]; decide
  | some y =>
    obtain ⟨b, hb, rfl, rfl⟩ := getO_some hg
    rw [sgm_bound hg]
    exact h.nodes b hb
theorem getO_ne {s : List Bd} {v : Int} : getO s v ≠ none ↔ ∃ b ∈ s, b.v = v := by
  constructor
  · intro h
    cases hg : getO s v with
    | none => exact absurd hg h
    | some y =>
      obtain ⟨b, hb, h1, _⟩ := getO_some hg
      exact ⟨b, hb, h1⟩
  · rintro ⟨b, hb, rfl⟩ h
    exact getO_none.1 h b hb rfl
/-- What a greater variable is bound to binds it in every substitution that satisfies it. -/
theorem dom_one {w : List Bd} (hw : SubstP w) {v : Int} {x : Tm} (hx : Good x) (ho : ¬ (x.kind = 1 ∧ v ≤ x.num)) (hs : sgm w v = evT (sgm w) x) : getO w v ≠ none := by
  intro hn
  rw [sgm_free hn] at hs
  by_cases hk : x.kind = 1
  · have hlt : x.num < v := by
      have : ¬ v ≤ x.num := fun h => ho ⟨hk, h⟩
      omega
    have e : evT (sgm w) x = sgm w x.num := by
      cases hx with
      | var i h0 h1 => exact ev_var _ i
      | nil => cases hk
      | sym n hn => cases hk
      | int r h0 h1 => cases hk
      | pair a b _ _ => cases hk
    rw [e] at hs
    cases hg : getO w x.num with
    | none =>
      rw [sgm_free hg] at hs
      have : v = x.num := congrArg Tm.num hs
      omega
    | some y =>
      rw [sgm_bound hg] at hs
      obtain ⟨c, hc, h1, h2⟩ := getO_some hg
      refine (hw.2 c hc).1 ⟨by rw [h2, ← hs]; rfl, ?_⟩
      have : c.t.num = v := by rw [h2, ← hs]; rfl
      omega
  · have := (ev_kind (f := sgm w) hk).1
    rw [← hs] at this
    exact hk this.symm
theorem dom_sub {s w : List Bd} (h : SubstP s) (hw : SubstP w) (hs : Sat (sgm w) s) {v : Int} (hv : getO s v ≠ none) : getO w v ≠ none := by
  obtain ⟨b, hb, rfl⟩ := getO_ne.1 hv
  exact dom_one hw (h.good b hb) (h.2 b hb).1 (hs b hb)
/-- Lists in ascending order that bind alike are one. -/
theorem bd_ext : ∀ {u w : List Bd}, u.Pairwise (fun a b => a.v < b.v) → w.Pairwise (fun a b => a.v < b.v) → (∀ v, getO u v = getO w v) → u = w
  | [], [], _, _, _ => rfl
  | [], c :: w, _, _, h => by have := h c.v; rw [getO, getO, if_pos rfl] at this; cases this
  | b :: u, [], _, _, h => by have := h b.v; rw [getO, getO, if_pos rfl] at this; cases this
  | b :: u, c :: w, h1, h2, h => by
    obtain ⟨p1, p2⟩ := List.pairwise_cons.1 h1
    obtain ⟨q1, q2⟩ := List.pairwise_cons.1 h2
    have key : b.v = c.v := by
      have e1 := h b.v
      have e2 : (if b.v = c.v then some b.t else getO u c.v) = (if c.v = c.v then some c.t else getO w c.v) := h c.v
      rw [getO, if_pos rfl] at e1
      rw [if_pos (rfl : c.v = c.v)] at e2
      obtain ⟨d, hd, hdv, _⟩ := getO_some e1.symm
      have l1 : c.v ≤ b.v := by
        rcases List.mem_cons.1 hd with rfl | hd
        · omega
        · have := q1 d hd; omega
      have l2 : b.v ≤ c.v := by
        by_cases e : b.v = c.v
        · omega
        · rw [if_neg e] at e2
          obtain ⟨d, hd, hdv, _⟩ := getO_some e2
          have := p1 d hd
          omega
      omega
    have ht : b.t = c.t := by
      have e1 := h b.v
      rw [getO, getO, if_pos rfl, if_pos key.symm] at e1
      exact Option.some.inj e1
    have hbc : b = c := by cases b; cases c; cases key; cases ht; rfl
    subst hbc
    rw [bd_ext p2 q2 fun v => ?_]
    have e := h v
    rw [getO, getO] at e
    by_cases hv : b.v = v
    · subst hv
      rw [getO_none.2 fun d hd e => by have := p1 d hd; omega, getO_none.2 fun d hd e => by have := q1 d hd; omega]
    · rwa [if_neg hv, if_neg hv] at e
/-- Substitutions that the same valuations satisfy are one. -/
theorem subst_ext {u w : List Bd} (hu : SubstP u) (hw : SubstP w) (h1 : Sat (sgm u) w) (h2 : Sat (sgm w) u) : u = w := by
  refine bd_ext hu.asc hw.asc fun v => ?_
  cases hg : getO u v with
  | none =>
    cases hg' : getO w v with
    | none => rfl
    | some y => exact absurd hg (dom_sub hw hu h1 (by rw [hg']; simp))
  | some x =>
    cases hg' : getO w v with
    | none => exact absurd hg' (dom_sub hu hw h2 (by rw [hg]; simp))
    | some y =>
      obtain ⟨c, hc, rfl, rfl⟩ := getO_some hg'
      have e := h1 c hc
      rw [sgm_bound hg, ← put_ev (hw.good c hc), putT_same (hw.good c hc) fun z hz => ?_] at e
      · rw [e]
      · cases hz' : getO u z with
        | none => rfl
        | some q => exact absurd ((hw.2 c hc).2 z hz) (dom_sub hu hw h2 (by rw [hz']; simp))
/-- Bound variables in ascending order that are bound in another list are not more than its. -/
theorem asc_count : ∀ {w s : List Bd}, w.Pairwise (fun a b => a.v < b.v) → s.Pairwise (fun a b => a.v < b.v) → (∀ b ∈ s, getO w b.v ≠ none) → s.length ≤ w.length
  | [], [], _, _, _ => Nat.le_refl _
  | [], b :: s, _, _, h => absurd rfl (h b (by simp))
  | c :: w, [], _, _, _ => Nat.zero_le _
  | c :: w, b :: s, h1, h2, h => by
    obtain ⟨p1, p2⟩ := List.pairwise_cons.1 h1
    obtain ⟨q1, q2⟩ := List.pairwise_cons.1 h2
    have hcb : c.v ≤ b.v := by
      obtain ⟨d, hd, hdv⟩ := getO_ne.1 (h b (by simp))
      rcases List.mem_cons.1 hd with rfl | hd
      · omega
      · have := p1 d hd; omega
    have := asc_count p2 q2 fun d hd => by
      have hb := q1 d hd
      have := h d (by simp [hd])
      rw [getO, if_neg (by omega)] at this
      exact this
    simp only [List.length_cons]
    omega

/-- The most general substitution that satisfies a substitution and equations; that none that fits does. -/
structure Mgu (s : List Bd) (E : List (Tm × Tm)) (u : List Bd) : Prop where
  ok : SubstP u
  iff : ∀ f, Sat f u ↔ Sat f s ∧ SolE f E
def NoU (s : List Bd) (E : List (Tm × Tm)) : Prop := ∀ w, SubstP w → Sat (sgm w) s → SolE (sgm w) E → False
theorem mgu_one {s u w : List Bd} {E : List (Tm × Tm)} (hu : Mgu s E u) (hw : Mgu s E w) : u = w :=
  subst_ext hu.ok hw.ok ((hw.iff _).2 ((hu.iff _).1 (sgm_sat hu.ok))) ((hu.iff _).2 ((hw.iff _).1 (sgm_sat hw.ok)))
theorem mgu_not {s u : List Bd} {E : List (Tm × Tm)} (hu : Mgu s E u) (hn : NoU s E) : False := by
  obtain ⟨h1, h2⟩ := (hu.iff _).1 (sgm_sat hu.ok)
  exact hn u hu.ok h1 h2
theorem solE_nil (f : Int → Tm) : SolE f [] := fun p hp => by cases hp
theorem solE_cons {f : Int → Tm} {p : Tm × Tm} {E : List (Tm × Tm)} : SolE f (p :: E) ↔ evT f p.1 = evT f p.2 ∧ SolE f E := by simp [SolE]
theorem solE_app {f : Int → Tm} {E F : List (Tm × Tm)} : SolE f (E ++ F) ↔ SolE f E ∧ SolE f F := by
  simp only [SolE, List.mem_append]
  exact ⟨fun h => ⟨fun p hp => h p (.inl hp), fun p hp => h p (.inr hp)⟩, fun h p hp => hp.elim (h.1 p) (h.2 p)⟩
theorem mgu_refl {s : List Bd} {E : List (Tm × Tm)} (hs : SubstP s) (h : ∀ f, Sat f s → SolE f E) : Mgu s E s := ⟨hs, fun f => ⟨fun h1 => ⟨h1, h f h1⟩, fun h1 => h1.1⟩⟩
theorem mgu_trans {s u w : List Bd} {E F : List (Tm × Tm)} (h1 : Mgu s E u) (h2 : Mgu u F w) : Mgu s (E ++ F) w :=
  ⟨h2.ok, fun f => by rw [h2.iff, h1.iff, solE_app]; exact ⟨fun h => ⟨h.1.1, h.1.2, h.2⟩, fun h => ⟨⟨h.1, h.2.1⟩, h.2.2⟩⟩⟩
theorem nou_left {s : List Bd} {E F : List (Tm × Tm)} (h : NoU s E) : NoU s (E ++ F) := fun w hw h1 h2 => h w hw h1 (solE_app.1 h2).1
theorem nou_right {s u : List Bd} {E F : List (Tm × Tm)} (h1 : Mgu s E u) (h2 : NoU u F) : NoU s (E ++ F) := fun w hw h3 h4 => h2 w hw ((h1.iff _).2 ⟨h3, (solE_app.1 h4).1⟩) (solE_app.1 h4).2
theorem mgu_congr {s u : List Bd} {E F : List (Tm × Tm)} (h : ∀ f, Sat f s → (SolE f E ↔ SolE f F)) (hu : Mgu s E u) : Mgu s F u :=
  ⟨hu.ok, fun f => by rw [hu.iff]; exact ⟨fun k => ⟨k.1, (h f k.1).1 k.2⟩, fun k => ⟨k.1, (h f k.1).2 k.2⟩⟩⟩
theorem nou_congr {s : List Bd} {E F : List (Tm × Tm)} (h : ∀ f, Sat f s → (SolE f E ↔ SolE f F)) (hn : NoU s E) : NoU s F := fun w hw h1 h2 => hn w hw h1 ((h _ h1).2 h2)
open Classical in
/-- Whether there is a most general unifier that fits. -/
noncomputable def muB (s : List Bd) (E : List (Tm × Tm)) : Bool := decide (∃ u, Mgu s E u)
open Classical in
noncomputable def muL (s : List Bd) (E : List (Tm × Tm)) : List Bd := if h : ∃ u, Mgu s E u then Classical.choose h else []
open Classical in
theorem mu_yes {s u : List Bd} {E : List (Tm × Tm)} (h : Mgu s E u) : muL s E = u ∧ muB s E = true := by
  have hx : ∃ u, Mgu s E u := ⟨u, h⟩
  exact ⟨by rw [muL, dif_pos hx]; exact mgu_one (Classical.choose_spec hx) h, by unfold muB; exact decide_eq_true hx⟩
open Classical in
theorem mu_no {s : List Bd} {E : List (Tm × Tm)} (h : NoU s E) : muL s E = [] ∧ muB s E = false := by
  have hx : ¬ ∃ u, Mgu s E u := fun ⟨u, hu⟩ => mgu_not hu h
  exact ⟨by rw [muL, dif_neg hx], by unfold muB; exact decide_eq_false hx⟩
end Go.Proofs.Ytnmdnajbafpfiaa

namespace Go.Proofs.Ytnmdnajbafpfiaa
open Go.RowKit
set_option linter.unusedVariables false
set_option linter.unusedSimpArgs false

theorem put_v1 (v : Int) (x : Tm) : (Tm.mk 1 v ⟨#[]⟩ []).put v x = x := put_var (t := .mk 1 v ⟨#[]⟩ []) ⟨rfl, rfl⟩
theorem put_v2 {i v : Int} (h : ¬ i = v) (x : Tm) : (Tm.mk 1 i ⟨#[]⟩ []).put v x = .mk 1 i ⟨#[]⟩ [] := put_atom (t := .mk 1 i ⟨#[]⟩ []) (fun k => h k.2) rfl
theorem vrange {t : Tm} (h : Good t) (hk : t.kind = 1) : 0 ≤ t.num ∧ t.num ≤ 100000 := by
  cases h with
  | nil => cases hk
  | sym n hn => cases hk
  | int r h0 h1 => cases hk
  | var i h0 h1 => exact ⟨h0, h1⟩
  | pair x y _ _ => cases hk
theorem ev_put {f : Int → Tm} {v : Int} {x t : Tm} (h : Good t) (e : f v = evT f x) : evT f (t.put v x) = evT f t := by
  induction h with
  | nil => rw [put_atom (by simp [Tm.kind]) rfl]
  | sym n hn => rw [put_atom (by simp [Tm.kind]) rfl]
  | int r h0 h1 => rw [put_atom (by simp [Tm.kind]) rfl]
  | var i h0 h1 =>
    by_cases hi : i = v
    · subst hi
      rw [put_v1, ev_var, e]
    · rw [put_v2 hi]
  | pair a b _ _ iha ihb => rw [put_pair (x := a) (y := b) (by simp [Tm.kind]) rfl]; show evT f (.mk 4 0 ⟨#[]⟩ [a.put v x, b.put v x]) = _; rw [ev_pair, ev_pair, iha, ihb]
theorem put_vars {v : Int} {x t : Tm} (h : Good t) : ∀ u ∈ (t.put v x).vl, (u ∈ t.vl ∧ u ≠ v) ∨ (v ∈ t.vl ∧ u ∈ x.vl) := by
  induction h with
  | nil => intro u hu; rw [put_atom (by simp [Tm.kind]) rfl] at hu; simp [Tm.vl, vlL] at hu
  | sym n hn => intro u hu; rw [put_atom (by simp [Tm.kind]) rfl] at hu; simp [Tm.vl, vlL] at hu
  | int r h0 h1 => intro u hu; rw [put_atom (by simp [Tm.kind]) rfl] at hu; simp [Tm.vl, vlL] at hu
  | var i h0 h1 =>
    intro u hu
    by_cases hi : i = v
    · subst hi
      rw [put_v1] at hu
      exact .inr ⟨by simp [Tm.vl], hu⟩
    · rw [put_v2 hi] at hu
      have : u = i := by simpa [Tm.vl] using hu
      subst this
      exact .inl ⟨by simp [Tm.vl], hi⟩
  | pair a b _ _ iha ihb =>
    intro u hu
    rw [put_pair (x := a) (y := b) (by simp [Tm.kind]) rfl] at hu
    have hu2 : u ∈ (Tm.mk 4 0 ⟨#[]⟩ [a.put v x, b.put v x]).vl := hu
    rw [vl_pair, List.mem_append] at hu2
    rw [vl_pair]
    rcases hu2 with hu | hu
    · rcases iha u hu with ⟨h1, h2⟩ | ⟨h1, h2⟩
      · exact .inl ⟨List.mem_append_left _ h1, h2⟩
      · exact .inr ⟨List.mem_append_left _ h1, h2⟩
    · rcases ihb u hu with ⟨h1, h2⟩ | ⟨h1, h2⟩
      · exact .inl ⟨List.mem_append_right _ h1, h2⟩
      · exact .inr ⟨List.mem_append_right _ h1, h2⟩
theorem put_kind {v : Int} {x t : Tm} (h : Good t) (hk : (t.put v x).kind = 1) : t.kind = 1 ∧ (t.put v x = t ∨ (t.num = v ∧ t.put v x = x)) := by
  by_cases h1 : t.kind = 1
  · refine ⟨h1, ?_⟩
    by_cases hv : t.num = v
    · exact .inr ⟨hv, put_var ⟨h1, hv⟩⟩
    · refine .inl (put_atom (fun h => hv h.2) ?_)
      rcases good_args_cases h with ⟨h4, _⟩ | ⟨_, ha⟩
      · omega
      · exact ha
  · rw [put_eq, if_neg (fun h => h1 h.1)] at hk
    exact absurd hk h1
theorem subst_mk {l : List Bd} (hp : l.Pairwise (fun a b => a.v < b.v)) (hl : l.length ≤ 400) (hb : ∀ b ∈ l, (0 ≤ b.v ∧ b.v ≤ 100000) ∧ Ok b.t ∧ ¬ (b.t.kind = 1 ∧ b.v ≤ b.t.num) ∧ ∀ u ∈ b.t.vl, getO l u = none) : SubstP l := by
  refine ⟨⟨fun k x hx => ?_, fun k x y hx hy => ?_, hl⟩, fun b h => ⟨(hb b h).2.2.1, (hb b h).2.2.2⟩⟩
  · have := hb x (List.mem_of_getElem? hx)
    exact ⟨this.1, this.2.1⟩
  · obtain ⟨h1, e1⟩ := List.getElem?_eq_some_iff.1 hx
    obtain ⟨h2, e2⟩ := List.getElem?_eq_some_iff.1 hy
    have := List.pairwise_iff_getElem.1 hp k (k + 1) h1 h2 (by omega)
    rwa [e1, e2] at this
theorem SubstP.var {s : List Bd} (h : SubstP s) {b : Bd} (hb : b ∈ s) : 0 ≤ b.v ∧ b.v ≤ 100000 := by
  obtain ⟨i, hi⟩ := List.getElem?_of_mem hb
  exact (h.1.1 i b hi).1
theorem put_free {s : List Bd} (hs : SubstP s) {t : Tm} (h : Good t) : ∀ u ∈ (putT s t).vl, getO s u = none := by
  intro u hu
  rcases putT_vl h u hu with ⟨_, h2⟩ | ⟨v, _, y, hy, h2⟩
  · exact h2
  · obtain ⟨b, hb, _, rfl⟩ := getO_some hy
    exact (hs.2 b hb).2 u h2

/-- A variable bound: it is replaced in all that is bound, and put in its place. -/
def bindS (s : List Bd) (v : Int) (x : Tm) : List Bd := insB (s.map fun b => ⟨b.v, b.t.put v x⟩) ⟨v, x⟩
theorem bind_mem {s : List Bd} {v : Int} {x : Tm} {c : Bd} : c ∈ bindS s v x ↔ c = ⟨v, x⟩ ∨ ∃ b ∈ s, c = ⟨b.v, b.t.put v x⟩ := by
  unfold bindS
  rw [insB_mem, List.mem_map]
  exact ⟨fun h => h.imp id fun ⟨b, hb, e⟩ => ⟨b, hb, e.symm⟩, fun h => h.imp id fun ⟨b, hb, e⟩ => ⟨b, hb, e.symm⟩⟩
theorem bind_sat {f : Int → Tm} {s : List Bd} {v : Int} {x : Tm} (hg : ∀ b ∈ s, Good b.t) : Sat f (bindS s v x) ↔ Sat f s ∧ f v = evT f x := by
  constructor
  · intro h
    have hv : f v = evT f x := h ⟨v, x⟩ (bind_mem.2 (.inl rfl))
    refine ⟨fun b hb => ?_, hv⟩
    have := h ⟨b.v, b.t.put v x⟩ (bind_mem.2 (.inr ⟨b, hb, rfl⟩))
    rw [← ev_put (hg b hb) hv]
    exact this
  · rintro ⟨h, hv⟩ c hc
    rcases bind_mem.1 hc with rfl | ⟨b, hb, rfl⟩
    · exact hv
    · show f b.v = evT f (b.t.put v x)
      rw [ev_put (hg b hb) hv]
      exact h b hb
theorem map_asc {s : List Bd} {g : Bd → Bd} (h : s.Pairwise (fun a b => a.v < b.v)) (hg : ∀ b, (g b).v = b.v) : (s.map g).Pairwise (fun a b => a.v < b.v) :=
  List.pairwise_map.2 (h.imp fun {a b} hab => by rw [hg, hg]; exact hab)
theorem bind_subst {s : List Bd} {v : Int} {x : Tm} (hs : SubstP s) (hv : 0 ≤ v ∧ v ≤ 100000) (hfree : getO s v = none) (hx : Ok x) (hxv : ∀ u ∈ x.vl, getO s u = none ∧ u ≠ v) (ho : ¬ (x.kind = 1 ∧ v ≤ x.num)) (hl : s.length < 400) (hfit : ∀ b ∈ s, (b.t.put v x).nodes ≤ 5000) : SubstP (bindS s v x) := by
  have hout : ∀ u, getO s u = none → u ≠ v → getO (bindS s v x) u = none := by
    intro u h1 h2
    rw [getO_none]
    intro c hc
    rcases bind_mem.1 hc with rfl | ⟨b, hb, rfl⟩
    · exact fun e => h2 e.symm
    · exact getO_none.1 h1 b hb
  refine subst_mk (insB_asc (map_asc hs.asc fun b => rfl) fun c hc => ?_) (by unfold bindS; rw [insB_length, List.length_map]; omega) fun c hc => ?_
  · obtain ⟨b, hb, rfl⟩ := List.mem_map.1 hc
    exact getO_none.1 hfree b hb
  · rcases bind_mem.1 hc with rfl | ⟨b, hb, rfl⟩
    · exact ⟨hv, hx, ho, fun u hu => hout u (hxv u hu).1 (hxv u hu).2⟩
    · have hg := hs.good b hb
      obtain ⟨hob, hfb⟩ := hs.2 b hb
      refine ⟨(show 0 ≤ b.v ∧ b.v ≤ 100000 from hs.var hb), ⟨hfit b hb, good_put hx.2 hg⟩, fun ⟨hk, hle⟩ => ?_, fun u hu => ?_⟩
      · obtain ⟨h1, h2 | ⟨h2, h3⟩⟩ := put_kind hg hk
        · have hle' : b.v ≤ (b.t.put v x).num := hle
          rw [h2] at hle'
          exact hob ⟨h1, hle'⟩
        · have hle' : b.v ≤ (b.t.put v x).num := hle
          have hk' : (b.t.put v x).kind = 1 := hk
          rw [h3] at hle' hk'
          have h4 : ¬ v ≤ x.num := fun h => ho ⟨hk', h⟩
          have h5 : ¬ b.v ≤ b.t.num := fun h => hob ⟨h1, h⟩
          omega
      · rcases put_vars hg u hu with ⟨h1, h2⟩ | ⟨h1, h2⟩
        · exact hout u (hfb u h1) h2
        · exact hout u (hxv u h2).1 (hxv u h2).2
theorem sol_one {f : Int → Tm} {p : Tm × Tm} : SolE f [p] ↔ evT f p.1 = evT f p.2 := by rw [solE_cons]; exact ⟨fun h => h.1, fun h => ⟨h, solE_nil f⟩⟩
/-- A variable that is free is bound. -/
theorem bind_mgu {s : List Bd} {v : Int} {t : Tm} (hs : SubstP s) (hv : 0 ≤ v ∧ v ≤ 100000) (hfree : getO s v = none) (ht : Good t) (hn : (putT s t).nodes ≤ 5000) (hocc : ¬ v ∈ (putT s t).vl) (ho : ¬ ((putT s t).kind = 1 ∧ v ≤ (putT s t).num)) (hl : s.length < 400) (hfit : ∀ b ∈ s, (b.t.put v (putT s t)).nodes ≤ 5000) :
    Mgu s [(varTm v, t)] (bindS s v (putT s t)) := by
  refine ⟨bind_subst hs hv hfree ⟨hn, putT_good hs.good t.nodes t (Nat.le_refl _) ht⟩ (fun u hu => ⟨put_free hs ht u hu, fun e => hocc (e ▸ hu)⟩) ho hl hfit, fun f => ?_⟩
  rw [bind_sat hs.good, sol_one, ev_varTm]
  exact ⟨fun h => ⟨h.1, by rw [h.2, sat_put h.1 ht]⟩, fun h => ⟨h.1, by rw [sat_put h.1 ht]; exact h.2⟩⟩
/-- Where it can't be bound, no substitution that fits satisfies the equation. -/
theorem bind_no {s : List Bd} {v : Int} {t : Tm} (hs : SubstP s) (hfree : getO s v = none) (ht : Good t) (ho : ¬ ((putT s t).kind = 1 ∧ v ≤ (putT s t).num))
    (h : 5000 < (putT s t).nodes ∨ (v ∈ (putT s t).vl ∧ ¬ (putT s t).kind = 1) ∨ 400 ≤ s.length ∨ ∃ b ∈ s, 5000 < (b.t.put v (putT s t)).nodes) : NoU s [(varTm v, t)] := by
  intro w hw h1 h2
  have hx := putT_good hs.good t.nodes t (Nat.le_refl _) ht
  have e : sgm w v = evT (sgm w) (putT s t) := by
    rw [sol_one, ev_varTm] at h2
    rw [sat_put h1 ht]; exact h2
  have hsm := sgm_small hw
  rcases h with h | ⟨h, hk⟩ | h | ⟨b, hb, h⟩
  · have h3 := ev_nodes (f := sgm w) hx
    rw [← e] at h3
    have := hsm v
    omega
  · exact ev_occurs hx h hk e
  · have ha := insB_asc (b := ⟨v, putT s t⟩) hs.asc fun c hc => getO_none.1 hfree c hc
    have := asc_count hw.asc ha fun c hc => by
      rcases insB_mem.1 hc with rfl | hc
      · exact dom_one hw hx ho e
      · exact dom_sub hs hw h1 (getO_ne.2 ⟨c, hc, rfl⟩)
    rw [insB_length] at this
    have := hw.1.2.2
    omega
  · have h3 := ev_nodes (f := sgm w) (good_put (v := v) hx (hs.good b hb))
    rw [ev_put (hs.good b hb) e, ← h1 b hb] at h3
    have := hsm b.v
    omega

/-- A bound variable replaced. -/
def walkT (s : List Bd) (t : Tm) : Tm := if t.kind = 1 then (match getO s t.num with | some x => x | none => t) else t
theorem walk_ok {s : List Bd} (hs : SubstP s) {t : Tm} (h : Ok t) : Ok (walkT s t) := by
  unfold walkT
  by_cases hk : t.kind = 1
  · rw [if_pos hk]
    cases hg : getO s t.num with
    | none => exact h
    | some y =>
      obtain ⟨b, hb, _, rfl⟩ := getO_some hg
      exact ⟨hs.nodes b hb, hs.good b hb⟩
  · rw [if_neg hk]; exact h
theorem var_is {t : Tm} (h : Good t) (hk : t.kind = 1) : t = varTm t.num := by
  cases h with
  | nil => cases hk
  | sym n hn => cases hk
  | int r h0 h1 => cases hk
  | var i h0 h1 => rfl
  | pair x y _ _ => cases hk
theorem walk_ev {f : Int → Tm} {s : List Bd} (hs : Sat f s) {t : Tm} (h : Good t) : evT f (walkT s t) = evT f t := by
  unfold walkT
  by_cases hk : t.kind = 1
  · rw [if_pos hk]
    cases hg : getO s t.num with
    | none => rfl
    | some y =>
      obtain ⟨b, hb, hbv, rfl⟩ := getO_some hg
      show evT f b.t = _
      rw [← hs b hb, hbv, var_is h hk, ev_varTm]
      rfl
  · rw [if_neg hk]
theorem walk_free {s : List Bd} (hs : SubstP s) {t : Tm} (hk : (walkT s t).kind = 1) : getO s (walkT s t).num = none := by
  unfold walkT at hk ⊢
  by_cases h1 : t.kind = 1
  · rw [if_pos h1] at hk ⊢
    cases hg : getO s t.num with
    | none => exact hg
    | some y =>
      rw [hg] at hk
      obtain ⟨b, hb, _, rfl⟩ := getO_some hg
      have hk' : b.t.kind = 1 := hk
      exact (hs.2 b hb).2 b.t.num (by rw [vl_of_var hk']; simp)
  · rw [if_neg h1] at hk
    exact absurd hk h1
/-- The equation of two terms is that of the two walked. -/
theorem walk_eqn {f : Int → Tm} {s : List Bd} (hs : Sat f s) {a b : Tm} (ha : Good a) (hb : Good b) : SolE f [(walkT s a, walkT s b)] ↔ SolE f [(a, b)] := by
  rw [sol_one, sol_one, walk_ev hs ha, walk_ev hs hb]
theorem swap_eqn {f : Int → Tm} {a b : Tm} : SolE f [(a, b)] ↔ SolE f [(b, a)] := by rw [sol_one, sol_one]; exact eq_comm
theorem clash_no {s : List Bd} {a b : Tm} (ha : ¬ a.kind = 1) (hb : ¬ b.kind = 1) (h : ¬ (a.kind = b.kind ∧ a.num = b.num ∧ a.name = b.name)) : NoU s [(a, b)] := by
  intro w _ _ h2
  rw [sol_one] at h2
  obtain ⟨a1, a2, a3⟩ := ev_kind (f := sgm w) ha
  obtain ⟨b1, b2, b3⟩ := ev_kind (f := sgm w) hb
  have h2' : evT (sgm w) a = evT (sgm w) b := h2
  rw [h2'] at a1 a2 a3
  exact h ⟨a1.symm.trans b1, a2.symm.trans b2, a3.symm.trans b3⟩
theorem evL_zip {f : Int → Tm} : ∀ {l m : List Tm}, l.length = m.length → (evL f l = evL f m ↔ SolE f (l.zip m))
  | [], [], _ => ⟨fun _ => solE_nil f, fun _ => rfl⟩
  | a :: l, b :: m, h => by
    rw [evL, evL, List.zip_cons_cons, solE_cons, List.cons.injEq, evL_zip (by simpa using h)]
/-- Two terms of one head are equal exactly if their arguments are. -/
theorem args_eqn {f : Int → Tm} {a b : Tm} (ha : ¬ a.kind = 1) (hk : a.kind = b.kind ∧ a.num = b.num ∧ a.name = b.name) (hl : a.args.length = b.args.length) : SolE f (a.args.zip b.args) ↔ SolE f [(a, b)] := by
  cases a with
  | mk k i s l =>
    cases b with
    | mk k' i' s' m =>
      obtain ⟨e1, e2, e3⟩ := hk
      have e1' : k = k' := e1
      have e2' : i = i' := e2
      have e3' : s = s' := e3
      subst e1' e2' e3'
      have hk1 : ¬ k = 1 := ha
      rw [sol_one]
      show SolE f (l.zip m) ↔ evT f (.mk k i s l) = evT f (.mk k i s m)
      rw [evT, evT, if_neg hk1, if_neg hk1, Tm.mk.injEq, ← evL_zip (show l.length = m.length from hl)]
      exact ⟨fun h => ⟨rfl, rfl, rfl, h⟩, fun h => h.2.2.2⟩
theorem zip_take {l m : List Tm} {k : Nat} {x y : Tm} (hx : l[k]? = some x) (hy : m[k]? = some y) : (l.take (k + 1)).zip (m.take (k + 1)) = (l.take k).zip (m.take k) ++ [(x, y)] := by
  have h1 := (List.getElem?_eq_some_iff.1 hx).1
  have h2 := (List.getElem?_eq_some_iff.1 hy).1
  rw [List.take_add_one, List.take_add_one, hx, hy]
  exact List.zip_append (by rw [List.length_take, List.length_take]; omega)
end Go.Proofs.Ytnmdnajbafpfiaa

namespace Go.Proofs.Ytnmdnajbafpfiaa
open Go.RowKit
set_option linter.unusedVariables false
set_option linter.unusedSimpArgs false

/-- One or the other; a unifier that is not the substitution itself binds more. -/
def Out (s : List Bd) (E : List (Tm × Tm)) : Prop := (∃ u, Mgu s E u ∧ (u = s ∨ s.length < u.length)) ∨ NoU s E
theorem out_congr {s : List Bd} {E F : List (Tm × Tm)} (h : ∀ f, Sat f s → (SolE f E ↔ SolE f F)) (ho : Out s E) : Out s F := ho.imp (fun ⟨u, h1, h2⟩ => ⟨u, mgu_congr h h1, h2⟩) (nou_congr h)
theorem bind_length (s : List Bd) (v : Int) (x : Tm) : (bindS s v x).length = s.length + 1 := by unfold bindS; rw [insB_length, List.length_map]
theorem bind_or {s : List Bd} {v : Int} {t : Tm} (hs : SubstP s) (hv : 0 ≤ v ∧ v ≤ 100000) (hfree : getO s v = none) (ht : Good t) (ho : ¬ ((putT s t).kind = 1 ∧ v ≤ (putT s t).num)) : Out s [(varTm v, t)] := by
  by_cases h1 : 5000 < (putT s t).nodes
  · exact .inr (bind_no hs hfree ht ho (.inl h1))
  by_cases h2 : v ∈ (putT s t).vl
  · refine .inr (bind_no hs hfree ht ho (.inr (.inl ⟨h2, fun hk => ho ⟨hk, ?_⟩⟩)))
    rw [vl_of_var hk] at h2
    have : v = (putT s t).num := by simpa using h2
    omega
  by_cases h3 : 400 ≤ s.length
  · exact .inr (bind_no hs hfree ht ho (.inr (.inr (.inl h3))))
  by_cases h4 : ∃ b ∈ s, 5000 < (b.t.put v (putT s t)).nodes
  · exact .inr (bind_no hs hfree ht ho (.inr (.inr (.inr h4))))
  refine .inl ⟨_, bind_mgu hs hv hfree ht (by omega) h2 ho (by omega) fun b hb => ?_, .inr (by rw [bind_length]; omega)⟩
  have : ¬ 5000 < (b.t.put v (putT s t)).nodes := fun h => h4 ⟨b, hb, h⟩
  omega
theorem put_walk {s : List Bd} (hs : SubstP s) (t : Tm) : putT s (walkT s t) = putT s t := by
  unfold walkT
  by_cases hk : t.kind = 1
  · rw [if_pos hk]
    cases hg : getO s t.num with
    | none => rfl
    | some y =>
      obtain ⟨b, hb, _, rfl⟩ := getO_some hg
      rw [putT_var (t := t) hk, hg]
      show putT s b.t = b.t
      exact putT_same (hs.good b hb) (hs.2 b hb).2
  · rw [if_neg hk]
theorem put_notvar {s : List Bd} {t : Tm} (hk : ¬ t.kind = 1) : ¬ (putT s t).kind = 1 := by
  by_cases h4 : t.kind = 4
  · rw [putT_pair h4]; show ¬ (4 : Int) = 1; decide
  · rw [putT_atom hk h4]; exact hk
theorem good_leaf {t : Tm} (h : Good t) (h4 : ¬ t.kind = 4) : t.args = [] := by
  rcases good_args_cases h with ⟨h, _⟩ | ⟨_, h⟩
  · exact absurd h h4
  · exact h
theorem good_fields {a b : Tm} (h : a.kind = b.kind ∧ a.num = b.num ∧ a.name = b.name) (hl : a.args = b.args) : a = b := by
  cases a with
  | mk k i s l =>
    cases b with
    | mk k' i' s' m =>
      obtain ⟨e1, e2, e3⟩ := h
      have e1' : k = k' := e1
      have e2' : i = i' := e2
      have e3' : s = s' := e3
      have e4' : l = m := hl
      rw [e1', e2', e3', e4']
theorem good_pair {t : Tm} (h : Good t) (h4 : t.kind = 4) : ∃ x y, t = .mk 4 0 ⟨#[]⟩ [x, y] ∧ Good x ∧ Good y := by
  cases h with
  | nil => cases h4
  | sym n hn => cases h4
  | int r h0 h1 => cases h4
  | var i h0 h1 => cases h4
  | pair x y hx hy => exact ⟨x, y, rfl, hx, hy⟩
/-- Two walked terms that are not both pairs. -/
theorem two_or {s : List Bd} {a b : Tm} (hs : SubstP s) (ha : Ok a) (hb : Ok b) (hfa : a.kind = 1 → getO s a.num = none) (hfb : b.kind = 1 → getO s b.num = none) (hp : ¬ (a.kind = 4 ∧ b.kind = 4)) : Out s [(a, b)] := by
  by_cases h1 : a.kind = 1
  · have ea := var_is ha.2 h1
    have ra := vrange ha.2 h1
    have fa := hfa h1
    by_cases h2 : b.kind = 1
    · have eb := var_is hb.2 h2
      have rb := vrange hb.2 h2
      have fb := hfb h2
      have pa : putT s a = a := by rw [ea]; exact putT_free fa
      have pb : putT s b = b := by rw [eb]; exact putT_free fb
      by_cases h3 : a.num < b.num
      · have := bind_or (t := a) hs rb fb ha.2 (by rw [pa]; intro h; omega)
        rw [← eb] at this
        exact out_congr (fun f _ => swap_eqn) this
      · by_cases h4 : a.num = b.num
        · refine .inl ⟨s, mgu_refl hs fun f _ => ?_, .inl rfl⟩
          rw [sol_one, ea, eb, h4]
        · have := bind_or (t := b) hs ra fa hb.2 (by rw [pb]; intro h; omega)
          rwa [← ea] at this
    · have := bind_or (t := b) hs ra fa hb.2 (fun h => put_notvar h2 h.1)
      rwa [← ea] at this
  · by_cases h2 : b.kind = 1
    · have eb := var_is hb.2 h2
      have := bind_or (t := a) hs (vrange hb.2 h2) (hfb h2) ha.2 (fun h => put_notvar h1 h.1)
      rw [← eb] at this
      exact out_congr (fun f _ => swap_eqn) this
    · by_cases h3 : a.kind = b.kind ∧ a.num = b.num ∧ a.name = b.name
      · have ha4 : ¬ a.kind = 4 := fun h => hp ⟨h, by omega⟩
        have e := good_fields h3 (by rw [good_leaf ha.2 ha4, good_leaf hb.2 (by omega)])
        refine .inl ⟨s, mgu_refl hs fun f _ => ?_, .inl rfl⟩
        rw [sol_one, e]
      · exact .inr (clash_no h1 h2 h3)
theorem ok_two {x y : Tm} (h : Ok (.mk 4 0 ⟨#[]⟩ [x, y])) : Ok x ∧ Ok y := by
  obtain ⟨h1, h2⟩ := h
  have h3 : 1 + nodesL [x, y] ≤ 5000 := by rw [nodes_eq] at h1; exact h1
  simp only [nodesL] at h3
  cases h2 with
  | pair _ _ hx hy => exact ⟨⟨by omega, hx⟩, ⟨by omega, hy⟩⟩
theorem pair_eqn {f : Int → Tm} {x y z q : Tm} : SolE f ([(x, z)] ++ [(y, q)]) ↔ SolE f [(.mk 4 0 ⟨#[]⟩ [x, y], .mk 4 0 ⟨#[]⟩ [z, q])] := by
  rw [solE_app, sol_one, sol_one, sol_one]
  show evT f x = evT f z ∧ evT f y = evT f q ↔ evT f (.mk 4 0 ⟨#[]⟩ [x, y]) = evT f (.mk 4 0 ⟨#[]⟩ [z, q])
  rw [ev_pair, ev_pair]
  simp
theorem mgu_or : ∀ (n m : Nat) (s : List Bd) (a b : Tm), SubstP s → Ok a → Ok b → 401 - s.length ≤ n → (putT s a).nodes ≤ m → Out s [(a, b)] := by
  intro n
  induction n with
  | zero => intro m s a b hs _ _ hn; have := hs.1.2.2; omega
  | succ n ihn =>
    intro m
    induction m with
    | zero => intro s a b _ _ _ _ hm; have := nodes_pos (putT s a); omega
    | succ m ihm =>
      intro s a b hs ha hb hn hm
      refine out_congr (fun f hf => walk_eqn hf ha.2 hb.2) ?_
      have oa := walk_ok hs ha
      have ob := walk_ok hs hb
      by_cases hp : (walkT s a).kind = 4 ∧ (walkT s b).kind = 4
      · obtain ⟨x, y, ea, hx, hy⟩ := good_pair oa.2 hp.1
        obtain ⟨z, q, eb, hz, hq⟩ := good_pair ob.2 hp.2
        have hw := put_walk hs a
        rw [ea] at oa hw
        rw [eb] at ob
        rw [ea, eb]
        obtain ⟨ox, oy⟩ := ok_two oa
        obtain ⟨oz, oq⟩ := ok_two ob
        rw [putT_two (x := x) (y := y) rfl rfl] at hw
        have hnn : 1 + nodesL [putT s x, putT s y] ≤ m + 1 := by rw [← hw, nodes_eq] at hm; exact hm
        simp only [nodesL] at hnn
        refine out_congr (fun f _ => pair_eqn) ?_
        rcases ihm s x z hs ox oz hn (by omega) with ⟨u, hu, rfl | hlt⟩ | hno
        · rcases ihm u y q hs oy oq hn (by omega) with ⟨w, hw, hl⟩ | hno
          · exact .inl ⟨w, mgu_trans hu hw, hl⟩
          · exact .inr (nou_right hu hno)
        · rcases ihn (putT u y).nodes u y q hu.ok oy oq (by omega) (Nat.le_refl _) with ⟨w, hw, hl⟩ | hno
          · refine .inl ⟨w, mgu_trans hu hw, .inr ?_⟩
            rcases hl with rfl | hl
            · exact hlt
            · omega
          · exact .inr (nou_right hu hno)
        · exact .inr (nou_left hno)
      · exact two_or hs oa ob (fun h => walk_free hs h) (fun h => walk_free hs h) hp
/-- Equations all of whose terms are valid. -/
def OkE (E : List (Tm × Tm)) : Prop := ∀ p ∈ E, Ok p.1 ∧ Ok p.2
theorem out_all : ∀ (E : List (Tm × Tm)) (s : List Bd), SubstP s → OkE E → Out s E
  | [], s, hs, _ => .inl ⟨s, mgu_refl hs fun f _ => solE_nil f, .inl rfl⟩
  | p :: E, s, hs, hE => by
    obtain ⟨ha, hb⟩ := hE p (by simp)
    have hE' : OkE E := fun q hq => hE q (by simp [hq])
    rcases mgu_or _ _ s p.1 p.2 hs ha hb (Nat.le_refl _) (Nat.le_refl _) with ⟨u, hu, hl⟩ | hno
    · rcases out_all E u hu.ok hE' with ⟨w, hw, hl'⟩ | hno
      · refine .inl ⟨w, mgu_trans (E := [p]) hu hw, ?_⟩
        rcases hl with rfl | hl
        · exact hl'
        · rcases hl' with rfl | hl'
          · exact .inr hl
          · exact .inr (by omega)
      · exact .inr (nou_right (E := [p]) hu hno)
    · exact .inr (nou_left (E := [p]) hno)
theorem mu_true {s : List Bd} {E : List (Tm × Tm)} (hs : SubstP s) (hE : OkE E) (h : muB s E = true) : Mgu s E (muL s E) := by
  rcases out_all E s hs hE with ⟨u, hu, _⟩ | hno
  · rw [(mu_yes hu).1]; exact hu
  · rw [(mu_no hno).2] at h; cases h
theorem mu_false {s : List Bd} {E : List (Tm × Tm)} (hs : SubstP s) (hE : OkE E) (h : muB s E = false) : NoU s E := by
  rcases out_all E s hs hE with ⟨u, hu, _⟩ | hno
  · rw [(mu_yes hu).2] at h; cases h
  · exact hno
theorem mu_subst {s : List Bd} {E : List (Tm × Tm)} : muL s E = [] ∨ SubstP (muL s E) := by
  by_cases h : ∃ u, Mgu s E u
  · obtain ⟨u, hu⟩ := h
    rw [(mu_yes hu).1]
    exact .inr hu.ok
  · left
    unfold muL
    exact dif_neg h
/-- Equations that the same valuations solve have the same answer. -/
theorem mu_congr {s : List Bd} {E F : List (Tm × Tm)} (hs : SubstP s) (hE : OkE E) (h : ∀ f, Sat f s → (SolE f E ↔ SolE f F)) : muL s E = muL s F ∧ muB s E = muB s F := by
  rcases out_all E s hs hE with ⟨u, hu, _⟩ | hno
  · have h1 := mu_yes hu
    have h2 := mu_yes (mgu_congr h hu)
    exact ⟨by rw [h1.1, h2.1], by rw [h1.2, h2.2]⟩
  · have h1 := mu_no hno
    have h2 := mu_no (nou_congr h hno)
    exact ⟨by rw [h1.1, h2.1], by rw [h1.2, h2.2]⟩
/-- Solved in two steps. -/
theorem mu_step {s u : List Bd} {E F : List (Tm × Tm)} (hu : Mgu s E u) (hF : OkE F) : muL s (E ++ F) = muL u F ∧ muB s (E ++ F) = muB u F := by
  rcases out_all F u hu.ok hF with ⟨w, hw, _⟩ | hno
  · have h1 := mu_yes hw
    have h2 := mu_yes (mgu_trans hu hw)
    exact ⟨by rw [h1.1, h2.1], by rw [h1.2, h2.2]⟩
  · have h1 := mu_no hno
    have h2 := mu_no (nou_right hu hno)
    exact ⟨by rw [h1.1, h2.1], by rw [h1.2, h2.2]⟩

/-! The answers of UnifyAll, Unify, JoinSubst, NewBindings, IsUnifier. -/
def UaP (s : List Bd) (l r : List Tm) : Prop := SubstP s ∧ (∀ t ∈ l, Ok t) ∧ (∀ t ∈ r, Ok t) ∧ l.length = r.length
open Classical in
noncomputable def uaL (s : List Bd) (l r : List Tm) : List Bd := if UaP s l r then muL s (l.zip r) else []
open Classical in
noncomputable def uaB (s : List Bd) (l r : List Tm) : Bool := if UaP s l r then muB s (l.zip r) else false
theorem ua_yes {s : List Bd} {l r : List Tm} (h : UaP s l r) : uaL s l r = muL s (l.zip r) ∧ uaB s l r = muB s (l.zip r) := ⟨by rw [uaL, if_pos h], by rw [uaB, if_pos h]⟩
theorem ua_no {s : List Bd} {l r : List Tm} (h : ¬ UaP s l r) : uaL s l r = [] ∧ uaB s l r = false := ⟨by rw [uaL, if_neg h], by rw [uaB, if_neg h]⟩
theorem zip_ok {s : List Bd} {l r : List Tm} (h : UaP s l r) : OkE (l.zip r) := fun p hp => ⟨h.2.1 p.1 (List.of_mem_zip hp).1, h.2.2.1 p.2 (List.of_mem_zip hp).2⟩
noncomputable def unL (s : List Bd) (a b : Tm) : List Bd := uaL s [a] [b]
noncomputable def unB (s : List Bd) (a b : Tm) : Bool := uaB s [a] [b]
/-- The equations that bindings say. -/
def eqnsB (t : List Bd) : List (Tm × Tm) := t.map fun b => (varTm b.v, b.t)
theorem eqns_ok {t : List Bd} (h : SubstP t) : OkE (eqnsB t) := fun p hp => by
  obtain ⟨b, hb, rfl⟩ := List.mem_map.1 hp
  exact ⟨varTm_ok (h.var hb), ⟨h.nodes b hb, h.good b hb⟩⟩
theorem eqns_sat {f : Int → Tm} {t : List Bd} : SolE f (eqnsB t) ↔ Sat f t := by
  constructor
  · intro h b hb
    have := h (varTm b.v, b.t) (List.mem_map.2 ⟨b, hb, rfl⟩)
    rwa [ev_varTm] at this
  · intro h p hp
    obtain ⟨b, hb, rfl⟩ := List.mem_map.1 hp
    show evT f (varTm b.v) = _
    rw [ev_varTm]
    exact h b hb
open Classical in
noncomputable def jsL (s t : List Bd) : List Bd := if SubstP s ∧ SubstP t then muL s (eqnsB t) else []
open Classical in
noncomputable def jsB (s t : List Bd) : Bool := if SubstP s ∧ SubstP t then muB s (eqnsB t) else false
/-- The join does not depend on the order. -/
theorem js_comm (s t : List Bd) : jsL s t = jsL t s ∧ jsB s t = jsB t s := by
  by_cases h : SubstP s ∧ SubstP t
  · have h' : SubstP t ∧ SubstP s := ⟨h.2, h.1⟩
    rw [jsL, jsB, jsL, jsB, if_pos h, if_pos h, if_pos h', if_pos h']
    have flip : ∀ {s t u : List Bd}, SubstP s → SubstP t → Mgu s (eqnsB t) u → Mgu t (eqnsB s) u := fun hs ht hu => ⟨hu.ok, fun f => by rw [hu.iff, eqns_sat, eqns_sat]; exact and_comm⟩
    rcases out_all (eqnsB t) s h.1 (eqns_ok h.2) with ⟨u, hu, _⟩ | hno
    · have h1 := mu_yes hu
      have h2 := mu_yes (flip h.1 h.2 hu)
      exact ⟨by rw [h1.1, h2.1], by rw [h1.2, h2.2]⟩
    · have h1 := mu_no hno
      have h2 := mu_no (s := t) (E := eqnsB s) fun w hw k1 k2 => hno w hw (eqns_sat.1 k2) (eqns_sat.2 k1)
      exact ⟨by rw [h1.1, h2.1], by rw [h1.2, h2.2]⟩
  · have h' : ¬ (SubstP t ∧ SubstP s) := fun k => h ⟨k.2, k.1⟩
    rw [jsL, jsB, jsL, jsB, if_neg h, if_neg h, if_neg h', if_neg h']
    exact ⟨rfl, rfl⟩
end Go.Proofs.Ytnmdnajbafpfiaa

