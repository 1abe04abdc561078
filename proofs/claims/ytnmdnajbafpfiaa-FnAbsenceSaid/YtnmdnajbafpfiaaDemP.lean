/-
  Ascending lists over a strict order of keys: joined two by two and by halves, plain. Two elements of one key that differ cannot be in one list.
-/
import Init
namespace Go.Proofs.Ytnmdnajbafpfiaa
set_option linter.unusedVariables false

/-- A strict order of keys. -/
structure KeyO (α : Type) where
  lt : α → α → Bool
  irr : ∀ a, lt a a = false
  tr : ∀ a b c, lt a b = true → lt b c = true → lt a c = true
  neg : ∀ a b c, lt a b = false → lt b c = false → lt a c = false
theorem KeyO.asym {α : Type} (O : KeyO α) {a b : α} (h : O.lt a b = true) : O.lt b a = false := by
  cases e : O.lt b a with
  | false => rfl
  | true => have h1 := O.tr a b a h e; rw [O.irr] at h1; cases h1
def AscO {α : Type} (O : KeyO α) (l : List α) : Prop := l.Pairwise (fun a b => O.lt a b = true)
/-- Two elements of one key that differ. -/
def Clash {α : Type} (O : KeyO α) (a b : α) : Prop := O.lt a b = false ∧ O.lt b a = false ∧ ¬ a = b
theorem Clash.symm {α : Type} {O : KeyO α} {a b : α} (h : Clash O a b) : Clash O b a := ⟨h.2.1, h.1, fun e => h.2.2 e.symm⟩
theorem AscO.lt_of {α : Type} {O : KeyO α} {x y : α} {l : List α} (h : AscO O (x :: l)) (hy : y ∈ l) : O.lt x y = true := (List.pairwise_cons.1 h).1 y hy
theorem AscO.tail {α : Type} {O : KeyO α} {x : α} {l : List α} (h : AscO O (x :: l)) : AscO O l := (List.pairwise_cons.1 h).2
theorem AscO.no_clash {α : Type} {O : KeyO α} : ∀ {l : List α}, AscO O l → ∀ a ∈ l, ∀ b ∈ l, ¬ Clash O a b
  | [], _, a, ha, _, _ => by simp at ha
  | x :: l, h, a, ha, b, hb => by
    intro hc
    rcases List.mem_cons.1 ha with e1 | h1
    · rcases List.mem_cons.1 hb with e2 | h2
      · exact hc.2.2 (e1.trans e2.symm)
      · have := h.lt_of h2; rw [← e1, hc.1] at this; cases this
    · rcases List.mem_cons.1 hb with e2 | h2
      · have := h.lt_of h1; rw [← e2, hc.2.1] at this; cases this
      · exact AscO.no_clash h.tail a h1 b h2 hc
/-- An ascending list is known by its elements. -/
theorem ascO_ext {α : Type} {O : KeyO α} : ∀ {l m : List α}, AscO O l → AscO O m → (∀ x, x ∈ l ↔ x ∈ m) → l = m
  | [], [], _, _, _ => rfl
  | [], y :: m, _, _, h => by have := (h y).2 (List.mem_cons_self ..); simp at this
  | x :: l, [], _, _, h => by have := (h x).1 (List.mem_cons_self ..); simp at this
  | x :: l, y :: m, hl, hm, h => by
    have e : x = y := by
      rcases List.mem_cons.1 ((h x).1 (List.mem_cons_self ..)) with e | hx
      · exact e
      · rcases List.mem_cons.1 ((h y).2 (List.mem_cons_self ..)) with e | hy
        · exact e.symm
        · have h1 := hm.lt_of hx
          have h2 := hl.lt_of hy
          rw [O.asym h1] at h2; cases h2
    subst e
    rw [ascO_ext hl.tail hm.tail fun z => ⟨fun hz => ?_, fun hz => ?_⟩]
    · rcases List.mem_cons.1 ((h z).1 (List.mem_cons_of_mem _ hz)) with e | h1
      · subst e; have := hl.lt_of hz; rw [O.irr] at this; cases this
      · exact h1
    · rcases List.mem_cons.1 ((h z).2 (List.mem_cons_of_mem _ hz)) with e | h1
      · subst e; have := hm.lt_of hz; rw [O.irr] at this; cases this
      · exact h1

/-! ### Two lists joined -/
open Classical in
noncomputable def jn {α : Type} (O : KeyO α) : List α → List α → Option (List α)
  | [], o => some o
  | x :: l, [] => some (x :: l)
  | x :: l, y :: o => if O.lt x y = true then (jn O l (y :: o)).map (x :: ·) else if O.lt y x = true then (jn O (x :: l) o).map (y :: ·) else if x = y then jn O (x :: l) o else none
termination_by l o => l.length + o.length
theorem jn_nil {α : Type} (O : KeyO α) (o : List α) : jn O [] o = some o := by rw [jn]
theorem jn_none2 {α : Type} (O : KeyO α) : ∀ l : List α, jn O l [] = some l
  | [] => by rw [jn]
  | x :: l => by rw [jn]
theorem jn_less {α : Type} {O : KeyO α} {x y : α} {l o : List α} (h : O.lt x y = true) : jn O (x :: l) (y :: o) = (jn O l (y :: o)).map (x :: ·) := by rw [jn, if_pos h]
theorem jn_more {α : Type} {O : KeyO α} {x y : α} {l o : List α} (h : O.lt x y = false) (h2 : O.lt y x = true) : jn O (x :: l) (y :: o) = (jn O (x :: l) o).map (y :: ·) := by
  rw [jn, if_neg (by rw [h]; exact Bool.false_ne_true), if_pos h2]
theorem jn_same {α : Type} {O : KeyO α} {x : α} {l o : List α} : jn O (x :: l) (x :: o) = jn O (x :: l) o := by
  rw [jn, if_neg (by rw [O.irr]; exact Bool.false_ne_true), if_neg (by rw [O.irr]; exact Bool.false_ne_true), if_pos rfl]
theorem jn_clash {α : Type} {O : KeyO α} {x y : α} {l o : List α} (h : Clash O x y) : jn O (x :: l) (y :: o) = none := by
  rw [jn, if_neg (by rw [h.1]; exact Bool.false_ne_true), if_neg (by rw [h.2.1]; exact Bool.false_ne_true), if_neg h.2.2]
/-- The ways of two heads. -/
theorem heads {α : Type} (O : KeyO α) (x y : α) : O.lt x y = true ∨ (O.lt x y = false ∧ O.lt y x = true) ∨ x = y ∨ Clash O x y := by
  cases h : O.lt x y with
  | true => exact .inl rfl
  | false =>
    cases h2 : O.lt y x with
    | true => exact .inr (.inl ⟨rfl, rfl⟩)
    | false =>
      by_cases e : x = y
      · exact .inr (.inr (.inl e))
      · exact .inr (.inr (.inr ⟨h, h2, e⟩))
theorem jn_spec {α : Type} (O : KeyO α) : ∀ (n : Nat) (l o : List α), l.length + o.length ≤ n → AscO O l → AscO O o →
    (∀ r, jn O l o = some r → AscO O r ∧ ∀ x, x ∈ r ↔ x ∈ l ∨ x ∈ o) ∧ (jn O l o = none ↔ ∃ a ∈ l, ∃ b ∈ o, Clash O a b) := by
  intro n
  induction n with
  | zero =>
    intro l o hn hl ho
    cases l with
    | nil => exact ⟨fun r h => by rw [jn_nil] at h; cases h; exact ⟨ho, fun x => by simp⟩, by rw [jn_nil]; simp⟩
    | cons x l => rw [List.length_cons] at hn; omega
  | succ n ih =>
    intro l o hn hl ho
    cases l with
    | nil => exact ⟨fun r h => by rw [jn_nil] at h; cases h; exact ⟨ho, fun x => by simp⟩, by rw [jn_nil]; simp⟩
    | cons x l =>
      cases o with
      | nil => exact ⟨fun r h => by rw [jn_none2] at h; cases h; exact ⟨hl, fun x => by simp⟩, by rw [jn_none2]; simp⟩
      | cons y o =>
        rw [List.length_cons, List.length_cons] at hn
        rcases heads O x y with h | ⟨h, h2⟩ | rfl | h
        · obtain ⟨i1, i2⟩ := ih l (y :: o) (by rw [List.length_cons]; omega) hl.tail ho
          rw [jn_less h]
          refine ⟨fun r hr => ?_, ?_⟩
          · obtain ⟨r', hr', rfl⟩ := Option.map_eq_some_iff.1 hr
            obtain ⟨a1, a2⟩ := i1 r' hr'
            refine ⟨List.pairwise_cons.2 ⟨fun z hz => ?_, a1⟩, fun z => ?_⟩
            · rcases (a2 z).1 hz with hz | hz
              · exact hl.lt_of hz
              · rcases List.mem_cons.1 hz with rfl | hz
                · exact h
                · exact O.tr _ _ _ h (ho.lt_of hz)
            · rw [List.mem_cons, a2, List.mem_cons, List.mem_cons, or_assoc]
          · rw [Option.map_eq_none_iff, i2]
            constructor
            · rintro ⟨a, ha, b, hb, hc⟩
              exact ⟨a, List.mem_cons_of_mem _ ha, b, hb, hc⟩
            · rintro ⟨a, ha, b, hb, hc⟩
              rcases List.mem_cons.1 ha with rfl | ha
              · exfalso
                rcases List.mem_cons.1 hb with rfl | hb
                · rw [hc.1] at h; cases h
                · have := O.tr _ _ _ h (ho.lt_of hb); rw [hc.1] at this; cases this
              · exact ⟨a, ha, b, hb, hc⟩
        · obtain ⟨i1, i2⟩ := ih (x :: l) o (by rw [List.length_cons]; omega) hl ho.tail
          rw [jn_more h h2]
          refine ⟨fun r hr => ?_, ?_⟩
          · obtain ⟨r', hr', rfl⟩ := Option.map_eq_some_iff.1 hr
            obtain ⟨a1, a2⟩ := i1 r' hr'
            refine ⟨List.pairwise_cons.2 ⟨fun z hz => ?_, a1⟩, fun z => ?_⟩
            · rcases (a2 z).1 hz with hz | hz
              · rcases List.mem_cons.1 hz with rfl | hz
                · exact h2
                · exact O.tr _ _ _ h2 (hl.lt_of hz)
              · exact ho.lt_of hz
            · rw [List.mem_cons, a2, List.mem_cons, List.mem_cons]
              constructor
              · rintro (h | h | h)
                · exact .inr (.inl h)
                · exact .inl h
                · exact .inr (.inr h)
              · rintro (h | h | h)
                · exact .inr (.inl h)
                · exact .inl h
                · exact .inr (.inr h)
          · rw [Option.map_eq_none_iff, i2]
            constructor
            · rintro ⟨a, ha, b, hb, hc⟩
              exact ⟨a, ha, b, List.mem_cons_of_mem _ hb, hc⟩
            · rintro ⟨a, ha, b, hb, hc⟩
              rcases List.mem_cons.1 hb with rfl | hb
              · exfalso
                rcases List.mem_cons.1 ha with rfl | ha
                · rw [hc.2.1] at h2; cases h2
                · have := O.tr _ _ _ h2 (hl.lt_of ha); rw [hc.2.1] at this; cases this
              · exact ⟨a, ha, b, hb, hc⟩
        · obtain ⟨i1, i2⟩ := ih (x :: l) o (by rw [List.length_cons]; omega) hl ho.tail
          rw [jn_same]
          refine ⟨fun r hr => ?_, ?_⟩
          · obtain ⟨a1, a2⟩ := i1 r hr
            refine ⟨a1, fun z => ?_⟩
            rw [a2, List.mem_cons, List.mem_cons]
            constructor
            · rintro ((h | h) | h)
              · exact .inl (.inl h)
              · exact .inl (.inr h)
              · exact .inr (.inr h)
            · rintro ((h | h) | (h | h))
              · exact .inl (.inl h)
              · exact .inl (.inr h)
              · exact .inl (.inl h)
              · exact .inr h
          · rw [i2]
            constructor
            · rintro ⟨a, ha, b, hb, hc⟩
              exact ⟨a, ha, b, List.mem_cons_of_mem _ hb, hc⟩
            · rintro ⟨a, ha, b, hb, hc⟩
              rcases List.mem_cons.1 hb with rfl | hb
              · exact absurd hc (hl.no_clash a ha b (List.mem_cons_self ..))
              · exact ⟨a, ha, b, hb, hc⟩
        · rw [jn_clash h]
          exact ⟨fun r hr => by (cases hr), ⟨fun _ => ⟨x, List.mem_cons_self .., y, List.mem_cons_self .., h⟩, fun _ => rfl⟩⟩
theorem jn_yes {α : Type} {O : KeyO α} {l o r : List α} (hl : AscO O l) (ho : AscO O o) (h : jn O l o = some r) : AscO O r ∧ ∀ x, x ∈ r ↔ x ∈ l ∨ x ∈ o := (jn_spec O _ l o (Nat.le_refl _) hl ho).1 r h
theorem jn_no {α : Type} {O : KeyO α} {l o : List α} (hl : AscO O l) (ho : AscO O o) : jn O l o = none ↔ ∃ a ∈ l, ∃ b ∈ o, Clash O a b := (jn_spec O _ l o (Nat.le_refl _) hl ho).2
theorem jn_len {α : Type} {O : KeyO α} : ∀ (n : Nat) (l o r : List α), l.length + o.length ≤ n → jn O l o = some r → r.length ≤ l.length + o.length := by
  intro n
  induction n with
  | zero =>
    intro l o r hn h
    cases l with
    | nil => rw [jn_nil] at h; cases h; simp
    | cons x l => rw [List.length_cons] at hn; omega
  | succ n ih =>
    intro l o r hn h
    cases l with
    | nil => rw [jn_nil] at h; cases h; simp
    | cons x l =>
      cases o with
      | nil => rw [jn_none2] at h; cases h; simp
      | cons y o =>
        rw [List.length_cons, List.length_cons] at hn ⊢
        rcases heads O x y with h1 | ⟨h1, h2⟩ | rfl | h1
        · rw [jn_less h1] at h
          obtain ⟨r', hr', rfl⟩ := Option.map_eq_some_iff.1 h
          have := ih _ _ _ (by rw [List.length_cons]; omega) hr'
          rw [List.length_cons] at this ⊢
          omega
        · rw [jn_more h1 h2] at h
          obtain ⟨r', hr', rfl⟩ := Option.map_eq_some_iff.1 h
          have := ih _ _ _ (by rw [List.length_cons]; omega) hr'
          rw [List.length_cons] at this ⊢
          omega
        · rw [jn_same] at h
          have := ih _ _ _ (by rw [List.length_cons]; omega) h
          rw [List.length_cons] at this
          omega
        · rw [jn_clash h1] at h; cases h

/-! ### Many lists joined, by halves -/
noncomputable def allJ {α : Type} (O : KeyO α) : Nat → List (List α) → Option (List α)
  | 0, _ => some []
  | _ + 1, [] => some []
  | _ + 1, [l] => some l
  | n + 1, ls => match allJ O n (ls.take (ls.length / 2)), allJ O n (ls.drop (ls.length / 2)) with
    | some a, some b => jn O a b
    | _, _ => none
/-- All elements of lists. -/
def InL {α : Type} (ls : List (List α)) (x : α) : Prop := ∃ l ∈ ls, x ∈ l
def Fits {α : Type} (O : KeyO α) (ls : List (List α)) : Prop := ∀ a b, InL ls a → InL ls b → ¬ Clash O a b
theorem inL_parts {α : Type} (ls : List (List α)) (k : Nat) (x : α) : InL ls x ↔ InL (ls.take k) x ∨ InL (ls.drop k) x := by
  constructor
  · rintro ⟨l, hl, hx⟩
    rw [← List.take_append_drop k ls] at hl
    rcases List.mem_append.1 hl with h | h
    · exact .inl ⟨l, h, hx⟩
    · exact .inr ⟨l, h, hx⟩
  · rintro (⟨l, hl, hx⟩ | ⟨l, hl, hx⟩)
    · exact ⟨l, List.mem_of_mem_take hl, hx⟩
    · exact ⟨l, List.mem_of_mem_drop hl, hx⟩
theorem allJ_two {α : Type} (O : KeyO α) (n : Nat) {ls : List (List α)} (h : 2 ≤ ls.length) : allJ O (n + 1) ls = (match allJ O n (ls.take (ls.length / 2)), allJ O n (ls.drop (ls.length / 2)) with
    | some a, some b => jn O a b
    | _, _ => none) := by
  match ls, h with
  | _ :: _ :: _, _ => rw [allJ]; all_goals (first | (intro l e; cases e) | (intro e; cases e))
theorem allJ_spec {α : Type} (O : KeyO α) : ∀ (n : Nat) (ls : List (List α)), ls.length ≤ n → (∀ l ∈ ls, AscO O l) →
    (∀ r, allJ O n ls = some r → AscO O r ∧ ∀ x, x ∈ r ↔ InL ls x) ∧ (allJ O n ls = none ↔ ¬ Fits O ls) := by
  intro n
  induction n with
  | zero =>
    intro ls hn ha
    have e : ls = [] := List.length_eq_zero_iff.1 (by omega)
    subst e
    refine ⟨fun r h => ?_, ?_⟩
    · rw [allJ] at h; cases h
      exact ⟨List.Pairwise.nil, fun x => ⟨fun h => by simp at h, fun ⟨l, hl, _⟩ => by simp at hl⟩⟩
    · rw [allJ]
      exact ⟨fun h => by (cases h), fun h => absurd (fun a b ⟨l, hl, _⟩ => by simp at hl) h⟩
  | succ n ih =>
    intro ls hn ha
    match ls, hn, ha with
    | [], _, _ =>
      refine ⟨fun r h => ?_, ?_⟩
      · rw [allJ] at h; cases h
        exact ⟨List.Pairwise.nil, fun x => ⟨fun h => by simp at h, fun ⟨l, hl, _⟩ => by simp at hl⟩⟩
      · rw [allJ]
        exact ⟨fun h => by (cases h), fun h => absurd (fun a b ⟨l, hl, _⟩ => by simp at hl) h⟩
    | [l], _, ha =>
      have hl := ha l (List.mem_cons_self ..)
      have hi : ∀ x, InL [l] x ↔ x ∈ l := fun x => ⟨fun ⟨m, hm, hx⟩ => by rw [List.mem_singleton] at hm; subst hm; exact hx, fun hx => ⟨l, List.mem_cons_self .., hx⟩⟩
      refine ⟨fun r h => ?_, ?_⟩
      · rw [allJ] at h; cases h
        exact ⟨hl, fun x => (hi x).symm⟩
      · rw [allJ]
        exact ⟨fun h => by (cases h), fun h => absurd (fun a b h1 h2 => hl.no_clash a ((hi a).1 h1) b ((hi b).1 h2)) h⟩
    | l1 :: l2 :: ls', hn, ha =>
      have h2 : 2 ≤ (l1 :: l2 :: ls').length := by simp
      generalize l1 :: l2 :: ls' = ls at hn ha h2 ⊢
      rw [allJ_two O n h2]
      obtain ⟨a1, a2⟩ := ih (ls.take (ls.length / 2)) (by rw [List.length_take]; omega) (fun l hl => ha l (List.mem_of_mem_take hl))
      obtain ⟨b1, b2⟩ := ih (ls.drop (ls.length / 2)) (by rw [List.length_drop]; omega) (fun l hl => ha l (List.mem_of_mem_drop hl))
      have hp := inL_parts ls (ls.length / 2)
      cases hA : allJ O n (ls.take (ls.length / 2)) with
      | none =>
        refine ⟨fun r h => by (cases h), fun _ h => ?_, fun _ => rfl⟩
        exact (a2.1 hA) fun a b h1 h3 => h a b ((hp a).2 (.inl h1)) ((hp b).2 (.inl h3))
      | some a =>
        obtain ⟨sa, ma⟩ := a1 a hA
        cases hB : allJ O n (ls.drop (ls.length / 2)) with
        | none =>
          refine ⟨fun r h => by (cases h), fun _ h => ?_, fun _ => rfl⟩
          exact (b2.1 hB) fun a b h1 h3 => h a b ((hp a).2 (.inr h1)) ((hp b).2 (.inr h3))
        | some b =>
          obtain ⟨sb, mb⟩ := b1 b hB
          refine ⟨fun r h => ?_, ?_⟩
          · obtain ⟨s, m⟩ := jn_yes sa sb h
            exact ⟨s, fun x => by rw [m, ma, mb, ← hp]⟩
          · show jn O a b = none ↔ _
            rw [jn_no sa sb]
            constructor
            · rintro ⟨x, hx, y, hy, hc⟩ hf
              exact hf x y ((hp x).2 (.inl ((ma x).1 hx))) ((hp y).2 (.inr ((mb y).1 hy))) hc
            · intro hf
              refine Classical.byContradiction fun hno => hf fun x y hx hy hc => ?_
              rcases (hp x).1 hx with hx | hx <;> rcases (hp y).1 hy with hy | hy
              · exact sa.no_clash x ((ma x).2 hx) y ((ma y).2 hy) hc
              · exact hno ⟨x, (ma x).2 hx, y, (mb y).2 hy, hc⟩
              · exact hno ⟨y, (ma y).2 hy, x, (mb x).2 hx, hc.symm⟩
              · exact sb.no_clash x ((mb x).2 hx) y ((mb y).2 hy) hc
theorem allJ_yes {α : Type} {O : KeyO α} {n : Nat} {ls : List (List α)} {r : List α} (hn : ls.length ≤ n) (ha : ∀ l ∈ ls, AscO O l) (h : allJ O n ls = some r) : AscO O r ∧ ∀ x, x ∈ r ↔ InL ls x := (allJ_spec O n ls hn ha).1 r h
theorem allJ_no {α : Type} {O : KeyO α} {n : Nat} {ls : List (List α)} (hn : ls.length ≤ n) (ha : ∀ l ∈ ls, AscO O l) : allJ O n ls = none ↔ ¬ Fits O ls := (allJ_spec O n ls hn ha).2
end Go.Proofs.Ytnmdnajbafpfiaa

