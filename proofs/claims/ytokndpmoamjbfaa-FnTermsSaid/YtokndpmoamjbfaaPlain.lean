/-
  Plain facts on bytes and lists: names, digits, what a rune of a text says of its bytes. Nothing of a program.
-/
import Derived.Laws.RangeAny
import Derived.Laws.Strings
import Derived.Lib.Hide
import Derived.Lib.MapLaws
namespace Go.Proofs.Ytokndpmoamjbfaa
open Go.RowKit

/-- A byte of a name at a place. -/
def okByte (c : Int) (k : Nat) : Prop := (97 ≤ c ∧ c ≤ 122) ∨ (k ≠ 0 ∧ (c = 45 ∨ (48 ≤ c ∧ c ≤ 57)))
instance (c : Int) (k : Nat) : Decidable (okByte c k) := by unfold okByte; exact inferInstance
/-- The bytes of a text up to a place are those of a name. -/
def nameTo (s : ByteArray) (k : Nat) : Prop := ∀ j, ∀ h : j < s.size, j < k → okByte s[j].toNat j
/-- A text is a name. -/
def isName (s : ByteArray) : Bool := decide ((1 ≤ s.size ∧ s.size ≤ 12) ∧ ∀ j, ∀ h : j < s.size, okByte s[j].toNat j)

theorem nameTo_zero (s : ByteArray) : nameTo s 0 := fun _ _ h => absurd h (Nat.not_lt_zero _)
theorem nameTo_succ {s : ByteArray} {k : Nat} {c : Int} (hk : k < s.size) (h : nameTo s k) (hc : c = (s[k].toNat : Int)) (ok : okByte c k) : nameTo s (k + 1) := by
  intro j hj hlt
  by_cases e : j = k
  · subst e; subst hc; exact ok
  · exact h j hj (by omega)
theorem isName_no {s : ByteArray} {k : Nat} {c : Int} (hk : k < s.size) (hc : c = (s[k].toNat : Int)) (no : ¬ okByte c k) : isName s = false := by
  unfold isName
  exact decide_eq_false (fun h => no (by rw [hc]; exact h.2 k hk))
theorem isName_short {s : ByteArray} (h : ¬ (1 ≤ s.size ∧ s.size ≤ 12)) : isName s = false := by
  unfold isName
  exact decide_eq_false (fun g => h g.1)
theorem isName_yes {s : ByteArray} {k : Nat} (h : nameTo s k) (hk : s.size ≤ k) (hs : 1 ≤ s.size ∧ s.size ≤ 12) : isName s = true := by
  unfold isName
  exact decide_eq_true ⟨hs, fun j hj => h j hj (by omega)⟩
/-- What a byte can be, for the tests of a name. -/
theorem name_cases (c : Int) (k : Nat) :
    (Hid (okByte c k) ∧ 97 ≤ c ∧ c ≤ 122) ∨
    (Hid (¬ okByte c k) ∧ ((k : Int) == 0) = true ∧ c < 97) ∨
    (Hid (¬ okByte c k) ∧ ((k : Int) == 0) = true ∧ 97 ≤ c ∧ decide (c ≤ 122) = false) ∨
    (Hid (okByte c k) ∧ ((k : Int) == 0) = false ∧ c < 97 ∧ (c != 45) = false) ∨
    (Hid (okByte c k) ∧ ((k : Int) == 0) = false ∧ c < 97 ∧ (c != 45) = true ∧ 48 ≤ c ∧ decide (c ≤ 57) = true) ∨
    (Hid (¬ okByte c k) ∧ ((k : Int) == 0) = false ∧ c < 97 ∧ (c != 45) = true ∧ 48 ≤ c ∧ decide (c ≤ 57) = false) ∨
    (Hid (¬ okByte c k) ∧ ((k : Int) == 0) = false ∧ c < 97 ∧ (c != 45) = true ∧ c < 48) ∨
    (Hid (¬ okByte c k) ∧ ((k : Int) == 0) = false ∧ 97 ≤ c ∧ decide (c ≤ 122) = false ∧ (c != 45) = true ∧ decide (c ≤ 57) = false) := by
  by_cases a : 97 ≤ c ∧ c ≤ 122
  · exact .inl ⟨Lib.hid (.inl a), a⟩
  have n0 : k = 0 → ¬ okByte c k := by
    rintro h (g | g)
    · exact a g
    · exact g.1 h
  have n1 : ¬ (c = 45 ∨ (48 ≤ c ∧ c ≤ 57)) → ¬ okByte c k := by
    rintro h (g | g)
    · exact a g
    · exact h g.2
  by_cases b : k = 0
  · have b' : ((k : Int) == 0) = true := by simp [b]
    by_cases d : c < 97
    · exact .inr (.inl ⟨Lib.hid (n0 b), b', d⟩)
    · exact .inr (.inr (.inl ⟨Lib.hid (n0 b), b', by omega, by simp; omega⟩))
  have b' : ((k : Int) == 0) = false := by simp [b]
  by_cases d : c < 97
  · by_cases e : c = 45
    · exact .inr (.inr (.inr (.inl ⟨Lib.hid (.inr ⟨b, .inl e⟩), b', d, by simp [e]⟩)))
    have e' : (c != 45) = true := by simp [e]
    by_cases f : 48 ≤ c
    · by_cases g : c ≤ 57
      · exact .inr (.inr (.inr (.inr (.inl ⟨Lib.hid (.inr ⟨b, .inr ⟨f, g⟩⟩), b', d, e', f, by simp [g]⟩))))
      · exact .inr (.inr (.inr (.inr (.inr (.inl ⟨Lib.hid (n1 (by omega)), b', d, e', f, by simp [g]⟩)))))
    · exact .inr (.inr (.inr (.inr (.inr (.inr (.inl ⟨Lib.hid (n1 (by omega)), b', d, e', by omega⟩))))))
  · exact .inr (.inr (.inr (.inr (.inr (.inr (.inr ⟨Lib.hid (n1 (by omega)), b', by omega, by simp; omega, by simp; omega, by simp; omega⟩))))))
/-- The byte at a place, under a name of its own: what reading it runs to. -/
theorem byte_at {P : Program} (t : TypeId) (s : ByteArray) (k : Nat) (hk : k < s.size) (h : P.underlying t = some .string) :
    ∃ c : Int, 0 ≤ c ∧ c < 256 ∧ Hid (c = (s[k].toNat : Int)) ∧ ∀ w : World, (Instr.index t (.string s) (.int .i64 k)).run P w = .ok (.int .u8 c) w := by
  refine ⟨_, by omega, by have := s[k].toNat_lt; omega, Lib.hid rfl, fun w => ?_⟩
  have h0 : ¬ ((k : Int) < 0) := by omega
  have h1 : ((k : Int) < s.size) := by omega
  simp [go_sem, h, hk]
/-- What a rune of a text says of its bytes. -/
theorem rune_at (s : ByteArray) (pos : Nat) (h : pos < s.size) :
    1 ≤ (Utf8.decode s pos).2 ∧ pos + (Utf8.decode s pos).2 ≤ s.size ∧
    ((Utf8.decode s pos).1 < 128 → (Utf8.decode s pos).1 = s[pos].toNat ∧ (Utf8.decode s pos).2 = 1) ∧
    (128 ≤ (Utf8.decode s pos).1 → 128 ≤ s[pos].toNat) ∧
    ∀ j, ∀ g : j < s.size, pos < j → j < pos + (Utf8.decode s pos).2 → 128 ≤ s[j].toNat := by
  have ge : ∀ j, ∀ g : j < s.size, s.get! j = s[j] := by
    intro j g
    have := get_at s j g
    simpa using this
  have e0 := ge pos h
  have l0 := s[pos].toNat_lt
  have sh := Lib.decodeN_shape (s.size - pos) (s.get! pos).toNat (s.get! (pos + 1)).toNat (s.get! (pos + 2)).toNat (s.get! (pos + 3)).toNat
  rw [← Lib.decode_at] at sh
  rw [e0] at sh
  rcases sh with ⟨a, e⟩ | ⟨a, b, c1, d, e⟩ | ⟨a, b, c1, c2, d, d', e⟩ | ⟨a, b, c1, c2, c3, d, d', e⟩ | e
  · rw [e]
    exact ⟨Nat.le_refl _, by simp only; omega, fun _ => ⟨rfl, rfl⟩, fun x => x, fun j g h1 h2 => by simp only at h2; omega⟩
  · rw [e]
    refine ⟨by simp only; omega, by simp only; omega, fun x => by simp only at x; omega, fun x => by omega, fun j g h1 h2 => ?_⟩
    simp only at h2
    obtain rfl : j = pos + 1 := by omega
    rw [ge _ g] at c1
    omega
  · rw [e]
    refine ⟨by simp only; omega, by simp only; omega, fun x => by simp only at x; omega, fun x => by omega, fun j g h1 h2 => ?_⟩
    simp only at h2
    obtain rfl | rfl : j = pos + 1 ∨ j = pos + 2 := by omega
    · rw [ge _ g] at c1; omega
    · rw [ge _ g] at c2; omega
  · rw [e]
    refine ⟨by simp only; omega, by simp only; omega, fun x => by simp only at x; omega, fun x => by omega, fun j g h1 h2 => ?_⟩
    simp only at h2
    obtain rfl | rfl | rfl : j = pos + 1 ∨ j = pos + 2 ∨ j = pos + 3 := by omega
    · rw [ge _ g] at c1; omega
    · rw [ge _ g] at c2; omega
    · rw [ge _ g] at c3; omega
  · have hb : ¬ s[pos].toNat < 128 := by
      intro x
      rw [decode_ascii s pos h x] at e
      have := congrArg Prod.fst e
      simp only at this
      omega
    rw [e]
    exact ⟨Nat.le_refl _, by simp only; omega, fun x => by simp only at x; omega, fun _ => by omega, fun j g h1 h2 => by simp only at h2; omega⟩

/-- The next rune of a range over a text, under names of its own. -/
structure RuneAt (s : ByteArray) (pos : Nat) (r : Int) (n : Nat) : Prop where
  le : pos + n ≤ s.size
  low : r < 128 → ∀ h : pos < s.size, r = (s[pos].toNat : Int) ∧ n = 1
  high : 128 ≤ r → ∀ h : pos < s.size, 128 ≤ s[pos].toNat
  rest : ∀ j, ∀ g : j < s.size, pos < j → j < pos + n → 128 ≤ s[j].toNat

theorem next_at {P : Program} (s : ByteArray) (pos : Nat) (h : pos < s.size) :
    ∃ (r : Int) (n : Nat), 0 ≤ r ∧ r ≤ 2147483647 ∧ 1 ≤ n ∧ RuneAt s pos r n ∧
      ∀ (w : World) (ty : TypeId), (Instr.next (.pointer (some ⟨w.heap.size, 0, none⟩)) true ty).run P (w.iter s pos) =
        .ok (.tuple #[.bool true, .int .i64 pos, .int .i32 r]) (w.iter s (pos + n)) := by
  obtain ⟨h1, h2, h3, h4, h5⟩ := rune_at s pos h
  refine ⟨(Utf8.decode s pos).1, (Utf8.decode s pos).2, by omega, by have := decode_le s pos; omega, h1, ⟨h2, ?_, ?_, h5⟩, fun w ty => run_next_any w s pos ty h⟩
  · intro x _
    have := h3 (by omega)
    exact ⟨by rw [this.1], this.2⟩
  · intro x _
    exact h4 (by omega)
theorem RuneAt.isOk {s : ByteArray} {pos n : Nat} {r : Int} (h : RuneAt s pos r n) (hp : pos < s.size) (ok : okByte r pos) : r = (s[pos].toNat : Int) ∧ n = 1 := by
  apply h.low ?_ hp
  unfold okByte at ok
  omega
theorem RuneAt.notOk {s : ByteArray} {pos n : Nat} {r : Int} (h : RuneAt s pos r n) (hp : pos < s.size) (no : ¬ okByte r pos) : ¬ okByte s[pos].toNat pos := by
  by_cases x : r < 128
  · rw [← (h.low x hp).1]; exact no
  · have := h.high (by omega) hp
    unfold okByte
    omega

/-- The lines of a text up to a place: where the one that is open begins, and those before it. -/
def linesTo (s : ByteArray) : Nat → Nat × List ByteArray
  | 0 => (0, [])
  | k + 1 => if s.data.toList.getD k 0 = 10 then (k + 1, (linesTo s k).2 ++ [s.extract (linesTo s k).1 k]) else linesTo s k
def lines (s : ByteArray) : List ByteArray :=
  if (linesTo s s.size).1 < s.size then (linesTo s s.size).2 ++ [s.extract (linesTo s s.size).1 s.size] else (linesTo s s.size).2
theorem getD_byte (s : ByteArray) (k : Nat) (h : k < s.size) : s.data.toList.getD k 0 = s[k] := by
  have : k < s.data.toList.length := by simpa using h
  rw [List.getD_eq_getElem?_getD, List.getElem?_eq_getElem this]
  rfl
theorem linesTo_hit (s : ByteArray) (k : Nat) (h : k < s.size) (hc : s[k].toNat = 10) : linesTo s (k + 1) = (k + 1, (linesTo s k).2 ++ [s.extract (linesTo s k).1 k]) := by
  rw [linesTo, if_pos]
  rw [getD_byte s k h]
  exact UInt8.toNat_inj.1 hc
theorem linesTo_miss (s : ByteArray) (k : Nat) (h : k < s.size) (hc : s[k].toNat ≠ 10) : linesTo s (k + 1) = linesTo s k := by
  rw [linesTo, if_neg]
  rw [getD_byte s k h]
  intro e
  rw [e] at hc
  exact hc rfl
theorem linesTo_skip (s : ByteArray) (k n : Nat) (hn : k + n ≤ s.size) (hc : ∀ j, ∀ h : j < s.size, k ≤ j → j < k + n → s[j].toNat ≠ 10) : linesTo s (k + n) = linesTo s k := by
  induction n with
  | zero => rfl
  | succ n ih =>
    rw [← Nat.add_assoc, linesTo_miss s (k + n) (by omega) (hc _ _ (by omega) (by omega))]
    exact ih (by omega) (fun j h h1 h2 => hc j h h1 (by omega))
theorem linesTo_le (s : ByteArray) (k : Nat) : (linesTo s k).1 ≤ k ∧ (linesTo s k).2.length ≤ k := by
  induction k with
  | zero => exact ⟨Nat.le_refl _, Nat.le_refl _⟩
  | succ k ih =>
    rw [linesTo]
    split
    · exact ⟨Nat.le_refl _, by simp; omega⟩
    · omega
theorem RuneAt.lines {s : ByteArray} {pos n : Nat} {r : Int} (h : RuneAt s pos r n) (hp : pos < s.size) (hr : r ≠ 10) : linesTo s (pos + n) = linesTo s pos := by
  refine linesTo_skip s pos n h.le fun j hj h1 h2 => ?_
  by_cases e : j = pos
  · subst e
    by_cases x : r < 128
    · have := (h.low x hp).1
      omega
    · have := h.high (by omega) hp
      omega
  · have := h.rest j hj (by omega) h2
    omega

/-! ### Tokens -/
def brkI (c : Int) : Bool := decide (c = 32 ∨ c = 10 ∨ c = 40 ∨ c = 41 ∨ c = 59)
def byteI (s : ByteArray) (k : Nat) : Int := ((s.data.toList.getD k 0).toNat : Int)
theorem byteI_eq {s : ByteArray} {k : Nat} {c : Int} (h : k < s.size) (hc : c = (s[k].toNat : Int)) : byteI s k = c := by
  unfold byteI
  rw [getD_byte s k h, hc]
/-- The reader of tokens up to a place: where the open word begins, whether it is in a comment, the tokens before. -/
def tokTo (s : ByteArray) : Nat → Nat × Bool × List ByteArray
  | 0 => (0, false, [])
  | k + 1 =>
    if (tokTo s k).2.1 = true then (k + 1, byteI s k != 10, (tokTo s k).2.2)
    else if brkI (byteI s k) = true then
      (k + 1, byteI s k == 59, ((tokTo s k).2.2 ++ if (tokTo s k).1 < k then [s.extract (tokTo s k).1 k] else []) ++ if byteI s k = 40 ∨ byteI s k = 41 then [s.extract k (k + 1)] else [])
    else ((tokTo s k).1, false, (tokTo s k).2.2)
def toks (s : ByteArray) : List ByteArray := (tokTo s s.size).2.2 ++ if (tokTo s s.size).1 < s.size then [s.extract (tokTo s s.size).1 s.size] else []
theorem tokTo_in {s : ByteArray} {k st : Nat} {o : List ByteArray} (h : tokTo s k = (st, true, o)) : tokTo s (k + 1) = (k + 1, byteI s k != 10, o) := by
  rw [tokTo, h]; rfl
theorem tokTo_word {s : ByteArray} {k st : Nat} {o : List ByteArray} (h : tokTo s k = (st, false, o)) (hb : brkI (byteI s k) = false) : tokTo s (k + 1) = (st, false, o) := by
  rw [tokTo, h]
  simp only [Bool.false_eq_true, if_false, hb]
theorem tokTo_brk {s : ByteArray} {k st : Nat} {o : List ByteArray} (h : tokTo s k = (st, false, o)) (hb : brkI (byteI s k) = true) :
    tokTo s (k + 1) = (k + 1, byteI s k == 59, (o ++ if st < k then [s.extract st k] else []) ++ if byteI s k = 40 ∨ byteI s k = 41 then [s.extract k (k + 1)] else []) := by
  rw [tokTo, h]
  simp only [Bool.false_eq_true, if_false, hb, if_true]
theorem tokTo_le (s : ByteArray) (k : Nat) : (tokTo s k).1 ≤ k ∧ (tokTo s k).2.2.length ≤ (tokTo s k).1 := by
  induction k with
  | zero => exact ⟨Nat.le_refl _, Nat.le_refl _⟩
  | succ k ih =>
    obtain ⟨h1, h2⟩ := ih
    rw [tokTo]
    split
    · exact ⟨Nat.le_refl _, by simp only; omega⟩
    split
    · refine ⟨Nat.le_refl _, ?_⟩
      simp only [List.length_append]
      split <;> split <;> simp only [List.length_cons, List.length_nil] <;> omega
    · exact ⟨by simp only; omega, by simp only; omega⟩
/-- What holds between two words where the words are read one by one. -/
def Inv (s : ByteArray) (i : Nat) (out : List ByteArray) : Prop :=
  ∃ st b o, tokTo s i = (st, b, o) ∧ (b = true → st = i ∧ out = o ∧ (i < s.size → byteI s i = 10)) ∧
    (b = false → out = (o ++ if st < i then [s.extract st i] else []) ∧ (st < i → i < s.size → brkI (byteI s i) = true))
theorem Inv_zero (s : ByteArray) : Inv s 0 [] := ⟨0, false, [], rfl, (fun h => by cases h), fun _ => ⟨rfl, fun h => absurd h (Nat.lt_irrefl _)⟩⟩
theorem Inv_len {s : ByteArray} {i : Nat} {out : List ByteArray} (h : Inv s i out) : out.length ≤ i := by
  obtain ⟨st, b, o, h1, h2, h3⟩ := h
  have := tokTo_le s i
  rw [h1] at this
  simp only at this
  cases b with
  | true => obtain ⟨_, rfl, _⟩ := h2 rfl; omega
  | false =>
    obtain ⟨rfl, _⟩ := h3 rfl
    rw [List.length_append]
    split <;> simp only [List.length_cons, List.length_nil] <;> omega
theorem Inv_end {s : ByteArray} {i : Nat} {out : List ByteArray} (h : Inv s i out) (hi : i = s.size) : toks s = out := by
  subst hi
  obtain ⟨st, b, o, h1, h2, h3⟩ := h
  unfold toks
  rw [h1]
  cases b with
  | true =>
    obtain ⟨rfl, rfl, _⟩ := h2 rfl
    simp
  | false =>
    obtain ⟨rfl, _⟩ := h3 rfl
    rfl
theorem Inv_comment {s : ByteArray} {i : Nat} {out : List ByteArray} (h : Inv s i out) (hi : i < s.size) (hc : byteI s i = 59) : tokTo s (i + 1) = (i + 1, true, out) := by
  obtain ⟨st, b, o, h1, h2, h3⟩ := h
  cases b with
  | true => have := (h2 rfl).2.2 hi; omega
  | false =>
    obtain ⟨rfl, _⟩ := h3 rfl
    rw [tokTo_brk h1 (by rw [hc]; rfl), hc]
    simp
theorem Inv_word {s : ByteArray} {i : Nat} {out : List ByteArray} (h : Inv s i out) (hi : i < s.size) (hc : brkI (byteI s i) = false) : tokTo s (i + 1) = (i, false, out) := by
  obtain ⟨st, b, o, h1, h2, h3⟩ := h
  have hle := (tokTo_le s i).1
  rw [h1] at hle
  simp only at hle
  cases b with
  | true =>
    have := (h2 rfl).2.2 hi
    rw [this] at hc
    cases hc
  | false =>
    obtain ⟨rfl, h4⟩ := h3 rfl
    have : ¬ st < i := fun x => by rw [h4 x hi] at hc; cases hc
    obtain rfl : st = i := by omega
    rw [tokTo_word h1 hc]
    simp
theorem Inv_brk {s : ByteArray} {i : Nat} {out : List ByteArray} (h : Inv s i out) (hi : i < s.size) (hc : brkI (byteI s i) = true) (h59 : byteI s i ≠ 59) :
    Inv s (i + 1) (out ++ if byteI s i = 40 ∨ byteI s i = 41 then [s.extract i (i + 1)] else []) := by
  obtain ⟨st, b, o, h1, h2, h3⟩ := h
  cases b with
  | true =>
    obtain ⟨rfl, rfl, h5⟩ := h2 rfl
    have h10 := h5 hi
    refine ⟨_, _, _, tokTo_in h1, ?_, ?_⟩
    · intro x; rw [h10] at x; cases x
    · intro _
      rw [h10]
      simp
  | false =>
    obtain ⟨rfl, _⟩ := h3 rfl
    refine ⟨_, _, _, tokTo_brk h1 hc, ?_, ?_⟩
    · intro x
      have : byteI s i = 59 := by simpa using x
      exact absurd this h59
    · intro _
      simp
theorem Inv_of_comment {s : ByteArray} {j : Nat} {out : List ByteArray} (h : tokTo s j = (j, true, out)) (hj : j < s.size → byteI s j = 10) : Inv s j out :=
  ⟨_, _, _, h, fun _ => ⟨rfl, rfl, hj⟩, (fun x => by cases x)⟩
theorem Inv_of_word {s : ByteArray} {i j : Nat} {out : List ByteArray} (h : tokTo s j = (i, false, out)) (hij : i < j) (hj : j < s.size → brkI (byteI s j) = true) : Inv s j (out ++ [s.extract i j]) :=
  ⟨_, _, _, h, (fun x => by cases x), fun _ => ⟨by rw [if_pos hij], fun _ => hj⟩⟩
theorem tokTo_more {s : ByteArray} {j : Nat} {out : List ByteArray} (h : tokTo s j = (j, true, out)) (hj : byteI s j ≠ 10) : tokTo s (j + 1) = (j + 1, true, out) := by
  rw [tokTo_in h]
  have : (byteI s j != 10) = true := by simpa using hj
  rw [this]
/-- All bytes are newlines or from 32 to 126. -/
def okText (c : Int) : Bool := decide (c = 10 ∨ (32 ≤ c ∧ c ≤ 126))
def plainTo (s : ByteArray) (k : Nat) : Prop := ∀ j, ∀ h : j < s.size, j < k → okText (s[j].toNat : Int) = true
def plain (s : ByteArray) : Bool := decide (∀ j, ∀ h : j < s.size, okText (s[j].toNat : Int) = true)
theorem plainTo_zero (s : ByteArray) : plainTo s 0 := fun _ _ h => absurd h (Nat.not_lt_zero _)
theorem plainTo_succ {s : ByteArray} {k : Nat} {c : Int} (hk : k < s.size) (h : plainTo s k) (hc : c = (s[k].toNat : Int)) (ok : okText c = true) : plainTo s (k + 1) := by
  intro j hj hlt
  by_cases e : j = k
  · subst e; subst hc; exact ok
  · exact h j hj (by omega)
theorem plain_no {s : ByteArray} {k : Nat} {c : Int} (hk : k < s.size) (hc : c = (s[k].toNat : Int)) (no : okText c = false) : plain s = false := by
  unfold plain
  exact decide_eq_false (fun h => by have := h k hk; rw [← hc, no] at this; cases this)
theorem plain_yes {s : ByteArray} {k : Nat} (h : plainTo s k) (hk : s.size ≤ k) : plain s = true := by
  unfold plain
  exact decide_eq_true (fun j hj => h j hj (by omega))
theorem plain_at {s : ByteArray} (h : plain s = true) (k : Nat) (hk : k < s.size) : (s[k].toNat : Int) ≤ 126 := by
  have := of_decide_eq_true h k hk
  have := of_decide_eq_true this
  omega
theorem RuneAt.okText {s : ByteArray} {pos n : Nat} {r : Int} (h : RuneAt s pos r n) (hp : pos < s.size) (ok : Go.Proofs.Ytokndpmoamjbfaa.okText r = true) : r = (s[pos].toNat : Int) ∧ n = 1 := by
  apply h.low ?_ hp
  have := of_decide_eq_true ok
  omega
theorem RuneAt.notText {s : ByteArray} {pos n : Nat} {r : Int} (h : RuneAt s pos r n) (hp : pos < s.size) (no : Go.Proofs.Ytokndpmoamjbfaa.okText r = false) : Go.Proofs.Ytokndpmoamjbfaa.okText (s[pos].toNat : Int) = false := by
  by_cases x : r < 128
  · rw [← (h.low x hp).1]; exact no
  · have := h.high (by omega) hp
    exact decide_eq_false (by omega)
theorem RuneAt.plain {s : ByteArray} {pos n : Nat} {r : Int} (h : RuneAt s pos r n) (hp : pos < s.size) (hs : Go.Proofs.Ytokndpmoamjbfaa.plain s = true) : r = (s[pos].toNat : Int) ∧ n = 1 := by
  apply h.low ?_ hp
  by_cases x : r < 128
  · exact x
  · have h1 := h.high (by omega) hp
    have h2 := plain_at hs pos hp
    omega
/-- What a byte can be, for the tests of plain text. -/
theorem text_cases (c : Int) :
    (Hid (okText c = true) ∧ (c != 10) = false) ∨ (Hid (okText c = true) ∧ (c != 10) = true ∧ 32 ≤ c ∧ decide (c < 32) = false ∧ c ≤ 126 ∧ decide (126 < c) = false ∧ decide (c ≤ 126) = true) ∨
    (Hid (okText c = false) ∧ (c != 10) = true ∧ c < 32) ∨ (Hid (okText c = false) ∧ (c != 10) = true ∧ 32 ≤ c ∧ decide (c < 32) = false ∧ 126 < c ∧ decide (c ≤ 126) = false ∧ decide (126 < c) = true) := by
  by_cases h : c = 10
  · exact .inl ⟨Lib.hid (decide_eq_true (.inl h)), by simp [h]⟩
  have h' : (c != 10) = true := by simp [h]
  by_cases a : 32 ≤ c
  · by_cases b : c ≤ 126
    · exact .inr (.inl ⟨Lib.hid (decide_eq_true (by omega)), h', a, by simp; omega, b, by simp; omega, by simp; omega⟩)
    · exact .inr (.inr (.inr ⟨Lib.hid (decide_eq_false (by omega)), h', a, by simp; omega, by omega, by simp; omega, by simp; omega⟩))
  · exact .inr (.inr (.inl ⟨Lib.hid (decide_eq_false (by omega)), h', by omega⟩))
/-- What a byte can be, for the tests of tokens. -/
theorem tok_cases (c : Int) :
    (Hid (c = 59) ∧ (c == 59) = true ∧ (c == 40) = false ∧ (c == 41) = false ∧ brkI c = true) ∨
    (Hid (c = 40) ∧ (c == 59) = false ∧ (c == 40) = true ∧ (c == 41) = false ∧ brkI c = true) ∨
    (Hid (c = 41) ∧ (c == 59) = false ∧ (c == 40) = false ∧ (c == 41) = true ∧ brkI c = true) ∨
    (Hid (c ≠ 59 ∧ c ≠ 40 ∧ c ≠ 41) ∧ (c == 59) = false ∧ (c == 40) = false ∧ (c == 41) = false ∧ brkI c = true) ∨
    (Hid (c ≠ 59 ∧ c ≠ 40 ∧ c ≠ 41) ∧ (c == 59) = false ∧ (c == 40) = false ∧ (c == 41) = false ∧ brkI c = false) := by
  by_cases h1 : c = 59
  · subst h1; exact .inl ⟨Lib.hid rfl, rfl, rfl, rfl, rfl⟩
  by_cases h2 : c = 40
  · subst h2; exact .inr (.inl ⟨Lib.hid rfl, rfl, rfl, rfl, rfl⟩)
  by_cases h3 : c = 41
  · subst h3; exact .inr (.inr (.inl ⟨Lib.hid rfl, rfl, rfl, rfl, rfl⟩))
  have e1 : (c == 59) = false := by simpa using h1
  have e2 : (c == 40) = false := by simpa using h2
  have e3 : (c == 41) = false := by simpa using h3
  cases hb : brkI c with
  | true => exact .inr (.inr (.inr (.inl ⟨Lib.hid ⟨h1, h2, h3⟩, e1, e2, e3, rfl⟩)))
  | false => exact .inr (.inr (.inr (.inr ⟨Lib.hid ⟨h1, h2, h3⟩, e1, e2, e3, rfl⟩)))
end Go.Proofs.Ytokndpmoamjbfaa

