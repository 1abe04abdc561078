/-
  Plain facts on bytes and lists: names, digits, what a rune of a text says of its bytes. Nothing of a program.
  Rows that a call owns: what is kept below them, one element appended. Over whatever program.
  What the program's table says of the element types: zero, cells, bytes.
-/
import Derived.Laws.RangeAny
import Derived.Laws.Strings
import Derived.Lib.Hide
import Derived.Lib.MapLaws
import Derived.WalkKit
import Derived.WalkSpells
import Derived.Below
import Derived.Lib.OthersKept
import Derived.WalkSmall
import Derived.Laws.IdiomStrings
import Derived.Test.YtnmdnajbafpfiaaRows
import Derived.ProofKit
namespace Go.Proofs.Ytnmdnajbafpfiaa
open Go.RowKit

/-- A byte of a name at a place. -/
def okByte (c : Int) (k : Nat) : Prop := (97 ≤ c ∧ c ≤ 122) ∨ (k ≠ 0 ∧ (c = 45 ∨ (48 ≤ c ∧ c ≤ 57)))
instance (c : Int) (k : Nat) : Decidable (okByte c k) := by unfold okByte; exact inferInstance
/-- The bytes of a text up to a place are those of a name. -/
def nameTo (s : ByteArray) (k : Nat) : Prop := ∀ j, ∀ h : j < s.size, j < k → okByte s[j].toNat j
/-- A text is a name. -/
def isName (s : ByteArray) : Bool := decide ((1 ≤ s.size ∧ s.size ≤ 12) ∧ ∀ j, ∀ h : j < s.size, okByte s[j].toNat j)

theorem nameTo_zero (s : ByteArray) : nameTo s 0 := fun _ _ h => absurd h (Nat.not_lt_zero _)
theorem nameTo_succ {s : ByteArray} {k : Nat} {c : Int} (hk : k < s.size) (h : nameTo s k) (hc : c = (s[k].toNat : Int)) (ok : okByte c k) : nameTo s (k + 1) := by
  intro j hj hlt
  by_cases e : j = k
  · subst e; subst hc; exact ok
  · exact h j hj (by omega)
theorem isName_no {s : ByteArray} {k : Nat} {c : Int} (hk : k < s.size) (hc : c = (s[k].toNat : Int)) (no : ¬ okByte c k) : isName s = false := by
  unfold isName
  exact decide_eq_false (fun h => no (by rw [hc]; exact h.2 k hk))
theorem isName_short {s : ByteArray} (h : ¬ (1 ≤ s.size ∧ s.size ≤ 12)) : isName s = false := by
  unfold isName
  exact decide_eq_false (fun g => h g.1)
theorem isName_yes {s : ByteArray} {k : Nat} (h : nameTo s k) (hk : s.size ≤ k) (hs : 1 ≤ s.size ∧ s.size ≤ 12) : isName s = true := by
  unfold isName
  exact decide_eq_true ⟨hs, fun j hj => h j hj (by omega)⟩
/-- What a byte can be, for the tests of a name. -/
theorem name_cases (c : Int) (k : Nat) :
    (Hid (okByte c k) ∧ 97 ≤ c ∧ c ≤ 122) ∨
    (Hid (¬ okByte c k) ∧ ((k : Int) == 0) = true ∧ c < 97) ∨
    (Hid (¬ okByte c k) ∧ ((k : Int) == 0) = true ∧ 97 ≤ c ∧ decide (c ≤ 122) = false) ∨
    (Hid (okByte c k) ∧ ((k : Int) == 0) = false ∧ c < 97 ∧ (c != 45) = false) ∨
    (Hid (okByte c k) ∧ ((k : Int) == 0) = false ∧ c < 97 ∧ (c != 45) = true ∧ 48 ≤ c ∧ decide (c ≤ 57) = true) ∨
    (Hid (¬ okByte c k) ∧ ((k : Int) == 0) = false ∧ c < 97 ∧ (c != 45) = true ∧ 48 ≤ c ∧ decide (c ≤ 57) = false) ∨
    (Hid (¬ okByte c k) ∧ ((k : Int) == 0) = false ∧ c < 97 ∧ (c != 45) = true ∧ c < 48) ∨
    (Hid (¬ okByte c k) ∧ ((k : Int) == 0) = false ∧ 97 ≤ c ∧ decide (c ≤ 122) = false ∧ (c != 45) = true ∧ decide (c ≤ 57) = false) := by
  by_cases a : 97 ≤ c ∧ c ≤ 122
  · exact .inl ⟨Lib.hid (.inl a), a⟩
  have n0 : k = 0 → ¬ okByte c k := by
    rintro h (g | g)
    · exact a g
    · exact g.1 h
  have n1 : ¬ (c = 45 ∨ (48 ≤ c ∧ c ≤ 57)) → ¬ okByte c k := by
    rintro h (g | g)
    · exact a g
    · exact h g.2
  by_cases b : k = 0
  · have b' : ((k : Int) == 0) = true := by simp [b]
    by_cases d : c < 97
    · exact .inr (.inl ⟨Lib.hid (n0 b), b', d⟩)
    · exact .inr (.inr (.inl ⟨Lib.hid (n0 b), b', by omega, by simp; omega⟩))
  have b' : ((k : Int) == 0) = false := by simp [b]
  by_cases d : c < 97
  · by_cases e : c = 45
    · exact .inr (.inr (.inr (.inl ⟨Lib.hid (.inr ⟨b, .inl e⟩), b', d, by simp [e]⟩)))
    have e' : (c != 45) = true := by simp [e]
    by_cases f : 48 ≤ c
    · by_cases g : c ≤ 57
      · exact .inr (.inr (.inr (.inr (.inl ⟨Lib.hid (.inr ⟨b, .inr ⟨f, g⟩⟩), b', d, e', f, by simp [g]⟩))))
      · exact .inr (.inr (.inr (.inr (.inr (.inl ⟨Lib.hid (n1 (by omega)), b', d, e', f, by simp [g]⟩)))))
    · exact .inr (.inr (.inr (.inr (.inr (.inr (.inl ⟨Lib.hid (n1 (by omega)), b', d, e', by omega⟩))))))
  · exact .inr (.inr (.inr (.inr (.inr (.inr (.inr ⟨Lib.hid (n1 (by omega)), b', by omega, by simp; omega, by simp; omega, by simp; omega⟩))))))
/-- The byte at a place, under a name of its own: what reading it runs to. -/
theorem byte_at {P : Program} (t : TypeId) (s : ByteArray) (k : Nat) (hk : k < s.size) (h : P.underlying t = some .string) :
    ∃ c : Int, 0 ≤ c ∧ c < 256 ∧ Hid (c = (s[k].toNat : Int)) ∧ ∀ w : World, (Instr.index t (.string s) (.int .i64 k)).run P w = .ok (.int .u8 c) w := by
  refine ⟨_, by omega, by have := s[k].toNat_lt; omega, Lib.hid rfl, fun w => ?_⟩
  have h0 : ¬ ((k : Int) < 0) := by omega
  have h1 : ((k : Int) < s.size) := by omega
  simp [go_sem, h, hk]
/-- What a rune of a text says of its bytes. -/
theorem rune_at (s : ByteArray) (pos : Nat) (h : pos < s.size) :
    1 ≤ (Utf8.decode s pos).2 ∧ pos + (Utf8.decode s pos).2 ≤ s.size ∧
    ((Utf8.decode s pos).1 < 128 → (Utf8.decode s pos).1 = s[pos].toNat ∧ (Utf8.decode s pos).2 = 1) ∧
    (128 ≤ (Utf8.decode s pos).1 → 128 ≤ s[pos].toNat) ∧
    ∀ j, ∀ g : j < s.size, pos < j → j < pos + (Utf8.decode s pos).2 → 128 ≤ s[j].toNat := by
  have ge : ∀ j, ∀ g : j < s.size, s.get! j = s[j] := by
    intro j g
    have := get_at s j g
    simpa using this
  have e0 := ge pos h
  have l0 := s[pos].toNat_lt
  have sh := Lib.decodeN_shape (s.size - pos) (s.get! pos).toNat (s.get! (pos + 1)).toNat (s.get! (pos + 2)).toNat (s.get! (pos + 3)).toNat
  rw [← Lib.decode_at] at sh
  rw [e0] at sh
  rcases sh with ⟨a, e⟩ | ⟨a, b, c1, d, e⟩ | ⟨a, b, c1, c2, d, d', e⟩ | ⟨a, b, c1, c2, c3, d, d', e⟩ | e
  · rw [e]
    exact ⟨Nat.le_refl _, by simp only; omega, fun _ => ⟨rfl, rfl⟩, fun x => x, fun j g h1 h2 => by simp only at h2; omega⟩
  · rw [e]
    refine ⟨by simp only; omega, by simp only; omega, fun x => by simp only at x; omega, fun x => by omega, fun j g h1 h2 => ?_⟩
    simp only at h2
    obtain rfl : j = pos + 1 := by omega
    rw [ge _ g] at c1
    omega
  · rw [e]
    refine ⟨by simp only; omega, by simp only; omega, fun x => by simp only at x; omega, fun x => by omega, fun j g h1 h2 => ?_⟩
    simp only at h2
    obtain rfl | rfl : j = pos + 1 ∨ j = pos + 2 := by omega
    · rw [ge _ g] at c1; omega
    · rw [ge _ g] at c2; omega
  · rw [e]
    refine ⟨by simp only; omega, by simp only; omega, fun x => by simp only at x; omega, fun x => by omega, fun j g h1 h2 => ?_⟩
    simp only at h2
    obtain rfl | rfl | rfl : j = pos + 1 ∨ j = pos + 2 ∨ j = pos + 3 := by omega
    · rw [ge _ g] at c1; omega
    · rw [ge _ g] at c2; omega
    · rw [ge _ g] at c3; omega
  · have hb : ¬ s[pos].toNat < 128 := by
      intro x
      rw [decode_ascii s pos h x] at e
      have := congrArg Prod.fst e
      simp only at this
      omega
    rw [e]
    exact ⟨Nat.le_refl _, by simp only; omega, fun x => by simp only at x; omega, fun _ => by omega, fun j g h1 h2 => by simp only at h2; omega⟩

/-- The next rune of a range over a text, under names of its own. -/
structure RuneAt (s : ByteArray) (pos : Nat) (r : Int) (n : Nat) : Prop where
  le : pos + n ≤ s.size
  low : r < 128 → ∀ h : pos < s.size, r = (s[pos].toNat : Int) ∧ n = 1
  high : 128 ≤ r → ∀ h : pos < s.size, 128 ≤ s[pos].toNat
  rest : ∀ j, ∀ g : j < s.size, pos < j → j < pos + n → 128 ≤ s[j].toNat

theorem next_at {P : Program} (s : ByteArray) (pos : Nat) (h : pos < s.size) :
    ∃ (r : Int) (n : Nat), 0 ≤ r ∧ r ≤ 2147483647 ∧ 1 ≤ n ∧ RuneAt s pos r n ∧
      ∀ (w : World) (ty : TypeId), (Instr.next (.pointer (some ⟨w.heap.size, 0, none⟩)) true ty).run P (w.iter s pos) =
        .ok (.tuple #[.bool true, .int .i64 pos, .int .i32 r]) (w.iter s (pos + n)) := by
  obtain ⟨h1, h2, h3, h4, h5⟩ := rune_at s pos h
  refine ⟨(Utf8.decode s pos).1, (Utf8.decode s pos).2, by omega, by have := decode_le s pos; omega, h1, ⟨h2, ?_, ?_, h5⟩, fun w ty => run_next_any w s pos ty h⟩
  · intro x _
    have := h3 (by omega)
    exact ⟨by rw [this.1], this.2⟩
  · intro x _
    exact h4 (by omega)
theorem RuneAt.isOk {s : ByteArray} {pos n : Nat} {r : Int} (h : RuneAt s pos r n) (hp : pos < s.size) (ok : okByte r pos) : r = (s[pos].toNat : Int) ∧ n = 1 := by
  apply h.low ?_ hp
  unfold okByte at ok
  omega
theorem RuneAt.notOk {s : ByteArray} {pos n : Nat} {r : Int} (h : RuneAt s pos r n) (hp : pos < s.size) (no : ¬ okByte r pos) : ¬ okByte s[pos].toNat pos := by
  by_cases x : r < 128
  · rw [← (h.low x hp).1]; exact no
  · have := h.high (by omega) hp
    unfold okByte
    omega

/-- The lines of a text up to a place: where the one that is open begins, and those before it. -/
def linesTo (s : ByteArray) : Nat → Nat × List ByteArray
  | 0 => (0, [])
  | k + 1 => if s.data.toList.getD k 0 = 10 then (k + 1, (linesTo s k).2 ++ [s.extract (linesTo s k).1 k]) else linesTo s k
def lines (s : ByteArray) : List ByteArray :=
  if (linesTo s s.size).1 < s.size then (linesTo s s.size).2 ++ [s.extract (linesTo s s.size).1 s.size] else (linesTo s s.size).2
theorem getD_byte (s : ByteArray) (k : Nat) (h : k < s.size) : s.data.toList.getD k 0 = s[k] := by
  have : k < s.data.toList.length := by simpa using h
  rw [List.getD_eq_getElem?_getD, List.getElem?_eq_getElem this]
  rfl
theorem linesTo_hit (s : ByteArray) (k : Nat) (h : k < s.size) (hc : s[k].toNat = 10) : linesTo s (k + 1) = (k + 1, (linesTo s k).2 ++ [s.extract (linesTo s k).1 k]) := by
  rw [linesTo, if_pos]
  rw [getD_byte s k h]
  exact UInt8.toNat_inj.1 hc
theorem linesTo_miss (s : ByteArray) (k : Nat) (h : k < s.size) (hc : s[k].toNat ≠ 10) : linesTo s (k + 1) = linesTo s k := by
  rw [linesTo, if_neg]
  rw [getD_byte s k h]
  intro e
  rw [e] at hc
  exact hc rfl
theorem linesTo_skip (s : ByteArray) (k n : Nat) (hn : k + n ≤ s.size) (hc : ∀ j, ∀ h : j < s.size, k ≤ j → j < k + n → s[j].toNat ≠ 10) : linesTo s (k + n) = linesTo s k := by
  induction n with
  | zero => rfl
  | succ n ih =>
    rw [← Nat.add_assoc, linesTo_miss s (k + n) (by omega) (hc _ _ (by omega) (by omega))]
    exact ih (by omega) (fun j h h1 h2 => hc j h h1 (by omega))
theorem linesTo_le (s : ByteArray) (k : Nat) : (linesTo s k).1 ≤ k ∧ (linesTo s k).2.length ≤ k := by
  induction k with
  | zero => exact ⟨Nat.le_refl _, Nat.le_refl _⟩
  | succ k ih =>
    rw [linesTo]
    split
    · exact ⟨Nat.le_refl _, by simp; omega⟩
    · omega
theorem RuneAt.lines {s : ByteArray} {pos n : Nat} {r : Int} (h : RuneAt s pos r n) (hp : pos < s.size) (hr : r ≠ 10) : linesTo s (pos + n) = linesTo s pos := by
  refine linesTo_skip s pos n h.le fun j hj h1 h2 => ?_
  by_cases e : j = pos
  · subst e
    by_cases x : r < 128
    · have := (h.low x hp).1
      omega
    · have := h.high (by omega) hp
      omega
  · have := h.rest j hj (by omega) h2
    omega

/-! ### Tokens -/
def brkI (c : Int) : Bool := decide (c = 32 ∨ c = 10 ∨ c = 40 ∨ c = 41 ∨ c = 59)
def byteI (s : ByteArray) (k : Nat) : Int := ((s.data.toList.getD k 0).toNat : Int)
theorem byteI_eq {s : ByteArray} {k : Nat} {c : Int} (h : k < s.size) (hc : c = (s[k].toNat : Int)) : byteI s k = c := by
  unfold byteI
  rw [getD_byte s k h, hc]
/-- The reader of tokens up to a place: where the open word begins, whether it is in a comment, the tokens before. -/
def tokTo (s : ByteArray) : Nat → Nat × Bool × List ByteArray
  | 0 => (0, false, [])
  | k + 1 =>
    if (tokTo s k).2.1 = true then (k + 1, byteI s k != 10, (tokTo s k).2.2)
    else if brkI (byteI s k) = true then
      (k + 1, byteI s k == 59, ((tokTo s k).2.2 ++ if (tokTo s k).1 < k then [s.extract (tokTo s k).1 k] else []) ++ if byteI s k = 40 ∨ byteI s k = 41 then [s.extract k (k + 1)] else [])
    else ((tokTo s k).1, false, (tokTo s k).2.2)
def toks (s : ByteArray) : List ByteArray := (tokTo s s.size).2.2 ++ if (tokTo s s.size).1 < s.size then [s.extract (tokTo s s.size).1 s.size] else []
theorem tokTo_in {s : ByteArray} {k st : Nat} {o : List ByteArray} (h : tokTo s k = (st, true, o)) : tokTo s (k + 1) = (k + 1, byteI s k != 10, o) := by
  rw [tokTo, h]; rfl
theorem tokTo_word {s : ByteArray} {k st : Nat} {o : List ByteArray} (h : tokTo s k = (st, false, o)) (hb : brkI (byteI s k) = false) : tokTo s (k + 1) = (st, false, o) := by
  rw [tokTo, h]
  simp only [Bool.false_eq_true, if_false, hb]
theorem tokTo_brk {s : ByteArray} {k st : Nat} {o : List ByteArray} (h : tokTo s k = (st, false, o)) (hb : brkI (byteI s k) = true) :
    tokTo s (k + 1) = (k + 1, byteI s k == 59, (o ++ if st < k then [s.extract st k] else []) ++ if byteI s k = 40 ∨ byteI s k = 41 then [s.extract k (k + 1)] else []) := by
  rw [tokTo, h]
  simp only [Bool.false_eq_true, if_false, hb, if_true]
theorem tokTo_le (s : ByteArray) (k : Nat) : (tokTo s k).1 ≤ k ∧ (tokTo s k).2.2.length ≤ (tokTo s k).1 := by
  induction k with
  | zero => exact ⟨Nat.le_refl _, Nat.le_refl _⟩
  | succ k ih =>
    obtain ⟨h1, h2⟩ := ih
    rw [tokTo]
    split
    · exact ⟨Nat.le_refl _, by simp only; omega⟩
    split
    · refine ⟨Nat.le_refl _, ?_⟩
      simp only [List.length_append]
      split <;> split <;> simp only [List.length_cons, List.length_nil] <;> omega
    · exact ⟨by simp only; omega, by simp only; omega⟩
/-- What holds between two words where the words are read one by one. -/
def Inv (s : ByteArray) (i : Nat) (out : List ByteArray) : Prop :=
  ∃ st b o, tokTo s i = (st, b, o) ∧ (b = true → st = i ∧ out = o ∧ (i < s.size → byteI s i = 10)) ∧
    (b = false → out = (o ++ if st < i then [s.extract st i] else []) ∧ (st < i → i < s.size → brkI (byteI s i) = true))
theorem Inv_zero (s : ByteArray) : Inv s 0 [] := ⟨0, false, [], rfl, (fun h => by cases h), fun _ => ⟨rfl, fun h => absurd h (Nat.lt_irrefl _)⟩⟩
theorem Inv_len {s : ByteArray} {i : Nat} {out : List ByteArray} (h : Inv s i out) : out.length ≤ i := by
  obtain ⟨st, b, o, h1, h2, h3⟩ := h
  have := tokTo_le s i
  rw [h1] at this
  simp only at this
  cases b with
  | true => obtain ⟨_, rfl, _⟩ := h2 rfl; omega
  | false =>
    obtain ⟨rfl, _⟩ := h3 rfl
    rw [List.length_append]
    split <;> simp only [List.length_cons, List.length_nil] <;> omega
theorem Inv_end {s : ByteArray} {i : Nat} {out : List ByteArray} (h : Inv s i out) (hi : i = s.size) : toks s = out := by
  subst hi
  obtain ⟨st, b, o, h1, h2, h3⟩ := h
  unfold toks
  rw [h1]
  cases b with
  | true =>
    obtain ⟨rfl, rfl, _⟩ := h2 rfl
    simp
  | false =>
    obtain ⟨rfl, _⟩ := h3 rfl
    rfl
theorem Inv_comment {s : ByteArray} {i : Nat} {out : List ByteArray} (h : Inv s i out) (hi : i < s.size) (hc : byteI s i = 59) : tokTo s (i + 1) = (i + 1, true, out) := by
  obtain ⟨st, b, o, h1, h2, h3⟩ := h
  cases b with
  | true => have := (h2 rfl).2.2 hi; omega
  | false =>
    obtain ⟨rfl, _⟩ := h3 rfl
    rw [tokTo_brk h1 (by rw [hc]; rfl), hc]
    simp
theorem Inv_word {s : ByteArray} {i : Nat} {out : List ByteArray} (h : Inv s i out) (hi : i < s.size) (hc : brkI (byteI s i) = false) : tokTo s (i + 1) = (i, false, out) := by
  obtain ⟨st, b, o, h1, h2, h3⟩ := h
  have hle := (tokTo_le s i).1
  rw [h1] at hle
  simp only at hle
  cases b with
  | true =>
    have := (h2 rfl).2.2 hi
    rw [this] at hc
    cases hc
  | false =>
    obtain ⟨rfl, h4⟩ := h3 rfl
    have : ¬ st < i := fun x => by rw [h4 x hi] at hc; cases hc
    obtain rfl : st = i := by omega
    rw [tokTo_word h1 hc]
    simp
theorem Inv_brk {s : ByteArray} {i : Nat} {out : List ByteArray} (h : Inv s i out) (hi : i < s.size) (hc : brkI (byteI s i) = true) (h59 : byteI s i ≠ 59) :
    Inv s (i + 1) (out ++ if byteI s i = 40 ∨ byteI s i = 41 then [s.extract i (i + 1)] else []) := by
  obtain ⟨st, b, o, h1, h2, h3⟩ := h
  cases b with
  | true =>
    obtain ⟨rfl, rfl, h5⟩ := h2 rfl
    have h10 := h5 hi
    refine ⟨_, _, _, tokTo_in h1, ?_, ?_⟩
    · intro x; rw [h10] at x; cases x
    · intro _
      rw [h10]
      simp
  | false =>
    obtain ⟨rfl, _⟩ := h3 rfl
    refine ⟨_, _, _, tokTo_brk h1 hc, ?_, ?_⟩
    · intro x
      have : byteI s i = 59 := by simpa using x
      exact absurd this h59
    · intro _
      simp
theorem Inv_of_comment {s : ByteArray} {j : Nat} {out : List ByteArray} (h : tokTo s j = (j, true, out)) (hj : j < s.size → byteI s j = 10) : Inv s j out :=
  ⟨_, _, _, h, fun _ => ⟨rfl, rfl, hj⟩, (fun x => by cases x)⟩
theorem Inv_of_word {s : ByteArray} {i j : Nat} {out : List ByteArray} (h : tokTo s j = (i, false, out)) (hij : i < j) (hj : j < s.size → brkI (byteI s j) = true) : Inv s j (out ++ [s.extract i j]) :=
  ⟨_, _, _, h, (fun x => by cases x), fun _ => ⟨by rw [if_pos hij], fun _ => hj⟩⟩
theorem tokTo_more {s : ByteArray} {j : Nat} {out : List ByteArray} (h : tokTo s j = (j, true, out)) (hj : byteI s j ≠ 10) : tokTo s (j + 1) = (j + 1, true, out) := by
  rw [tokTo_in h]
  have : (byteI s j != 10) = true := by simpa using hj
  rw [this]
/-- All bytes are newlines or from 32 to 126. -/
def okText (c : Int) : Bool := decide (c = 10 ∨ (32 ≤ c ∧ c ≤ 126))
def plainTo (s : ByteArray) (k : Nat) : Prop := ∀ j, ∀ h : j < s.size, j < k → okText (s[j].toNat : Int) = true
def plain (s : ByteArray) : Bool := decide (∀ j, ∀ h : j < s.size, okText (s[j].toNat : Int) = true)
theorem plainTo_zero (s : ByteArray) : plainTo s 0 := fun _ _ h => absurd h (Nat.not_lt_zero _)
theorem plainTo_succ {s : ByteArray} {k : Nat} {c : Int} (hk : k < s.size) (h : plainTo s k) (hc : c = (s[k].toNat : Int)) (ok : okText c = true) : plainTo s (k + 1) := by
  intro j hj hlt
  by_cases e : j = k
  · subst e; subst hc; exact ok
  · exact h j hj (by omega)
theorem plain_no {s : ByteArray} {k : Nat} {c : Int} (hk : k < s.size) (hc : c = (s[k].toNat : Int)) (no : okText c = false) : plain s = false := by
  unfold plain
  exact decide_eq_false (fun h => by have := h k hk; rw [← hc, no] at this; cases this)
theorem plain_yes {s : ByteArray} {k : Nat} (h : plainTo s k) (hk : s.size ≤ k) : plain s = true := by
  unfold plain
  exact decide_eq_true (fun j hj => h j hj (by omega))
theorem plain_at {s : ByteArray} (h : plain s = true) (k : Nat) (hk : k < s.size) : (s[k].toNat : Int) ≤ 126 := by
  have := of_decide_eq_true h k hk
  have := of_decide_eq_true this
  omega
theorem RuneAt.okText {s : ByteArray} {pos n : Nat} {r : Int} (h : RuneAt s pos r n) (hp : pos < s.size) (ok : Go.Proofs.Ytnmdnajbafpfiaa.okText r = true) : r = (s[pos].toNat : Int) ∧ n = 1 := by
  apply h.low ?_ hp
  have := of_decide_eq_true ok
  omega
theorem RuneAt.notText {s : ByteArray} {pos n : Nat} {r : Int} (h : RuneAt s pos r n) (hp : pos < s.size) (no : Go.Proofs.Ytnmdnajbafpfiaa.okText r = false) : Go.Proofs.Ytnmdnajbafpfiaa.okText (s[pos].toNat : Int) = false := by
  by_cases x : r < 128
  · rw [← (h.low x hp).1]; exact no
  · have := h.high (by omega) hp
    exact decide_eq_false (by omega)
theorem RuneAt.plain {s : ByteArray} {pos n : Nat} {r : Int} (h : RuneAt s pos r n) (hp : pos < s.size) (hs : Go.Proofs.Ytnmdnajbafpfiaa.plain s = true) : r = (s[pos].toNat : Int) ∧ n = 1 := by
  apply h.low ?_ hp
  by_cases x : r < 128
  · exact x
  · have h1 := h.high (by omega) hp
    have h2 := plain_at hs pos hp
    omega
/-- What a byte can be, for the tests of plain text. -/
theorem text_cases (c : Int) :
    (Hid (okText c = true) ∧ (c != 10) = false) ∨ (Hid (okText c = true) ∧ (c != 10) = true ∧ 32 ≤ c ∧ decide (c < 32) = false ∧ c ≤ 126 ∧ decide (126 < c) = false ∧ decide (c ≤ 126) = true) ∨
    (Hid (okText c = false) ∧ (c != 10) = true ∧ c < 32) ∨ (Hid (okText c = false) ∧ (c != 10) = true ∧ 32 ≤ c ∧ decide (c < 32) = false ∧ 126 < c ∧ decide (c ≤ 126) = false ∧ decide (126 < c) = true) := by
  by_cases h : c = 10
  · exact .inl ⟨Lib.hid (decide_eq_true (.inl h)), by simp [h]⟩
  have h' : (c != 10) = true := by simp [h]
  by_cases a : 32 ≤ c
  · by_cases b : c ≤ 126
    · exact .inr (.inl ⟨Lib.hid (decide_eq_true (by omega)), h', a, by simp; omega, b, by simp; omega, by simp; omega⟩)
    · exact .inr (.inr (.inr ⟨Lib.hid (decide_eq_false (by omega)), h', a, by simp; omega, by omega, by simp; omega, by simp; omega⟩))
  · exact .inr (.inr (.inl ⟨Lib.hid (decide_eq_false (by omega)), h', by omega⟩))
/-- What a byte can be, for the tests of tokens. -/
theorem tok_cases (c : Int) :
    (Hid (c = 59) ∧ (c == 59) = true ∧ (c == 40) = false ∧ (c == 41) = false ∧ brkI c = true) ∨
    (Hid (c = 40) ∧ (c == 59) = false ∧ (c == 40) = true ∧ (c == 41) = false ∧ brkI c = true) ∨
    (Hid (c = 41) ∧ (c == 59) = false ∧ (c == 40) = false ∧ (c == 41) = true ∧ brkI c = true) ∨
    (Hid (c ≠ 59 ∧ c ≠ 40 ∧ c ≠ 41) ∧ (c == 59) = false ∧ (c == 40) = false ∧ (c == 41) = false ∧ brkI c = true) ∨
    (Hid (c ≠ 59 ∧ c ≠ 40 ∧ c ≠ 41) ∧ (c == 59) = false ∧ (c == 40) = false ∧ (c == 41) = false ∧ brkI c = false) := by
  by_cases h1 : c = 59
  · subst h1; exact .inl ⟨Lib.hid rfl, rfl, rfl, rfl, rfl⟩
  by_cases h2 : c = 40
  · subst h2; exact .inr (.inl ⟨Lib.hid rfl, rfl, rfl, rfl, rfl⟩)
  by_cases h3 : c = 41
  · subst h3; exact .inr (.inr (.inl ⟨Lib.hid rfl, rfl, rfl, rfl, rfl⟩))
  have e1 : (c == 59) = false := by simpa using h1
  have e2 : (c == 40) = false := by simpa using h2
  have e3 : (c == 41) = false := by simpa using h3
  cases hb : brkI c with
  | true => exact .inr (.inr (.inr (.inl ⟨Lib.hid ⟨h1, h2, h3⟩, e1, e2, e3, rfl⟩)))
  | false => exact .inr (.inr (.inr (.inr ⟨Lib.hid ⟨h1, h2, h3⟩, e1, e2, e3, rfl⟩)))
end Go.Proofs.Ytnmdnajbafpfiaa

namespace Go.Proofs.Ytnmdnajbafpfiaa
open Go.RowKit

/-- A row of one-cell values that the call owns, its length that of its list. -/
def Row (w : World) (base : Nat) (e : TypeId) (v : Value) (xs : List Value) : Prop := w.ownsRow base e 1 v xs.length xs

theorem Row.nil (w : World) (base : Nat) (e : TypeId) : Row w base e (.slice none 0 0) [] := World.ownsRow_nil w base e 1
/-- What is owned below B stays where nothing below B turns. -/
theorem Row.below {w w' : World} {B base : Nat} {e : TypeId} {v : Value} {xs : List Value} (h : Row w base e v xs) (hb : Below B w w') (hB : ∀ k, v.ownBlock = some k → k < B) : Row w' base e v xs := by
  refine ⟨h.1, ?_⟩
  rcases h.2 with hn | ⟨g, cap, cur, rfl, h1, h2, h3⟩
  · exact .inl hn
  · exact .inr ⟨g, cap, cur, rfl, h1, by rw [hb.block g (hB g rfl)]; exact h2, h3⟩
theorem Row.lt {w : World} {base : Nat} {e : TypeId} {v : Value} {xs : List Value} (h : Row w base e v xs) : ∀ k, v.ownBlock = some k → k < w.heap.size := fun k hk => (World.ownsRow.lt h k hk).2
theorem Row.ge {w : World} {base : Nat} {e : TypeId} {v : Value} {xs : List Value} (h : Row w base e v xs) : ∀ k, v.ownBlock = some k → base ≤ k := fun k hk => (World.ownsRow.lt h k hk).1
/-- The whole of an owned row stays where all that is now there stays. -/
theorem Row.kept {w w' : World} {base : Nat} {e : TypeId} {v : Value} {xs : List Value} (h : Row w base e v xs) (hb : Below w.heap.size w w') : Row w' base e v xs := h.below hb h.lt
theorem Row.base {w : World} {base b' : Nat} {e : TypeId} {v : Value} {xs : List Value} (h : Row w base e v xs) (hb : b' ≤ base) : Row w b' e v xs := by
  refine ⟨h.1, ?_⟩
  rcases h.2 with hn | ⟨g, cap, cur, rfl, h1, h2⟩
  · exact .inl hn
  · exact .inr ⟨g, cap, cur, rfl, by omega, h2⟩

/-- The shape of a slice that is owned: nil, or a row's head. -/
theorem Row.shape {w : World} {base : Nat} {e : TypeId} {v : Value} {xs : List Value} (h : Row w base e v xs) :
    (v = .slice none 0 0 ∧ xs = []) ∨ ∃ g cap, v = .slice (some ⟨g, 0, none⟩) xs.length cap ∧ base ≤ g ∧ g < w.heap.size ∧ xs.length ≤ cap ∧ cap ≤ maxLen ∧
      (∀ j, j < xs.length → w.cell? ⟨g, j, none⟩ = xs[j]?) ∧ ∀ j, w.frozen? ⟨g, j, none⟩ = false := by
  have h' := h
  rcases h.2 with ⟨rfl, hn⟩ | ⟨g, cap, cur, rfl, h1, h2, h3, h4, h5, h6⟩
  · exact .inl ⟨rfl, List.length_eq_zero_iff.1 hn⟩
  · exact .inr ⟨g, cap, rfl, h1, (Array.getElem?_eq_some_iff.1 h2).1, h3, h4, fun j hj => World.ownsRow.cellAt h' j (by omega), fun j => World.ownsRow.frozenAt h' j⟩

/-- 'append(s, x)' on a slice that the call owns. -/
theorem append_one {P : Program} {W : World} {ops : Array Oper} {rest : List Oper} {o : Oper} {a : Act} {Q : Exit → Act → World → Prop} (hgd : o.guard = none) (s x : Operand) (t : TypeId)
    (ho : o.op = .call { callee := .builtin .append, args := #[s, x], argTypes := #[t, t] })
    (base : Nat) (e : TypeId) (i : TypeInfo) (z : Value) (bytes : Nat) (ht : P.underlying t = some (.slice e)) (hi : P.info? e = some i) (hz : i.zero = some z)
    (hsize : i.size = 1) (hby : i.bytes = bytes) (hzs : z.cells.size = 1) (hb16 : bytes ≤ 24)
    (v : Value) (xs : List Value) (hs : a.eval s = v) (hown : Row W base e v xs)
    (u : Value) (hu : u.oneCell' = true) (hx : a.eval x = .slice (some ⟨W.heap.size, 0, none⟩) 1 1)
    (hn : xs.length ≤ 1099511627776) (hbase : base ≤ W.heap.size)
    (h : ∀ v' w', Row w' base e v' (xs ++ [u]) → Below base W w' → wpList P ops Q rest (a.put o.dst v') w') : wpList P ops Q (o :: rest) a (W.alloc (.cells #[u] e)) := by
  refine wpList_append_own (W.alloc (.cells #[u] e)) hgd s x t ho base e i z 1 bytes ht hi hz hsize hby hzs (by decide) v xs.length xs hs (hown.alloc _) ⟨W.heap.size, 0, none⟩ 1 1 [u] hx rfl ?_ ?_ ?_ ?_ ?_ ?_
  · intro j y hj
    match j, hj with
    | 0, hj => simp at hj; subst hj; simp [Addr.add]
  · intro y hy; simp at hy; subst hy; exact hu
  · unfold maxLen; omega
  · have : (xs.length + 1) * bytes ≤ (xs.length + 1) * 24 := Nat.mul_le_mul_left _ hb16
    omega
  · simp; omega
  · intro v' w' hown' hg _
    refine h v' w' ?_ ?_
    · show w'.ownsRow base e 1 v' (xs ++ [u]).length (xs ++ [u])
      rw [List.length_append]
      exact hown'
    · exact ((Below.refl base W).alloc hbase _).grown hg (by simp; omega) (fun k hk => hown.ge k hk)

theorem Row.others {w w' : World} {base B : Nat} {e : TypeId} {v : Value} {xs : List Value} (h : Row w base e v xs) (hb : ∀ j, j ≠ B → w'.heap[j]? = w.heap[j]?) (hB : B < base) : Row w' base e v xs := by
  refine ⟨h.1, ?_⟩
  rcases h.2 with hn | ⟨g, cap, cur, rfl, h1, h2, h3⟩
  · exact .inl hn
  · exact .inr ⟨g, cap, cur, rfl, h1, by rw [hb g (by omega)]; exact h2, h3⟩

/-- The next rune of a range over a text, in whatever world; the world behind it under a name of its own. -/
theorem next_in {P : Program} (s : ByteArray) (pos B : Nat) (wr : World) (hk : wr.heap[B]? = some (.stringIter s pos)) (h : pos < s.size) :
    ∃ (r : Int) (n : Nat) (wn : World), 0 ≤ r ∧ r ≤ 2147483647 ∧ 1 ≤ n ∧ RuneAt s pos r n ∧
      (∀ ty, (Instr.next (.pointer (some ⟨B, 0, none⟩)) true ty).run P wr = .ok (.tuple #[.bool true, .int .i64 pos, .int .i32 r]) wn) ∧
      wr.heap.size ≤ wn.heap.size ∧ Hid (wn.heap[B]? = some (.stringIter s (pos + n)) ∧ Below B wr wn ∧ ∀ j, j ≠ B → wn.heap[j]? = wr.heap[j]?) := by
  obtain ⟨h1, h2, h3, h4, h5⟩ := rune_at s pos h
  refine ⟨(Utf8.decode s pos).1, (Utf8.decode s pos).2, wr.iterAt B s (pos + (Utf8.decode s pos).2), by omega, by have := decode_le s pos; omega, h1, ⟨h2, ?_, ?_, h5⟩,
    fun ty => Lib.run_next_any_at wr B s pos ty hk h, by rw [Lib.iterAt_size]; exact Nat.le_refl _, Lib.hid ⟨Lib.iterAt_heap wr B s pos _ hk, Lib.below_iterAt (Below.refl _ _) (Nat.le_refl _) _ _, fun j hj => Lib.iterAt_other wr B j s _ hj⟩⟩
  · intro x _
    have := h3 (by omega)
    exact ⟨by rw [this.1], this.2⟩
  · intro x _
    exact h4 (by omega)
theorem next_none {P : Program} (s : ByteArray) (pos B : Nat) (wr : World) (hk : wr.heap[B]? = some (.stringIter s pos)) (h : ¬ pos < s.size) :
    ∀ ty, (Instr.next (.pointer (some ⟨B, 0, none⟩)) true ty).run P wr = .ok (.tuple #[.bool false]) wr :=
  fun ty => Lib.run_next_end_at wr B s pos ty hk h

/-- 'string([]byte{n})'; the byte under a name of its own. -/
theorem one_byte {P : Program} (W : World) (src dst e : TypeId) (hs : P.underlying src = some (.slice e)) (he : P.underlying e = some (.int .u8)) (hd : P.underlying dst = some .string) (n : Int) (h0 : 0 ≤ n) (h1 : n < 256) :
    ∃ c : UInt8, Hid ((c.toNat : Int) = n) ∧ (convert src dst (.slice (some ⟨W.heap.size, 0, none⟩) 1 1)).run P (W.alloc (.cells #[.int .u8 n] e)) = .ok (.string ⟨#[c]⟩) (W.alloc (.cells #[.int .u8 n] e)) := by
  have e1 : ((UInt8.ofNat n.toNat).toNat : Int) = n := by
    rw [UInt8.toNat_ofNat']
    omega
  refine ⟨UInt8.ofNat n.toNat, Lib.hid e1, ?_⟩
  refine run_convert_bytes_back (P := P) (W.alloc (.cells #[.int .u8 n] e)) src dst e ⟨W.heap.size, 0, none⟩ 1 [UInt8.ofNat n.toNat] hs he hd ?_
  intro j hj
  match j, hj with
  | 0, _ =>
    show _ = some (Value.int .u8 ((UInt8.ofNat n.toNat).toNat : Int))
    rw [e1]
    simp [Addr.add]

/-- The cell of an owned row at a place. -/
theorem Row.at {w : World} {base : Nat} {e : TypeId} {v : Value} {xs : List Value} (h : Row w base e v xs) (hne : xs ≠ []) :
    ∃ g cap, v = .slice (some ⟨g, 0, none⟩) xs.length cap ∧ base ≤ g ∧ g < w.heap.size ∧ xs.length ≤ cap ∧ cap ≤ maxLen ∧
      (∀ j x, xs[j]? = some x → w.cell? ⟨g, j, none⟩ = some x) ∧ ∀ j, w.frozen? ⟨g, j, none⟩ = false := by
  rcases h.shape with ⟨_, hn⟩ | ⟨g, cap, hv, h1, h2, h3, h4, h5, h6⟩
  · exact absurd hn hne
  · exact ⟨g, cap, hv, h1, h2, h3, h4, fun j x hx => by rw [h5 j (List.getElem?_eq_some_iff.1 hx).1]; exact hx, h6⟩
theorem Row.empty {w : World} {base : Nat} {e : TypeId} {v : Value} (h : Row w base e v []) : ∃ a cap, v = .slice a 0 cap := by
  rcases h.shape with ⟨hv, _⟩ | ⟨g, cap, hv, _⟩
  · exact ⟨_, _, hv⟩
  · exact ⟨_, _, hv⟩

theorem grown_refl (w : World) (r : Option Nat) : w.grownBy w r := ⟨rfl, rfl, rfl, Nat.le_refl _, fun _ _ _ => rfl⟩
theorem grown_trans {a b c : World} {r : Option Nat} (h : a.grownBy b r) (k : b.grownBy c r) : a.grownBy c r :=
  ⟨k.os.trans h.os, k.tape.trans h.tape, k.output.trans h.output, Nat.le_trans h.size k.size, fun i hi hr => (k.block i (Nat.lt_of_lt_of_le hi h.size) hr).trans (h.block i hi hr)⟩
theorem grown_of_below {w w' : World} (h : Below w.heap.size w w') (r : Option Nat) : w.grownBy w' r := ⟨h.os, h.tape, h.output, h.size, fun k hk _ => h.block k hk⟩
theorem below_of_grown {B : Nat} {w w' : World} {r : Option Nat} (h : w.grownBy w' r) (hB : B ≤ w.heap.size) (hr : ∀ k, r = some k → B ≤ k) : Below B w w' := (Below.refl B w).grown h hB hr
theorem Row.grown {w w' : World} {base : Nat} {e : TypeId} {v : Value} {xs : List Value} {r : Option Nat} (h : Row w base e v xs) (hg : w.grownBy w' r) (hne : v.ownBlock = none ∨ v.ownBlock ≠ r) : Row w' base e v xs := World.ownsRow.kept h hg hne
theorem Row.stored {w : World} {base g cap n : Nat} {e : TypeId} {xs : List Value} (h : Row w base e (.slice (some ⟨g, 0, none⟩) n cap) xs) (hn : n = xs.length) (j : Nat) (u : Value) :
    Row (w.setCell ⟨g, j, none⟩ u) base e (.slice (some ⟨g, 0, none⟩) n cap) (xs.set j u) ∧ w.grownBy (w.setCell ⟨g, j, none⟩ u) (some g) := by
  subst hn
  obtain ⟨h1, h2⟩ := World.ownsRow.stored h j u
  refine ⟨?_, h2⟩
  show (w.setCell ⟨g, j, none⟩ u).ownsRow base e 1 _ (xs.set j u).length _
  rw [List.length_set]
  exact h1

/-- Two rows, the one laid before the other: their blocks are not one. -/
theorem Row.apart {w w' : World} {b b' : Nat} {e e' : TypeId} {v v' : Value} {xs ys : List Value} (h : Row w b e v xs) (h' : Row w' b' e' v' ys) (hb : w.heap.size ≤ b') : v.ownBlock = none ∨ v.ownBlock ≠ v'.ownBlock := by
  cases hv : v.ownBlock with
  | none => exact .inl rfl
  | some k =>
    refine .inr fun e => ?_
    have h1 := h.lt k hv
    have h2 := h'.ge k e.symm
    omega

/-- A row's value is a slice of its list's length. -/
theorem Row.slice {α : Type} {w : World} {b : Nat} {e : TypeId} {v : Value} {f : α → Value} {xs : List α} (h : Row w b e v (xs.map f)) : ∃ a cap, v = .slice a xs.length cap := by
  rcases h.shape with ⟨hv, he⟩ | ⟨g, cap, hv, _⟩
  · have : xs = [] := by simpa using he
    subst this
    exact ⟨_, _, hv⟩
  · rw [List.length_map] at hv
    exact ⟨_, _, hv⟩

/-- A slice that reads as a list of one-cell values, wherever it lies. -/
def Vals (w : World) (v : Value) (xs : List Value) : Prop :=
  ∃ a cap, v = .slice a xs.length cap ∧ (xs = [] ∨ ∃ g off, a = some ⟨g, off, none⟩ ∧ g < w.heap.size ∧ ∀ j x, xs[j]? = some x → w.cell? ⟨g, off + j, none⟩ = some x)
theorem Vals.kept {w w' : World} {v : Value} {xs : List Value} (h : Vals w v xs) (hb : Below w.heap.size w w') : Vals w' v xs := by
  obtain ⟨a, cap, hv, h | ⟨g, off, ha, hg, hc⟩⟩ := h
  · exact ⟨a, cap, hv, .inl h⟩
  · exact ⟨a, cap, hv, .inr ⟨g, off, ha, Nat.lt_of_lt_of_le hg hb.size, fun j x hx => (hb.cell (p := ⟨g, off + j, none⟩) hg).trans (hc j x hx)⟩⟩
theorem Row.vals {w : World} {b : Nat} {e : TypeId} {v : Value} {xs : List Value} (h : Row w b e v xs) : Vals w v xs := by
  rcases h.shape with ⟨hv, he⟩ | ⟨g, cap, hv, h1, h2, h3, h4, h5, h6⟩
  · subst he; exact ⟨_, _, hv, .inl rfl⟩
  · refine ⟨_, cap, hv, .inr ⟨g, 0, rfl, h2, fun j x hx => ?_⟩⟩
    rw [Nat.zero_add, h5 j (List.getElem?_eq_some_iff.1 hx).1]
    exact hx
/-- What a slice of strings that came in reads as: the row's own words. -/
def StrRow (w : World) (a : Option Addr) (len cap : Nat) (zs : List ByteArray) : Prop :=
  (a = none ∧ len = 0 ∧ cap = 0 ∧ zs = []) ∨
  ∃ x, a = some x ∧ len ≤ cap ∧ cap ≤ maxLen ∧ zs.length = cap ∧ (∀ i, i < zs.length → w.cell? (x.add i) = some (.string (zs.getD i ByteArray.empty))) ∧ ∀ s ∈ zs, s.size ≤ maxLen
/-- What a slice of integers that came in reads as. -/
def IntRow (w : World) (a : Option Addr) (len cap : Nat) (zs : List Int) : Prop :=
  (a = none ∧ len = 0 ∧ cap = 0 ∧ zs = []) ∨
  ∃ x, a = some x ∧ len ≤ cap ∧ cap ≤ maxLen ∧ zs.length = cap ∧ (∀ i, i < zs.length → w.cell? (x.add i) = some (.int .i64 (zs.getD i 0))) ∧ ∀ n ∈ zs, (Lit.int .i64 n).wf = true
theorem vals_of {α : Type} {f : α → Value} {d : α} {w : World} {x : Addr} {len cap : Nat} {zs : List α} (hl : len ≤ zs.length) (hc : ∀ i, i < zs.length → w.cell? (x.add i) = some (f (zs.getD i d))) :
    Vals w (.slice (some x) len cap) ((zs.take len).map f) := by
  have hlen : ((zs.take len).map f).length = len := by simp; omega
  by_cases h0 : len = 0
  · subst h0
    exact ⟨some x, cap, by simp, .inl (by simp)⟩
  · obtain ⟨g, off, spot⟩ := x
    have c0 := hc 0 (by omega)
    have hspot : spot = none := by simpa [Addr.add] using World.cell?_spot c0
    subst hspot
    refine ⟨_, cap, by rw [hlen], .inr ⟨g, off, rfl, ?_, ?_⟩⟩
    · have := World.block_lt_of_cell? w _ c0
      simpa [Addr.add] using this
    · intro j y hy
      have hj : j < len := by have := (List.getElem?_eq_some_iff.1 hy).1; omega
      have := hc j (by omega)
      have hadd : (⟨g, off, none⟩ : Addr).add j = ⟨g, off + j, none⟩ := by unfold Addr.add; split <;> simp_all
      rw [hadd] at this
      rw [this]
      rw [List.getElem?_map, List.getElem?_take_of_lt hj, List.getElem?_eq_getElem (by omega)] at hy
      rw [List.getD_eq_getElem?_getD, List.getElem?_eq_getElem (by omega)]
      simpa using hy
theorem StrRow.vals {w : World} {a : Option Addr} {len cap : Nat} {zs : List ByteArray} (h : StrRow w a len cap zs) :
    Vals w (.slice a len cap) ((zs.take len).map .string) ∧ (∀ s ∈ zs.take len, s.size ≤ maxLen) ∧ (zs.take len).length = len ∧ len ≤ maxLen := by
  rcases h with ⟨rfl, rfl, rfl, rfl⟩ | ⟨x, rfl, hl, hm, hz, hc, hs⟩
  · exact ⟨⟨none, 0, rfl, .inl rfl⟩, by simp, rfl, Nat.zero_le _⟩
  · exact ⟨vals_of (by omega) hc, fun s h => hs s (List.mem_of_mem_take h), by simp; omega, by omega⟩
theorem IntRow.vals {w : World} {a : Option Addr} {len cap : Nat} {zs : List Int} (h : IntRow w a len cap zs) :
    Vals w (.slice a len cap) ((zs.take len).map (.int .i64)) ∧ (∀ n ∈ zs.take len, (Lit.int .i64 n).wf = true) ∧ (zs.take len).length = len ∧ len ≤ maxLen := by
  rcases h with ⟨rfl, rfl, rfl, rfl⟩ | ⟨x, rfl, hl, hm, hz, hc, hs⟩
  · exact ⟨⟨none, 0, rfl, .inl rfl⟩, by simp, rfl, Nat.zero_le _⟩
  · exact ⟨vals_of (by omega) hc, fun s h => hs s (List.mem_of_mem_take h), by simp; omega, by omega⟩

/-- 'string(b)' of a slice of one byte, wherever it lies. -/
theorem one_byte_at {P : Program} (src dst e : TypeId) (hs : P.underlying src = some (.slice e)) (he : P.underlying e = some (.int .u8)) (hd : P.underlying dst = some .string) (n : Int) (h0 : 0 ≤ n) (h1 : n < 256) :
    ∃ c : UInt8, Hid ((c.toNat : Int) = n) ∧ ∀ (W : World) (g : Nat), W.cell? ⟨g, 0, none⟩ = some (.int .u8 n) → (convert src dst (.slice (some ⟨g, 0, none⟩) 1 1)).run P W = .ok (.string ⟨#[c]⟩) W := by
  have e1 : ((UInt8.ofNat n.toNat).toNat : Int) = n := by
    rw [UInt8.toNat_ofNat']
    omega
  refine ⟨UInt8.ofNat n.toNat, Lib.hid e1, fun W g hc => ?_⟩
  refine run_convert_bytes_back (P := P) W src dst e ⟨g, 0, none⟩ 1 [UInt8.ofNat n.toNat] hs he hd ?_
  intro j hj
  match j, hj with
  | 0, _ =>
    show _ = some (Value.int .u8 ((UInt8.ofNat n.toNat).toNat : Int))
    rw [e1]
    simpa [Addr.add] using hc
end Go.Proofs.Ytnmdnajbafpfiaa

namespace Go.Proofs.Ytnmdnajbafpfiaa
open Go.RowKit

theorem infoString : (Try.prog.info? 9).map (fun i => (i.zero, i.size, i.bytes)) = some (some (.string ⟨#[]⟩), 1, 16) := by kernel_rfl
theorem infoInt : (Try.prog.info? 3).map (fun i => (i.zero, i.size, i.bytes)) = some (some (.int .i64 0), 1, 8) := by kernel_rfl
theorem infoByte : (Try.prog.info? 5).map (fun i => (i.zero, i.size, i.bytes)) = some (some (.int .u8 0), 1, 1) := by kernel_rfl
end Go.Proofs.Ytnmdnajbafpfiaa

