/-
  Plain facts on decimal numerals: their value, that they are read back. Nothing of a program.
-/
import Derived.Lib.ItoaMem
import Derived.Lib.ItoaLen
import Derived.Lib.AtoiAllCases
import Derived.Lib.Hide
namespace Go.Proofs.YtfoegoobcpmddaaDoor
open Go.RowKit

def valFrom (a : Nat) (l : List UInt8) : Nat := l.foldl (fun a c => a * 10 + (c.toNat - 48)) a
def digits (l : List UInt8) : Prop := ∀ c ∈ l, 48 ≤ c.toNat ∧ c.toNat ≤ 57
def inI (v : Int) : Prop := -9223372036854775808 ≤ v ∧ v ≤ 9223372036854775807

theorem valFrom_snoc (a : Nat) (l : List UInt8) (c : UInt8) : valFrom a (l ++ [c]) = valFrom a l * 10 + (c.toNat - 48) := by simp [valFrom]
theorem valFrom_ge (l : List UInt8) : ∀ a, a ≤ valFrom a l := by
  induction l with
  | nil => intro a; exact Nat.le_refl _
  | cons c l ih => intro a; exact Nat.le_trans (by omega) (ih (a * 10 + (c.toNat - 48)))
theorem valFrom_append (a : Nat) (l r : List UInt8) : valFrom a (l ++ r) = valFrom (valFrom a l) r := by simp [valFrom]
theorem val_take_le (l : List UInt8) (k : Nat) : valFrom 0 (l.take k) ≤ valFrom 0 l := by
  conv => rhs; rw [← List.take_append_drop k l]
  rw [valFrom_append]
  exact valFrom_ge _ _
theorem dec_val (m : Nat) : valFrom 0 (Lib.decDigits m) = m ∧ digits (Lib.decDigits m) := by
  induction m using Nat.strongRecOn with
  | _ m ih =>
    have hb : ∀ k, k < 10 → (UInt8.ofNat (48 + k)).toNat = 48 + k := fun k hk => by rw [UInt8.toNat_ofNat']; omega
    by_cases h : m < 10
    · rw [Lib.decDigits, dif_pos h]
      refine ⟨?_, ?_⟩
      · simp only [valFrom, List.foldl_cons, List.foldl_nil, hb m h]; omega
      · intro c hc
        simp only [List.mem_singleton] at hc
        subst hc
        rw [hb m h]; omega
    · rw [Lib.decDigits, dif_neg h]
      obtain ⟨h1, h2⟩ := ih (m / 10) (by omega)
      refine ⟨?_, ?_⟩
      · rw [valFrom_snoc, h1, hb (m % 10) (by omega)]; omega
      · intro c hc
        rcases List.mem_append.1 hc with hc | hc
        · exact h2 c hc
        · simp only [List.mem_singleton] at hc
          subst hc
          rw [hb (m % 10) (by omega)]; omega
theorem dec_len19 (k : Nat) : ∀ m, m < 10 ^ (k + 1) → 1 ≤ (Lib.decDigits m).length ∧ (Lib.decDigits m).length ≤ k + 1 := by
  induction k with
  | zero =>
    intro m h
    rw [Lib.decDigits, dif_pos (by simpa using h)]
    simp
  | succ k ih =>
    intro m h
    by_cases h10 : m < 10
    · rw [Lib.decDigits, dif_pos h10]; simp
    · rw [Lib.decDigits, dif_neg h10, List.length_append]
      have := ih (m / 10) (by rw [Nat.pow_succ] at h; omega)
      simp only [List.length_cons, List.length_nil]
      omega
theorem parse_digits : ∀ (l : List UInt8) (a : Nat), digits l → valFrom a l < 18446744073709551616 → Lib.parseUint10 a l = .ok (valFrom a l)
  | [], a, _, _ => rfl
  | c :: r, a, h, hv => by
    have hc := h c (by simp)
    have hr : digits r := fun x hx => h x (List.mem_cons_of_mem _ hx)
    have hge := valFrom_ge r (a * 10 + (c.toNat - 48))
    have hv' : valFrom (a * 10 + (c.toNat - 48)) r < 18446744073709551616 := hv
    rw [Lib.parseUint10, if_pos hc, if_neg (by omega), if_neg (by omega)]
    exact parse_digits r _ hr hv'
theorem mag_dec (m : Nat) (h : m < 18446744073709551616) : Lib.parseMag (Lib.decDigits m) = .ok m := by
  unfold Lib.parseMag
  rw [if_neg]
  · rw [parse_digits _ _ (dec_val m).2 (by rw [(dec_val m).1]; exact h), (dec_val m).1]
  · intro e
    have := (dec_len19 m m (by exact Nat.lt_of_lt_of_le (Nat.lt_pow_self (by decide)) (Nat.pow_le_pow_right (by decide) (by omega)))).1
    rw [e] at this
    simp at this
theorem dec_cons (m : Nat) : ∃ c r, Lib.decDigits m = c :: r ∧ 48 ≤ c.toNat ∧ c.toNat ≤ 57 := by
  cases h : Lib.decDigits m with
  | nil =>
    have := (dec_len19 m m (by exact Nat.lt_of_lt_of_le (Nat.lt_pow_self (by decide)) (Nat.pow_le_pow_right (by decide) (by omega)))).1
    rw [h] at this
    simp at this
  | cons c r => exact ⟨c, r, rfl, (dec_val m).2 c (by rw [h]; simp)⟩
theorem atoi_itoa (v : Int) (hv : inI v) : Lib.atoiAll (Lib.itoa v) = .ok v := by
  unfold inI at hv
  by_cases hn : v < 0
  · obtain ⟨m, rfl⟩ : ∃ m : Nat, v = -(m : Int) := ⟨v.natAbs, by omega⟩
    rw [Lib.itoa_neg m (by omega), Lib.atoiAll_minus, mag_dec m (by omega)]
    simp only [Lib.signed]
    split
    · omega
    · rfl
  · obtain ⟨m, rfl⟩ : ∃ m : Nat, v = (m : Int) := ⟨v.toNat, by omega⟩
    obtain ⟨c, r, e, h1, h2⟩ := dec_cons m
    rw [Lib.itoa_nonneg, e, Lib.atoiAll_plain c r (by omega) (by omega), ← e, mag_dec m (by omega)]
    simp only [Lib.signless]
    split
    · omega
    · rfl
instance (v : Int) : Decidable (inI v) := by unfold inI; exact inferInstance
/-- What ParseInt answers of a text. -/
def parseOf (l : List UInt8) : Int × Bool :=
  match Lib.atoiAll l with
  | .ok v => if inI v ∧ Lib.itoa v = l then (v, true) else (0, false)
  | _ => (0, false)
theorem parse_yes {v : Int} {l : List UInt8} (hv : inI v) (h : Lib.itoa v = l) : parseOf l = (v, true) := by
  subst h
  unfold parseOf
  rw [atoi_itoa v hv]
  exact if_pos ⟨hv, rfl⟩
theorem parse_no {l : List UInt8} (h : ∀ v, inI v → Lib.itoa v ≠ l) : parseOf l = (0, false) := by
  unfold parseOf
  split
  · rename_i v _
    exact if_neg (fun g => h v g.1 g.2)
  · rfl
/-- What is behind the sign of a text that is a numeral. -/
theorem fits_neg {tl : List UInt8} {v : Int} (hv : inI v) (h : Lib.itoa v = 45 :: tl) : ∃ m : Nat, (m : Int) ≤ 9223372036854775808 ∧ tl = Lib.decDigits m ∧ v = -(m : Int) := by
  unfold inI at hv
  by_cases hn : v < 0
  · obtain ⟨m, rfl⟩ : ∃ m : Nat, v = -(m : Int) := ⟨v.natAbs, by omega⟩
    rw [Lib.itoa_neg m (by omega)] at h
    injection h with _ h
    exact ⟨m, by omega, h.symm, rfl⟩
  · obtain ⟨m, rfl⟩ : ∃ m : Nat, v = (m : Int) := ⟨v.toNat, by omega⟩
    obtain ⟨c, r, e, h1, h2⟩ := dec_cons m
    rw [Lib.itoa_nonneg, e] at h
    injection h with h _
    rw [h] at h1
    exact absurd h1 (by decide)
theorem fits_pos {l : List UInt8} {v : Int} (hl : ∀ r, l ≠ 45 :: r) (hv : inI v) (h : Lib.itoa v = l) : ∃ m : Nat, (m : Int) ≤ 9223372036854775807 ∧ l = Lib.decDigits m ∧ v = (m : Int) := by
  unfold inI at hv
  by_cases hn : v < 0
  · obtain ⟨m, rfl⟩ : ∃ m : Nat, v = -(m : Int) := ⟨v.natAbs, by omega⟩
    rw [Lib.itoa_neg m (by omega)] at h
    exact absurd h.symm (hl _)
  · obtain ⟨m, rfl⟩ : ∃ m : Nat, v = (m : Int) := ⟨v.toNat, by omega⟩
    rw [Lib.itoa_nonneg] at h
    exact ⟨m, by omega, h.symm, rfl⟩
theorem max_pow {m : Nat} (h : (m : Int) ≤ 9223372036854775808) : m < 10 ^ (18 + 1) := Nat.lt_of_le_of_lt (show m ≤ 9223372036854775808 by omega) (by decide)

/-- The reader's state: the text behind the sign, what it would take to be a numeral. -/
structure Reads (neg : Bool) (l tl : List UInt8) : Prop where
  text : l = if neg then 45 :: tl else tl
  fits : ∀ v, inI v → Lib.itoa v = l → ∃ m : Nat, (m : Int) ≤ 9223372036854775808 ∧ (neg = false → (m : Int) ≤ 9223372036854775807) ∧ tl = Lib.decDigits m ∧ v = if neg then -(m : Int) else (m : Int)
theorem Reads.neg {tl : List UInt8} : Reads true (45 :: tl) tl := ⟨rfl, fun v hv h => by
  obtain ⟨m, h1, h2, h3⟩ := fits_neg hv h
  exact ⟨m, h1, (fun x => by cases x), h2, h3⟩⟩
theorem Reads.pos {l : List UInt8} (hl : ∀ r, l ≠ 45 :: r) : Reads false l l := ⟨rfl, fun v hv h => by
  obtain ⟨m, h1, h2, h3⟩ := fits_pos hl hv h
  exact ⟨m, by omega, fun _ => h1, h2, h3⟩⟩
theorem Reads.no_len {neg : Bool} {l tl : List UInt8} (h : Reads neg l tl) (hl : tl.length < 1 ∨ 19 < tl.length) : parseOf l = (0, false) := parse_no fun v hv e => by
  obtain ⟨m, h1, _, rfl, _⟩ := h.fits v hv e
  have := dec_len19 18 m (max_pow h1)
  omega
theorem Reads.no_digit {neg : Bool} {l tl : List UInt8} (h : Reads neg l tl) {k : Nat} {c : UInt8} (hk : tl[k]? = some c) (hc : ¬ (48 ≤ c.toNat ∧ c.toNat ≤ 57)) : parseOf l = (0, false) := parse_no fun v hv e => by
  obtain ⟨m, h1, _, rfl, _⟩ := h.fits v hv e
  exact hc ((dec_val m).2 c (List.mem_of_getElem? hk))
theorem take_snoc {tl : List UInt8} {k : Nat} {c : UInt8} (hk : tl[k]? = some c) : tl.take (k + 1) = tl.take k ++ [c] := by rw [List.take_add_one, hk]; rfl
theorem Reads.no_room {neg : Bool} {l tl : List UInt8} (h : Reads neg l tl) {k : Nat} {c : UInt8} (hk : tl[k]? = some c) (hc : 9223372036854775808 < valFrom 0 (tl.take k) * 10 + (c.toNat - 48)) : parseOf l = (0, false) := parse_no fun v hv e => by
  obtain ⟨m, h1, _, rfl, _⟩ := h.fits v hv e
  have := val_take_le (Lib.decDigits m) (k + 1)
  rw [take_snoc hk, valFrom_snoc, (dec_val m).1] at this
  omega
theorem Reads.no_sign {l tl : List UInt8} (h : Reads false l tl) (hc : valFrom 0 tl = 9223372036854775808) : parseOf l = (0, false) := parse_no fun v hv e => by
  obtain ⟨m, _, h1, rfl, _⟩ := h.fits v hv e
  have := h1 rfl
  rw [(dec_val m).1] at hc
  omega
theorem Reads.no_fmt {neg : Bool} {l tl : List UInt8} (h : Reads neg l tl) {n : Int} (hn : n = if neg then -(valFrom 0 tl : Int) else valFrom 0 tl) (hc : Lib.itoa n ≠ l) : parseOf l = (0, false) := parse_no fun v hv e => by
  obtain ⟨m, _, _, rfl, h3⟩ := h.fits v hv e
  rw [(dec_val m).1] at hn
  rw [← h3] at hn
  subst hn
  exact hc e
end Go.Proofs.YtfoegoobcpmddaaDoor
