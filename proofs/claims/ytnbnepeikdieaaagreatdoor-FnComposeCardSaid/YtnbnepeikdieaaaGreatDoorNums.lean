/-
  The contracts of spec.FormatInt and impl.FormatInt: both write 'itoa' of the number.
  The contract of impl.FormatInt, and the law of FormatInt walked.
  Plain facts on decimal numerals: their value, that they are read back. Nothing of a program.
  The contract of spec.ParseInt: it answers 'parseOf' of the text.
  The contract of impl.ParseInt.
-/
import Derived.Test.YtnbnepeikdieaaaGreatDoorBase
import Derived.Test.YtnbnepeikdieaaaGreatDoorRows
import Derived.Lib.ItoaMem
import Derived.Lib.ItoaLen
import Derived.ProofKit
import Derived.WalkLawsBesides
import Derived.Deep.RegionWith
import Derived.IntWalk
import Derived.Test.YtnbnepeikdieaaaGreatDoorTabs
import Derived.Lib.AtoiAllCases
import Derived.Lib.Hide
import Derived.Lib.AtoiErrMem
namespace Go.Proofs.YtnbnepeikdieaaaGreatDoor
open Go.RowKit

theorem dec_small {m : Nat} (h : m < 10) : Lib.decDigits m = [UInt8.ofNat (48 + m)] := by rw [Lib.decDigits, dif_pos h]
theorem dec_big {m : Nat} (h : ¬ m < 10) : Lib.decDigits m = Lib.decDigits (m / 10) ++ [UInt8.ofNat (48 + m % 10)] := by rw [Lib.decDigits, dif_neg h]
theorem dec_len {m : Nat} (h : (m : Int) ≤ 9223372036854775807) : (Lib.decDigits m).length ≤ 21 := by
  have := Lib.itoa_length_le (m : Int) (by omega) h
  rwa [Lib.itoa_nonneg] at this
theorem byte_of {c : UInt8} {n : Nat} (h : (c.toNat : Int) = n) : c = UInt8.ofNat n := UInt8.toNat_inj.1 (by have := c.toNat_lt; rw [UInt8.toNat_ofNat']; omega)
theorem append_lists (a b : List UInt8) : (⟨a.toArray⟩ : ByteArray) ++ ⟨b.toArray⟩ = ⟨(a ++ b).toArray⟩ := ByteArray.mk_append_mk a b

/-- What FormatInt writes. -/
def fmt (n : Int) : ByteArray := ⟨(Lib.itoa n).toArray⟩
theorem fmt_len (n : Int) (h0 : -9223372036854775808 ≤ n) (h1 : n ≤ 9223372036854775807) : (fmt n).size ≤ 21 := by
  have := Lib.itoa_length_le n h0 h1
  exact this

end Go.Proofs.YtnbnepeikdieaaaGreatDoor

namespace Go.Proofs.YtnbnepeikdieaaaGreatDoor
open Go.RowKit

set_option maxHeartbeats 400000 in
theorem implFmt_any (n : Int) (w : World) (ht : Tab w) (h0 : -9223372036854775808 ≤ n) (h1 : n ≤ 9223372036854775807) :
    Calls Tryz.prog 94 #[.int .i64 n] w fun e w' => e = .returned (.string (fmt n)) ∧ Below w.heap.size w w' := by
  have H := Lib.hid (Tryz.strconv_Itoa n h0 h1 w ht)
  have HF : Hid (fmt n = ⟨(Lib.itoa n).toArray⟩) := rfl
  generalize (⟨(Lib.itoa n).toArray⟩ : ByteArray) = s at H HF
  clear h0 h1 ht
  go_enter Tryz.func94, Tryz.ntmps94
  go_wp2_with fail
  refine H.out.mono ?_
  rintro e w' ⟨rfl, k, os, hw⟩
  have HB : Hid (Below w.heap.size w w') := Lib.hid (by rw [hw]; exact Lib.below_grow w.heap.size w (Nat.le_refl _) k os)
  clear hw
  go_wp2
  go_ret
  exact ⟨by rw [HF.out]; rfl, HB.out⟩

theorem wf_i64 {n : Int} (h : (Lit.int .i64 n).wf = true) : -9223372036854775808 ≤ n ∧ n ≤ 9223372036854775807 := by
  simpa [Lit.wf, IntKind.min, IntKind.max, IntKind.signed, IntKind.bits] using h

end Go.Proofs.YtnbnepeikdieaaaGreatDoor

namespace Go.Proofs.YtnbnepeikdieaaaGreatDoor
open Go.RowKit

def valFrom (a : Nat) (l : List UInt8) : Nat := l.foldl (fun a c => a * 10 + (c.toNat - 48)) a
def digits (l : List UInt8) : Prop := ∀ c ∈ l, 48 ≤ c.toNat ∧ c.toNat ≤ 57
def inI (v : Int) : Prop := -9223372036854775808 ≤ v ∧ v ≤ 9223372036854775807

theorem valFrom_snoc (a : Nat) (l : List UInt8) (c : UInt8) : valFrom a (l ++ [c]) = valFrom a l * 10 + (c.toNat - 48) := by simp [valFrom]
theorem valFrom_ge (l : List UInt8) : ∀ a, a ≤ valFrom a l := by
  induction l with
  | nil => intro a; exact Nat.le_refl _
  | cons c l ih => intro a; exact Nat.le_trans (by omega) (ih (a * 10 + (c.toNat - 48)))
theorem valFrom_append (a : Nat) (l r : List UInt8) : valFrom a (l ++ r) = valFrom (valFrom a l) r := by simp [valFrom]
theorem val_take_le (l : List UInt8) (k : Nat) : valFrom 0 (l.take k) ≤ valFrom 0 l := by
  conv => rhs; rw [← List.take_append_drop k l]
  rw [valFrom_append]
  exact valFrom_ge _ _
theorem dec_val (m : Nat) : valFrom 0 (Lib.decDigits m) = m ∧ digits (Lib.decDigits m) := by
  induction m using Nat.strongRecOn with
  | _ m ih =>
    have hb : ∀ k, k < 10 → (UInt8.ofNat (48 + k)).toNat = 48 + k := fun k hk => by rw [UInt8.toNat_ofNat']; omega
    by_cases h : m < 10
    · rw [Lib.decDigits, dif_pos h]
      refine ⟨?_, ?_⟩
      · simp only [valFrom, List.foldl_cons, List.foldl_nil, hb m h]; omega
      · intro c hc
        simp only [List.mem_singleton] at hc
        subst hc
        rw [hb m h]; omega
    · rw [Lib.decDigits, dif_neg h]
      obtain ⟨h1, h2⟩ := ih (m / 10) (by omega)
      refine ⟨?_, ?_⟩
      · rw [valFrom_snoc, h1, hb (m % 10) (by omega)]; omega
      · intro c hc
        rcases List.mem_append.1 hc with hc | hc
        · exact h2 c hc
        · simp only [List.mem_singleton] at hc
          subst hc
          rw [hb (m % 10) (by omega)]; omega
theorem dec_len19 (k : Nat) : ∀ m, m < 10 ^ (k + 1) → 1 ≤ (Lib.decDigits m).length ∧ (Lib.decDigits m).length ≤ k + 1 := by
  induction k with
  | zero =>
    intro m h
    rw [Lib.decDigits, dif_pos (by simpa using h)]
    simp
  | succ k ih =>
    intro m h
    by_cases h10 : m < 10
    · rw [Lib.decDigits, dif_pos h10]; simp
    · rw [Lib.decDigits, dif_neg h10, List.length_append]
      have := ih (m / 10) (by rw [Nat.pow_succ] at h; omega)
      simp only [List.length_cons, List.length_nil]
      omega
theorem parse_digits : ∀ (l : List UInt8) (a : Nat), digits l → valFrom a l < 18446744073709551616 → Lib.parseUint10 a l = .ok (valFrom a l)
  | [], a, _, _ => rfl
  | c :: r, a, h, hv => by
    have hc := h c (by simp)
    have hr : digits r := fun x hx => h x (List.mem_cons_of_mem _ hx)
    have hge := valFrom_ge r (a * 10 + (c.toNat - 48))
    have hv' : valFrom (a * 10 + (c.toNat - 48)) r < 18446744073709551616 := hv
    rw [Lib.parseUint10, if_pos hc, if_neg (by omega), if_neg (by omega)]
    exact parse_digits r _ hr hv'
theorem mag_dec (m : Nat) (h : m < 18446744073709551616) : Lib.parseMag (Lib.decDigits m) = .ok m := by
  unfold Lib.parseMag
  rw [if_neg]
  · rw [parse_digits _ _ (dec_val m).2 (by rw [(dec_val m).1]; exact h), (dec_val m).1]
  · intro e
    have := (dec_len19 m m (by exact Nat.lt_of_lt_of_le (Nat.lt_pow_self (by decide)) (Nat.pow_le_pow_right (by decide) (by omega)))).1
    rw [e] at this
    simp at this
theorem dec_cons (m : Nat) : ∃ c r, Lib.decDigits m = c :: r ∧ 48 ≤ c.toNat ∧ c.toNat ≤ 57 := by
  cases h : Lib.decDigits m with
  | nil =>
    have := (dec_len19 m m (by exact Nat.lt_of_lt_of_le (Nat.lt_pow_self (by decide)) (Nat.pow_le_pow_right (by decide) (by omega)))).1
    rw [h] at this
    simp at this
  | cons c r => exact ⟨c, r, rfl, (dec_val m).2 c (by rw [h]; simp)⟩
theorem atoi_itoa (v : Int) (hv : inI v) : Lib.atoiAll (Lib.itoa v) = .ok v := by
  unfold inI at hv
  by_cases hn : v < 0
  · obtain ⟨m, rfl⟩ : ∃ m : Nat, v = -(m : Int) := ⟨v.natAbs, by omega⟩
    rw [Lib.itoa_neg m (by omega), Lib.atoiAll_minus, mag_dec m (by omega)]
    simp only [Lib.signed]
    split
    · omega
    · rfl
  · obtain ⟨m, rfl⟩ : ∃ m : Nat, v = (m : Int) := ⟨v.toNat, by omega⟩
    obtain ⟨c, r, e, h1, h2⟩ := dec_cons m
    rw [Lib.itoa_nonneg, e, Lib.atoiAll_plain c r (by omega) (by omega), ← e, mag_dec m (by omega)]
    simp only [Lib.signless]
    split
    · omega
    · rfl
instance (v : Int) : Decidable (inI v) := by unfold inI; exact inferInstance
/-- What ParseInt answers of a text. -/
def parseOf (l : List UInt8) : Int × Bool :=
  match Lib.atoiAll l with
  | .ok v => if inI v ∧ Lib.itoa v = l then (v, true) else (0, false)
  | _ => (0, false)
theorem parse_yes {v : Int} {l : List UInt8} (hv : inI v) (h : Lib.itoa v = l) : parseOf l = (v, true) := by
  subst h
  unfold parseOf
  rw [atoi_itoa v hv]
  exact if_pos ⟨hv, rfl⟩
theorem parse_no {l : List UInt8} (h : ∀ v, inI v → Lib.itoa v ≠ l) : parseOf l = (0, false) := by
  unfold parseOf
  split
  · rename_i v _
    exact if_neg (fun g => h v g.1 g.2)
  · rfl
/-- What is behind the sign of a text that is a numeral. -/
theorem fits_neg {tl : List UInt8} {v : Int} (hv : inI v) (h : Lib.itoa v = 45 :: tl) : ∃ m : Nat, (m : Int) ≤ 9223372036854775808 ∧ tl = Lib.decDigits m ∧ v = -(m : Int) := by
  unfold inI at hv
  by_cases hn : v < 0
  · obtain ⟨m, rfl⟩ : ∃ m : Nat, v = -(m : Int) := ⟨v.natAbs, by omega⟩
    rw [Lib.itoa_neg m (by omega)] at h
    injection h with _ h
    exact ⟨m, by omega, h.symm, rfl⟩
  · obtain ⟨m, rfl⟩ : ∃ m : Nat, v = (m : Int) := ⟨v.toNat, by omega⟩
    obtain ⟨c, r, e, h1, h2⟩ := dec_cons m
    rw [Lib.itoa_nonneg, e] at h
    injection h with h _
    rw [h] at h1
    exact absurd h1 (by decide)
theorem fits_pos {l : List UInt8} {v : Int} (hl : ∀ r, l ≠ 45 :: r) (hv : inI v) (h : Lib.itoa v = l) : ∃ m : Nat, (m : Int) ≤ 9223372036854775807 ∧ l = Lib.decDigits m ∧ v = (m : Int) := by
  unfold inI at hv
  by_cases hn : v < 0
  · obtain ⟨m, rfl⟩ : ∃ m : Nat, v = -(m : Int) := ⟨v.natAbs, by omega⟩
    rw [Lib.itoa_neg m (by omega)] at h
    exact absurd h.symm (hl _)
  · obtain ⟨m, rfl⟩ : ∃ m : Nat, v = (m : Int) := ⟨v.toNat, by omega⟩
    rw [Lib.itoa_nonneg] at h
    exact ⟨m, by omega, h.symm, rfl⟩
theorem max_pow {m : Nat} (h : (m : Int) ≤ 9223372036854775808) : m < 10 ^ (18 + 1) := Nat.lt_of_le_of_lt (show m ≤ 9223372036854775808 by omega) (by decide)

/-- The reader's state: the text behind the sign, what it would take to be a numeral. -/
structure Reads (neg : Bool) (l tl : List UInt8) : Prop where
  text : l = if neg then 45 :: tl else tl
  fits : ∀ v, inI v → Lib.itoa v = l → ∃ m : Nat, (m : Int) ≤ 9223372036854775808 ∧ (neg = false → (m : Int) ≤ 9223372036854775807) ∧ tl = Lib.decDigits m ∧ v = if neg then -(m : Int) else (m : Int)
theorem Reads.neg {tl : List UInt8} : Reads true (45 :: tl) tl := ⟨rfl, fun v hv h => by
  obtain ⟨m, h1, h2, h3⟩ := fits_neg hv h
  exact ⟨m, h1, (fun x => by cases x), h2, h3⟩⟩
theorem Reads.pos {l : List UInt8} (hl : ∀ r, l ≠ 45 :: r) : Reads false l l := ⟨rfl, fun v hv h => by
  obtain ⟨m, h1, h2, h3⟩ := fits_pos hl hv h
  exact ⟨m, by omega, fun _ => h1, h2, h3⟩⟩
theorem Reads.no_len {neg : Bool} {l tl : List UInt8} (h : Reads neg l tl) (hl : tl.length < 1 ∨ 19 < tl.length) : parseOf l = (0, false) := parse_no fun v hv e => by
  obtain ⟨m, h1, _, rfl, _⟩ := h.fits v hv e
  have := dec_len19 18 m (max_pow h1)
  omega
theorem Reads.no_digit {neg : Bool} {l tl : List UInt8} (h : Reads neg l tl) {k : Nat} {c : UInt8} (hk : tl[k]? = some c) (hc : ¬ (48 ≤ c.toNat ∧ c.toNat ≤ 57)) : parseOf l = (0, false) := parse_no fun v hv e => by
  obtain ⟨m, h1, _, rfl, _⟩ := h.fits v hv e
  exact hc ((dec_val m).2 c (List.mem_of_getElem? hk))
theorem take_snocB {tl : List UInt8} {k : Nat} {c : UInt8} (hk : tl[k]? = some c) : tl.take (k + 1) = tl.take k ++ [c] := by rw [List.take_add_one, hk]; rfl
theorem Reads.no_room {neg : Bool} {l tl : List UInt8} (h : Reads neg l tl) {k : Nat} {c : UInt8} (hk : tl[k]? = some c) (hc : 9223372036854775808 < valFrom 0 (tl.take k) * 10 + (c.toNat - 48)) : parseOf l = (0, false) := parse_no fun v hv e => by
  obtain ⟨m, h1, _, rfl, _⟩ := h.fits v hv e
  have := val_take_le (Lib.decDigits m) (k + 1)
  rw [take_snocB hk, valFrom_snoc, (dec_val m).1] at this
  omega
theorem Reads.no_sign {l tl : List UInt8} (h : Reads false l tl) (hc : valFrom 0 tl = 9223372036854775808) : parseOf l = (0, false) := parse_no fun v hv e => by
  obtain ⟨m, _, h1, rfl, _⟩ := h.fits v hv e
  have := h1 rfl
  rw [(dec_val m).1] at hc
  omega
theorem Reads.no_fmt {neg : Bool} {l tl : List UInt8} (h : Reads neg l tl) {n : Int} (hn : n = if neg then -(valFrom 0 tl : Int) else valFrom 0 tl) (hc : Lib.itoa n ≠ l) : parseOf l = (0, false) := parse_no fun v hv e => by
  obtain ⟨m, _, _, rfl, h3⟩ := h.fits v hv e
  rw [(dec_val m).1] at hn
  rw [← h3] at hn
  subst hn
  exact hc e
end Go.Proofs.YtnbnepeikdieaaaGreatDoor

namespace Go.Proofs.YtnbnepeikdieaaaGreatDoor
open Go.RowKit

def NumPost (p : Int × Bool) (w : World) (e : Ending) (w' : World) : Prop := e = .returned (.tuple #[.int .i64 p.1, .bool p.2]) ∧ Below w.heap.size w w'

/-- 's[1:]', under a name of its own. -/
theorem tail_at {P : Program} (t : TypeId) (s : ByteArray) (h : P.underlying t = some .string) (h1 : 1 ≤ s.size) :
    ∃ u : ByteArray, Hid (u.data.toList = s.data.toList.tail) ∧ u.size ≤ s.size ∧ ∀ w : World, (Instr.slice t (.string s) (some (.int .i64 1)) none none).run P w = .ok (.string u) w := by
  refine ⟨s.extract 1 s.size, Lib.hid ?_, ?_, fun w => ?_⟩
  · rw [Lib.extract_data, List.drop_one]
    rw [List.take_of_length_le]
    simp
  · simp
  · simp [go_sem, h]
    intro hh
    omega
/-- The first byte. -/
theorem byte_zero {P : Program} (t : TypeId) (s : ByteArray) (hk : 0 < s.size) (h : P.underlying t = some .string) :
    ∃ c : Int, 0 ≤ c ∧ c < 256 ∧ Hid (c = (s[0].toNat : Int)) ∧ ∀ w : World, (Instr.index t (.string s) (.int .i64 0)).run P w = .ok (.int .u8 c) w := byte_at t s 0 hk h

theorem get_byte (s : ByteArray) (k : Nat) (h : k < s.size) : s.data.toList[k]? = some s[k] := by
  have : k < s.data.toList.length := by simpa using h
  rw [List.getElem?_eq_getElem this]
  rfl
theorem over_iff (a : Nat) (d : Int) (h48 : 48 ≤ d) (h57 : d ≤ 57) : (-(a : Int) < (-9223372036854775808 + (d - 48)).tdiv 10) ↔ 9223372036854775808 < a * 10 + (d - 48) := by
  rw [show -9223372036854775808 + (d - 48) = -(9223372036854775808 - (d - 48)) from by omega, Int.neg_tdiv, Int.tdiv_eq_ediv_of_nonneg (by omega)]
  omega
theorem first_eq (s : ByteArray) (h : 0 < s.size) (hc : s[0].toNat = 45) : 45 :: s.data.toList.tail = s.data.toList := by
  have h0 := get_byte s 0 h
  cases hl : s.data.toList with
  | nil => rw [hl] at h0; simp at h0
  | cons c r =>
    rw [hl] at h0
    simp only [List.getElem?_cons_zero, Option.some.injEq] at h0
    rw [List.tail_cons, h0, UInt8.toNat_inj.1 (show s[0].toNat = (45 : UInt8).toNat from hc)]
theorem first_ne (s : ByteArray) (h : 0 < s.size) (hc : s[0].toNat ≠ 45) : ∀ r, s.data.toList ≠ 45 :: r := by
  intro r e
  have h0 := get_byte s 0 h
  rw [e] at h0
  simp only [List.getElem?_cons_zero, Option.some.injEq] at h0
  rw [← h0] at hc
  exact hc rfl
end Go.Proofs.YtnbnepeikdieaaaGreatDoor

namespace Go.Proofs.YtnbnepeikdieaaaGreatDoor
open Go.RowKit

/-- The sentinels of strconv hold an interface value. -/
def Errs (w : World) : Prop := (∃ ev, w.cell? ⟨0, 0, none⟩ = some ev ∧ (ev = .nilIface ∨ ∃ te pe, ev = .iface te pe)) ∧ (∃ ev, w.cell? ⟨1, 0, none⟩ = some ev ∧ (ev = .nilIface ∨ ∃ te pe, ev = .iface te pe))
theorem Errs.kept {w w' : World} (h : Errs w) (hb : Below w.heap.size w w') : Errs w' := by
  obtain ⟨⟨e1, c1, d1⟩, ⟨e2, c2, d2⟩⟩ := h
  exact ⟨⟨e1, (hb.cell (World.block_lt_of_cell? w _ c1)).trans c1, d1⟩, ⟨e2, (hb.cell (World.block_lt_of_cell? w _ c2)).trans c2, d2⟩⟩

/-- How a reading of a number ends. -/
theorem atoi_ends (l : List UInt8) : (∃ v, Lib.atoiAll l = .ok v) ∨ Lib.atoiAll l = Lib.atoiAll [] ∨ Lib.atoiAll l = .range := by
  cases Lib.atoiAll l
  · exact .inl ⟨_, rfl⟩
  · exact .inr (.inl rfl)
  · exact .inr (.inr rfl)

set_option maxHeartbeats 1000000 in
theorem implParse_any (s : ByteArray) (w : World) (ht : Tab w) (he : Errs w) (hs : s.size ≤ 1048576) :
    Calls Tryz.prog 98 #[.string s] w (NumPost (parseOf s.data.toList) w) := by
  have HT := Lib.hid ht
  obtain ⟨⟨e1, c1, d1⟩, ⟨e2, c2, d2⟩⟩ := he
  clear ht
  rcases atoi_ends s.data.toList with ⟨v, hat⟩ | hat | hat
  ·
    have hv : inI v := Lib.atoiAll_bounds hat
    have HA := Lib.hid (Tryz.strconv_Atoi_ok s (by omega) v hat w)
    have HI : Hid (∀ W, Tab W → Calls Tryz.prog 94 #[.int .i64 v] W fun e w' => e = .returned (.string (fmt v)) ∧ Below W.heap.size W w') := Lib.hid (fun W hW => implFmt_any v W hW hv.1 hv.2)
    by_cases hf : Lib.itoa v = s.data.toList
    · have HP := Lib.hid (parse_yes hv hf)
      have hbe : ((fmt v).toList == s.toList) = true := by rw [Lib.toList_data, Lib.toList_data]; unfold fmt; simpa using hf
      clear hf hv hat c1 d1 c2 d2
      generalize fmt v = f at HI hbe
      go_enter Tryz.func98, Tryz.ntmps98
      go_wp2_with fail
      refine HA.out.mono ?_
      rintro e w1 ⟨rfl, hw⟩
      have HB : Hid (Below w.heap.size w w1) := by
        rcases hw with rfl | ⟨t, rfl⟩
        · exact Below.refl _ _
        · exact Lib.bytesWorld_below w _ _
      clear hw
      go_wp2_with (go_at_call 94; refine (HI.out _ (HT.out.kept HB.out)).mono ?_; rintro e w2 ⟨rfl, hb⟩)
      go_ret2
      exact ⟨by rw [HP.out]; rfl, HB.out.trans (hb.mono HB.out.size)⟩
    · have HP := Lib.hid (parse_no (l := s.data.toList) (fun v' hv' e => by
        have := atoi_itoa v' hv'
        rw [e, hat] at this
        injection this with this
        rw [← this] at e
        exact hf e))
      have hbe : ((fmt v).toList == s.toList) = false := by rw [Lib.toList_data, Lib.toList_data]; unfold fmt; simpa using hf
      clear hf hv hat c1 d1 c2 d2
      generalize fmt v = f at HI hbe
      go_enter Tryz.func98, Tryz.ntmps98
      go_wp2_with fail
      refine HA.out.mono ?_
      rintro e w1 ⟨rfl, hw⟩
      have HB : Hid (Below w.heap.size w w1) := by
        rcases hw with rfl | ⟨t, rfl⟩
        · exact Below.refl _ _
        · exact Lib.bytesWorld_below w _ _
      clear hw
      go_wp2_with (go_at_call 94; refine (HI.out _ (HT.out.kept HB.out)).mono ?_; rintro e w2 ⟨rfl, hb⟩)
      go_ret2
      exact ⟨by rw [HP.out]; rfl, HB.out.trans (hb.mono HB.out.size)⟩
  ·
    have HA := Lib.hid (Tryz.strconv_Atoi_syntax s (by omega) hat e1 w c1 d1)
    have HP := Lib.hid (parse_no (l := s.data.toList) (fun v' hv' e => by
      have := atoi_itoa v' hv'
      rw [e, hat] at this
      simp [Lib.atoiAll] at this))
    clear hat c1 d1 c2 d2
    go_enter Tryz.func98, Tryz.ntmps98
    go_wp2_with fail
    refine HA.out.mono ?_
    rintro e w1 ⟨N, rfl, _, _, hb⟩
    go_wp2
    go_ret2
    exact ⟨by rw [HP.out]; rfl, hb⟩
  ·
    have HA := Lib.hid (Tryz.strconv_Atoi_range s (by omega) hat e2 w c2 d2)
    have HP := Lib.hid (parse_no (l := s.data.toList) (fun v' hv' e => by
      have := atoi_itoa v' hv'
      rw [e, hat] at this
      cases this))
    generalize Lib.atoiSat s.data.toList = z at HA
    clear hat c1 d1 c2 d2
    go_enter Tryz.func98, Tryz.ntmps98
    go_wp2_with fail
    refine HA.out.mono ?_
    rintro e w1 ⟨N, rfl, _, _, hb⟩
    go_wp2
    go_ret2
    exact ⟨by rw [HP.out]; rfl, hb⟩

/-- What the law of ParseInt asks of the listed variables. -/
def TabErrs (w : World) : Prop := Tab w ∧ Errs w

end Go.Proofs.YtnbnepeikdieaaaGreatDoor

