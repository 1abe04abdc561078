/-
  Plain facts: a list of numbers, written and put between parentheses, is read back: by ParseInts, by Tokens. Nothing of a program.
-/
import Derived.Test.YtfoegoobcpmddaaDoorPieces
namespace Go.Proofs.YtfoegoobcpmddaaDoor
open Go.RowKit

theorem itoa_bytes (n : Int) : ∀ c ∈ Lib.itoa n, (48 ≤ c.toNat ∧ c.toNat ≤ 57) ∨ c = 45 := by
  intro c hc
  unfold Lib.itoa at hc
  split at hc
  · rcases List.mem_cons.1 hc with rfl | hc
    · exact .inr rfl
    · exact .inl ((dec_val _).2 c hc)
  · exact .inl ((dec_val _).2 c hc)
theorem itoa_ne (n : Int) : Lib.itoa n ≠ [] := by
  unfold Lib.itoa
  split
  · simp
  · obtain ⟨c, r, e, _⟩ := dec_cons n.toNat
    rw [e]; simp
theorem word_not {c : UInt8} (h : (48 ≤ c.toNat ∧ c.toNat ≤ 57) ∨ c = 45) : brkI (c.toNat : Int) = false ∧ c ≠ 32 ∧ okText (c.toNat : Int) = true := by
  have h45 : c = 45 → c.toNat = 45 := fun e => by rw [e]; rfl
  have hn : c.toNat = 45 ∨ (48 ≤ c.toNat ∧ c.toNat ≤ 57) := by
    rcases h with h | h
    · exact .inr h
    · exact .inl (h45 h)
  refine ⟨decide_eq_false (by omega), ?_, decide_eq_true (by omega)⟩
  intro e
  have : c.toNat = 32 := by rw [e]; rfl
  omega
/-- Three numbers, written with spaces. -/
def three (x y z : Int) : List UInt8 := Lib.itoa x ++ 32 :: (Lib.itoa y ++ 32 :: Lib.itoa z)
theorem pl_cut {a r : List UInt8} (h : ∀ c ∈ a, c ≠ 32) : pl (a ++ 32 :: r) = a :: pl r := by
  have := pl_hit a.length (a ++ 32 :: r) (by simp) (by rw [List.take_left]; exact h)
  rw [this, List.take_left]
  congr 2
  rw [List.drop_append]
  simp
theorem parses_three {x y z : Int} (hx : inI x) (hy : inI y) (hz : inI z) : parsesOf (three x y z) = ([x, y, z], true) := by
  have hne : three x y z ≠ [] := by unfold three; simp
  have n32 : ∀ n : Int, ∀ c ∈ Lib.itoa n, c ≠ 32 := fun n c hc => (word_not (itoa_bytes n c hc)).2.1
  unfold parsesOf
  rw [if_neg hne]
  unfold three
  rw [pl_cut (n32 x), pl_cut (n32 y), pl_miss _ (n32 z)]
  have e : ∀ n, inI n → parseOf (Lib.itoa n) = (n, true) := fun n hn => parse_yes hn rfl
  unfold numsOf
  simp [e x hx, e y hy, e z hz]

/-! ### Tokens of a text in pieces -/
theorem byteI_at {s : ByteArray} {A R : List UInt8} {c : UInt8} (h : s.data.toList = A ++ c :: R) : byteI s A.length = (c.toNat : Int) := by
  unfold byteI
  rw [h]
  simp
theorem size_at {s : ByteArray} {A R : List UInt8} {c : UInt8} (h : s.data.toList = A ++ c :: R) : A.length < s.size := by
  have := Lib.size_eq s
  rw [h, List.length_append, List.length_cons] at this
  omega
theorem extract_mid {s : ByteArray} {A W R : List UInt8} (h : s.data.toList = A ++ W ++ R) : s.extract A.length (A.length + W.length) = ⟨W.toArray⟩ := by
  rw [Lib.extract_eq, h]
  congr 2
  rw [List.append_assoc, List.drop_left, Nat.add_sub_cancel_left, List.take_left]
theorem seg_brk {s : ByteArray} {A R : List UInt8} {c : UInt8} {out : List ByteArray} (h : s.data.toList = A ++ c :: R) (hi : Inv s A.length out) (hb : brkI (c.toNat : Int) = true) (h59 : c.toNat ≠ 59) :
    Inv s (A ++ [c]).length (out ++ if c.toNat = 40 ∨ c.toNat = 41 then [⟨#[c]⟩] else []) := by
  have hb' := byteI_at h
  have e := Inv_brk hi (size_at h) (by rw [hb']; exact hb) (by rw [hb']; omega)
  rw [hb'] at e
  have hx := extract_mid (s := s) (A := A) (W := [c]) (R := R) (by rw [h]; simp)
  rw [List.length_singleton] at hx
  rw [hx] at e
  rw [List.length_append, List.length_singleton]
  by_cases hp : c.toNat = 40 ∨ c.toNat = 41
  · rw [if_pos hp]
    rwa [if_pos (by omega)] at e
  · rw [if_neg hp]
    rwa [if_neg (by omega)] at e
theorem seg_run {s : ByteArray} {A R : List UInt8} {out : List ByteArray} {i : Nat} : ∀ (W B : List UInt8), s.data.toList = B ++ W ++ R → (∀ c ∈ W, brkI (c.toNat : Int) = false) → tokTo s B.length = (i, false, out) → tokTo s (B ++ W).length = (i, false, out)
  | [], B, _, _, ht => by simpa using ht
  | c :: W, B, h, hw, ht => by
    have hb := byteI_at (s := s) (A := B) (R := W ++ R) (c := c) (by rw [h]; simp)
    have e := tokTo_word ht (by rw [hb]; exact hw c (by simp))
    have := seg_run (s := s) (A := A) (R := R) (out := out) (i := i) W (B ++ [c]) (by rw [h]; simp) (fun x hx => hw x (List.mem_cons_of_mem _ hx)) (by rw [List.length_append]; exact e)
    rw [List.append_assoc] at this
    exact this
theorem seg_word {s : ByteArray} {A W R : List UInt8} {d : UInt8} {out : List ByteArray} (h : s.data.toList = A ++ W ++ d :: R) (hne : W ≠ []) (hw : ∀ c ∈ W, brkI (c.toNat : Int) = false) (hd : brkI (d.toNat : Int) = true) (hi : Inv s A.length out) :
    Inv s (A ++ W).length (out ++ [⟨W.toArray⟩]) := by
  cases W with
  | nil => exact absurd rfl hne
  | cons c W =>
    have hA := byteI_at (s := s) (A := A) (R := W ++ d :: R) (c := c) (by rw [h]; simp)
    have h1 := Inv_word hi (size_at (s := s) (A := A) (R := W ++ d :: R) (c := c) (by rw [h]; simp)) (by rw [hA]; exact hw c (by simp))
    have h2 := seg_run (s := s) (A := A) (R := d :: R) (out := out) (i := A.length) W (A ++ [c]) (by rw [h]; simp) (fun x hx => hw x (List.mem_cons_of_mem _ hx)) (by rw [List.length_append]; exact h1)
    rw [List.append_assoc] at h2
    have hE := byteI_at (s := s) (A := A ++ c :: W) (R := R) (c := d) h
    have h3 := Inv_of_word h2 (by simp) (fun _ => by
      have : (A ++ ([c] ++ W)).length = (A ++ c :: W).length := by simp
      rw [this, hE]; exact hd)
    have hx := extract_mid (s := s) (A := A) (W := c :: W) (R := d :: R) h
    rw [show (A ++ ([c] ++ W)).length = A.length + (c :: W).length by simp] at h3
    rw [hx] at h3
    rw [List.length_append]
    exact h3
/-- ' (' x y z ');x' -/
def shell (x y z : Int) : List UInt8 := 32 :: 40 :: (three x y z ++ [41, 59, 120])
theorem toks_shell {s : ByteArray} {x y z : Int} (h : s.data.toList = shell x y z) : toks s = [⟨#[40]⟩, ⟨(Lib.itoa x).toArray⟩, ⟨(Lib.itoa y).toArray⟩, ⟨(Lib.itoa z).toArray⟩, ⟨#[41]⟩] := by
  have w : ∀ n : Int, ∀ c ∈ Lib.itoa n, brkI (c.toNat : Int) = false := fun n c hc => (word_not (itoa_bytes n c hc)).1
  unfold shell three at h
  have s1 := seg_brk (s := s) (A := []) (c := 32) (R := 40 :: (Lib.itoa x ++ 32 :: (Lib.itoa y ++ 32 :: Lib.itoa z) ++ [41, 59, 120])) (out := []) (by rw [h]; rfl) (Inv_zero s) rfl (by decide)
  have s2 := seg_brk (s := s) (A := [32]) (c := 40) (R := Lib.itoa x ++ 32 :: (Lib.itoa y ++ 32 :: Lib.itoa z) ++ [41, 59, 120]) (by rw [h]; rfl) s1 rfl (by decide)
  have s3 := seg_word (s := s) (A := [32, 40]) (W := Lib.itoa x) (d := 32) (R := (Lib.itoa y ++ 32 :: Lib.itoa z) ++ [41, 59, 120]) (by rw [h]; simp) (itoa_ne x) (w x) rfl s2
  have s4 := seg_brk (s := s) (A := [32, 40] ++ Lib.itoa x) (c := 32) (R := (Lib.itoa y ++ 32 :: Lib.itoa z) ++ [41, 59, 120]) (by rw [h]; simp) s3 rfl (by decide)
  have s5 := seg_word (s := s) (A := [32, 40] ++ Lib.itoa x ++ [32]) (W := Lib.itoa y) (d := 32) (R := Lib.itoa z ++ [41, 59, 120]) (by rw [h]; simp) (itoa_ne y) (w y) rfl s4
  have s6 := seg_brk (s := s) (A := [32, 40] ++ Lib.itoa x ++ [32] ++ Lib.itoa y) (c := 32) (R := Lib.itoa z ++ [41, 59, 120]) (by rw [h]; simp) s5 rfl (by decide)
  have s7 := seg_word (s := s) (A := [32, 40] ++ Lib.itoa x ++ [32] ++ Lib.itoa y ++ [32]) (W := Lib.itoa z) (d := 41) (R := [59, 120]) (by rw [h]; simp) (itoa_ne z) (w z) rfl s6
  have s8 := seg_brk (s := s) (A := [32, 40] ++ Lib.itoa x ++ [32] ++ Lib.itoa y ++ [32] ++ Lib.itoa z) (c := 41) (R := [59, 120]) (by rw [h]; simp) s7 rfl (by decide)
  have hA : s.data.toList = ([32, 40] ++ Lib.itoa x ++ [32] ++ Lib.itoa y ++ [32] ++ Lib.itoa z ++ [41]) ++ 59 :: [120] := by rw [h]; simp
  have hA2 : s.data.toList = ([32, 40] ++ Lib.itoa x ++ [32] ++ Lib.itoa y ++ [32] ++ Lib.itoa z ++ [41] ++ [59]) ++ 120 :: [] := by rw [h]; simp
  have s9 := Inv_comment s8 (size_at hA) (byteI_at hA)
  generalize hB : [32, 40] ++ Lib.itoa x ++ [32] ++ Lib.itoa y ++ [32] ++ Lib.itoa z ++ [41] = B at s9 hA hA2
  have hb2 := byteI_at hA2
  rw [List.length_append, List.length_singleton] at hb2
  have s10 := tokTo_more s9 (by rw [hb2]; decide)
  have hsz : B.length + 1 + 1 = s.size := by
    have := Lib.size_eq s
    rw [hA, List.length_append] at this
    simp at this
    omega
  have s11 := Inv_end (Inv_of_comment s10 (fun hh => by omega)) hsz
  rw [s11]
  rfl
theorem plain_shell {s : ByteArray} {x y z : Int} (h : s.data.toList = shell x y z) : plain s = true := by
  have w : ∀ n : Int, ∀ c ∈ Lib.itoa n, okText (c.toNat : Int) = true := fun n c hc => (word_not (itoa_bytes n c hc)).2.2
  have all : ∀ c ∈ s.data.toList, okText (c.toNat : Int) = true := by
    intro c hc
    rw [h] at hc
    unfold shell three at hc
    simp only [List.mem_cons, List.mem_append, List.mem_nil_iff, or_false] at hc
    rcases hc with rfl | rfl | (hc | rfl | hc | rfl | hc) | rfl | rfl | rfl
    · rfl
    · rfl
    · exact w x c hc
    · rfl
    · exact w y c hc
    · rfl
    · exact w z c hc
    · rfl
    · rfl
    · rfl
  unfold plain
  refine decide_eq_true (fun j hj => all _ ?_)
  have : s.data.toList[j]? = some s[j] := by
    have hl : j < s.data.toList.length := by simpa using hj
    rw [List.getElem?_eq_getElem hl]; rfl
  exact List.mem_of_getElem? this
end Go.Proofs.YtfoegoobcpmddaaDoor
