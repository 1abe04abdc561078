/-
  Plain facts on the pieces of a text between spaces, and on what is read of each. Nothing of a program.
-/
import Derived.Test.YtfoegoobcpmddaaDoorNum
import Derived.Test.YtfoegoobcpmddaaDoorPlain
import Derived.Lib.Split
import Derived.Lib.SplitLaws
import Derived.Lib.CountLaws
import Derived.Lib.CutLaws
import Derived.Lib.IndexBytes
import Derived.Lib.Strings
namespace Go.Proofs.YtfoegoobcpmddaaDoor
open Go.RowKit

/-- The pieces of a list of bytes between the bytes 32. -/
def pl : List UInt8 → List (List UInt8)
  | [] => [[]]
  | c :: r => if c = 32 then [] :: pl r else match pl r with
    | [] => [[c]]
    | h :: t => (c :: h) :: t
theorem pl_ne (l : List UInt8) : pl l ≠ [] := by
  cases l with
  | nil => simp [pl]
  | cons c r =>
    rw [pl]
    split
    · simp
    · split <;> simp
theorem pl_miss : ∀ l : List UInt8, (∀ c ∈ l, c ≠ 32) → pl l = [l]
  | [], _ => rfl
  | c :: r, h => by
    rw [pl, if_neg (h c (by simp)), pl_miss r (fun x hx => h x (List.mem_cons_of_mem _ hx))]
theorem pl_hit : ∀ (i : Nat) (l : List UInt8), l[i]? = some 32 → (∀ c ∈ l.take i, c ≠ 32) → pl l = l.take i :: pl (l.drop (i + 1))
  | _, [], h, _ => by simp at h
  | 0, c :: r, h, _ => by
    simp only [List.getElem?_cons_zero, Option.some.injEq] at h
    rw [pl, if_pos h]
    rfl
  | i + 1, c :: r, h, hn => by
    rw [List.getElem?_cons_succ] at h
    have hc : c ≠ 32 := hn c (by simp)
    have ih := pl_hit i r h (fun x hx => hn x (by rw [List.take_succ_cons]; exact List.mem_cons_of_mem _ hx))
    rw [pl, if_neg hc, ih]
    rfl
theorem indexByte_miss : ∀ l : List UInt8, Lib.indexByte l 32 = -1 → ∀ c ∈ l, c ≠ 32
  | [], _ => by simp
  | b :: l, h => by
    rw [Lib.indexByte] at h
    split at h
    · cases h
    · rename_i hb
      split at h
      · rename_i h2
        have ih := indexByte_miss l (by simpa using h2)
        intro c hc
        rcases List.mem_cons.1 hc with rfl | hc
        · simpa using hb
        · exact ih c hc
      · rename_i h2
        have := Lib.indexByte_ge l 32
        omega
theorem indexByte_hit : ∀ (l : List UInt8) (i : Nat), Lib.indexByte l 32 = i → l[i]? = some 32 ∧ ∀ c ∈ l.take i, c ≠ 32
  | [], i, h => by rw [Lib.indexByte] at h; omega
  | b :: l, i, h => by
    rw [Lib.indexByte] at h
    split at h
    · rename_i hb
      obtain rfl : i = 0 := by omega
      exact ⟨by simpa using hb, by simp⟩
    · rename_i hb
      split at h
      · omega
      · cases i with
        | zero =>
          have := Lib.indexByte_ge l 32
          rename_i h2
          have h3 : ¬ Lib.indexByte l 32 = -1 := by simpa using h2
          omega
        | succ i =>
          obtain ⟨h3, h4⟩ := indexByte_hit l i (by omega)
          refine ⟨by simpa using h3, ?_⟩
          intro c hc
          rw [List.take_succ_cons] at hc
          rcases List.mem_cons.1 hc with rfl | hc
          · simpa using hb
          · exact h4 c hc
def sp : ByteArray := ⟨#[32]⟩
theorem index_sp (s : ByteArray) : Lib.indexB s sp = Lib.indexByte s.data.toList 32 := by
  unfold Lib.indexB
  exact Lib.index_one s.data.toList 32
theorem split_pl : ∀ (n : Nat) (s : ByteArray), s.size ≤ n → (Lib.splitB sp 0 (Lib.countB s sp) s).map (·.data.toList) = pl s.data.toList ∧ (Lib.splitB sp 0 (Lib.countB s sp) s).length = Lib.countB s sp + 1 := by
  intro n
  induction n with
  | zero =>
    intro s hs
    rcases Lib.indexB_cases s sp with h | ⟨i, h, hi⟩
    · rw [Lib.splitB_miss _ _ _ _ h, Lib.countB_miss _ _ h]
      rw [index_sp] at h
      exact ⟨(pl_miss _ (indexByte_miss _ h)).symm, rfl⟩
    · have : sp.size = 1 := rfl
      omega
  | succ n ih =>
    intro s hs
    rcases Lib.indexB_cases s sp with h | ⟨i, h, hi⟩
    · rw [Lib.splitB_miss _ _ _ _ h, Lib.countB_miss _ _ h]
      rw [index_sp] at h
      exact ⟨(pl_miss _ (indexByte_miss _ h)).symm, rfl⟩
    · have h1 : sp.size = 1 := rfl
      have hc := Lib.countB_hit s sp i (by decide) h
      rw [h1] at hc
      rw [hc, Nat.add_comm 1, Lib.splitB_hit _ _ _ _ i h, h1]
      have hsz : (s.extract (i + 1) s.size).size ≤ n := by simp; omega
      obtain ⟨e1, e2⟩ := ih _ hsz
      rw [index_sp] at h
      obtain ⟨h2, h3⟩ := indexByte_hit _ i h
      refine ⟨?_, by rw [List.length_cons, e2]⟩
      rw [List.map_cons, e1, pl_hit i _ h2 h3, Lib.extract_to_end]
      congr 1
      rw [Lib.extract_data]
      simp

/-- The pieces up to a place: where the open one begins, those before. -/
def cutTo (s : ByteArray) : Nat → Nat × List (List UInt8)
  | 0 => (0, [])
  | k + 1 => if k = s.size ∨ byteI s k = 32 then (k + 1, (cutTo s k).2 ++ [(s.extract (cutTo s k).1 k).data.toList]) else cutTo s k
theorem cutTo_hit {s : ByteArray} {k : Nat} (h : k = s.size ∨ byteI s k = 32) : cutTo s (k + 1) = (k + 1, (cutTo s k).2 ++ [(s.extract (cutTo s k).1 k).data.toList]) := by rw [cutTo, if_pos h]
theorem cutTo_miss {s : ByteArray} {k : Nat} (h : ¬ (k = s.size ∨ byteI s k = 32)) : cutTo s (k + 1) = cutTo s k := by rw [cutTo, if_neg h]
theorem cutTo_le (s : ByteArray) (k : Nat) : (cutTo s k).1 ≤ k ∧ (cutTo s k).2.length ≤ k := by
  induction k with
  | zero => exact ⟨Nat.le_refl _, Nat.le_refl _⟩
  | succ k ih =>
    rw [cutTo]
    split
    · exact ⟨Nat.le_refl _, by simp; omega⟩
    · omega
theorem cutTo_pl (s : ByteArray) (k : Nat) (hk : k ≤ s.size) : pl s.data.toList = (cutTo s k).2 ++ pl (s.data.toList.drop (cutTo s k).1) ∧ ∀ c ∈ (s.data.toList.drop (cutTo s k).1).take (k - (cutTo s k).1), c ≠ 32 := by
  induction k with
  | zero => exact ⟨by simp [cutTo], by simp [cutTo]⟩
  | succ k ih =>
    obtain ⟨h1, h2⟩ := ih (by omega)
    have hle := (cutTo_le s k).1
    have hget : s.data.toList[k]? = some s[k] := by
      have : k < s.data.toList.length := by have := Lib.size_eq s; omega
      rw [List.getElem?_eq_getElem this]; rfl
    have hbyte : byteI s k = (s[k].toNat : Int) := byteI_eq (by omega) rfl
    by_cases h : k = s.size ∨ byteI s k = 32
    · rw [cutTo_hit h]
      have h32 : s[k] = 32 := by
        rcases h with h | h
        · omega
        · rw [hbyte] at h
          exact UInt8.toNat_inj.1 (show s[k].toNat = (32 : UInt8).toNat by show s[k].toNat = 32; omega)
      have hd : (s.data.toList.drop (cutTo s k).1)[k - (cutTo s k).1]? = some 32 := by
        rw [List.getElem?_drop, show (cutTo s k).1 + (k - (cutTo s k).1) = k by omega, hget, h32]
      refine ⟨?_, by simp⟩
      rw [h1, pl_hit _ _ hd h2, Lib.extract_data, List.drop_drop, show (cutTo s k).1 + (k - (cutTo s k).1 + 1) = k + 1 by omega]
      simp
    · rw [cutTo_miss h]
      refine ⟨h1, ?_⟩
      intro c hc
      rw [show k + 1 - (cutTo s k).1 = (k - (cutTo s k).1) + 1 by omega, List.take_add_one] at hc
      rcases List.mem_append.1 hc with hc | hc
      · exact h2 c hc
      · rw [List.getElem?_drop, show (cutTo s k).1 + (k - (cutTo s k).1) = k by omega, hget] at hc
        simp only [Option.toList_some, List.mem_singleton] at hc
        subst hc
        intro e
        apply h
        right
        rw [hbyte, e]
        rfl
theorem cutTo_end (s : ByteArray) : (cutTo s (s.size + 1)).2 = pl s.data.toList := by
  obtain ⟨h1, h2⟩ := cutTo_pl s s.size (Nat.le_refl _)
  rw [cutTo_hit (.inl rfl), h1]
  have hle := (cutTo_le s s.size).1
  have hsz := Lib.size_eq s
  rw [List.take_of_length_le (by rw [List.length_drop]; omega)] at h2
  rw [pl_miss _ h2, Lib.extract_data, List.take_of_length_le (by rw [List.length_drop]; omega)]

/-- What is read of all pieces. -/
def numsOf (ps : List (List UInt8)) : List Int × Bool := if ps.all (fun p => (parseOf p).2) then (ps.map (fun p => (parseOf p).1), true) else ([], false)
def parsesOf (l : List UInt8) : List Int × Bool := if l = [] then ([], true) else numsOf (pl l)
theorem nums_no {ps : List (List UInt8)} {p : List UInt8} (hp : p ∈ ps) (h : (parseOf p).2 = false) : numsOf ps = ([], false) := by
  unfold numsOf
  rw [if_neg]
  intro g
  have := List.all_eq_true.1 g p hp
  rw [h] at this
  cases this
theorem nums_yes {ps : List (List UInt8)} (h : ∀ p ∈ ps, (parseOf p).2 = true) : numsOf ps = (ps.map (fun p => (parseOf p).1), true) := by
  unfold numsOf
  rw [if_pos (List.all_eq_true.2 h)]
end Go.Proofs.YtfoegoobcpmddaaDoor
