/-
  Rows that a call owns: what is kept below them, one element appended. Over whatever program.
-/
import Derived.Test.YtokndpmoamjbfaaPlain
import Derived.WalkKit
import Derived.WalkSpells
import Derived.Below
import Derived.Lib.OthersKept
import Derived.WalkSmall
import Derived.Laws.IdiomStrings
namespace Go.Proofs.Ytokndpmoamjbfaa
open Go.RowKit

/-- A row of one-cell values that the call owns, its length that of its list. -/
def Row (w : World) (base : Nat) (e : TypeId) (v : Value) (xs : List Value) : Prop := w.ownsRow base e 1 v xs.length xs

theorem Row.nil (w : World) (base : Nat) (e : TypeId) : Row w base e (.slice none 0 0) [] := World.ownsRow_nil w base e 1
/-- What is owned below B stays where nothing below B turns. -/
theorem Row.below {w w' : World} {B base : Nat} {e : TypeId} {v : Value} {xs : List Value} (h : Row w base e v xs) (hb : Below B w w') (hB : ∀ k, v.ownBlock = some k → k < B) : Row w' base e v xs := by
  refine ⟨h.1, ?_⟩
  rcases h.2 with hn | ⟨g, cap, cur, rfl, h1, h2, h3⟩
  · exact .inl hn
  · exact .inr ⟨g, cap, cur, rfl, h1, by rw [hb.block g (hB g rfl)]; exact h2, h3⟩
theorem Row.lt {w : World} {base : Nat} {e : TypeId} {v : Value} {xs : List Value} (h : Row w base e v xs) : ∀ k, v.ownBlock = some k → k < w.heap.size := fun k hk => (World.ownsRow.lt h k hk).2
theorem Row.ge {w : World} {base : Nat} {e : TypeId} {v : Value} {xs : List Value} (h : Row w base e v xs) : ∀ k, v.ownBlock = some k → base ≤ k := fun k hk => (World.ownsRow.lt h k hk).1
/-- The whole of an owned row stays where all that is now there stays. -/
theorem Row.kept {w w' : World} {base : Nat} {e : TypeId} {v : Value} {xs : List Value} (h : Row w base e v xs) (hb : Below w.heap.size w w') : Row w' base e v xs := h.below hb h.lt
theorem Row.base {w : World} {base b' : Nat} {e : TypeId} {v : Value} {xs : List Value} (h : Row w base e v xs) (hb : b' ≤ base) : Row w b' e v xs := by
  refine ⟨h.1, ?_⟩
  rcases h.2 with hn | ⟨g, cap, cur, rfl, h1, h2⟩
  · exact .inl hn
  · exact .inr ⟨g, cap, cur, rfl, by omega, h2⟩

/-- The shape of a slice that is owned: nil, or a row's head. -/
theorem Row.shape {w : World} {base : Nat} {e : TypeId} {v : Value} {xs : List Value} (h : Row w base e v xs) :
    (v = .slice none 0 0 ∧ xs = []) ∨ ∃ g cap, v = .slice (some ⟨g, 0, none⟩) xs.length cap ∧ base ≤ g ∧ g < w.heap.size ∧ xs.length ≤ cap ∧ cap ≤ maxLen ∧
      (∀ j, j < xs.length → w.cell? ⟨g, j, none⟩ = xs[j]?) ∧ ∀ j, w.frozen? ⟨g, j, none⟩ = false := by
  have h' := h
  rcases h.2 with ⟨rfl, hn⟩ | ⟨g, cap, cur, rfl, h1, h2, h3, h4, h5, h6⟩
  · exact .inl ⟨rfl, List.length_eq_zero_iff.1 hn⟩
  · exact .inr ⟨g, cap, rfl, h1, (Array.getElem?_eq_some_iff.1 h2).1, h3, h4, fun j hj => World.ownsRow.cellAt h' j (by omega), fun j => World.ownsRow.frozenAt h' j⟩

/-- 'append(s, x)' on a slice that the call owns. -/
theorem append_one {P : Program} {W : World} {ops : Array Oper} {rest : List Oper} {o : Oper} {a : Act} {Q : Exit → Act → World → Prop} (hgd : o.guard = none) (s x : Operand) (t : TypeId)
    (ho : o.op = .call { callee := .builtin .append, args := #[s, x], argTypes := #[t, t] })
    (base : Nat) (e : TypeId) (i : TypeInfo) (z : Value) (bytes : Nat) (ht : P.underlying t = some (.slice e)) (hi : P.info? e = some i) (hz : i.zero = some z)
    (hsize : i.size = 1) (hby : i.bytes = bytes) (hzs : z.cells.size = 1) (hb16 : bytes ≤ 24)
    (v : Value) (xs : List Value) (hs : a.eval s = v) (hown : Row W base e v xs)
    (u : Value) (hu : u.oneCell' = true) (hx : a.eval x = .slice (some ⟨W.heap.size, 0, none⟩) 1 1)
    (hn : xs.length ≤ 1099511627776) (hbase : base ≤ W.heap.size)
    (h : ∀ v' w', Row w' base e v' (xs ++ [u]) → Below base W w' → wpList P ops Q rest (a.put o.dst v') w') : wpList P ops Q (o :: rest) a (W.alloc (.cells #[u] e)) := by
  refine wpList_append_own (W.alloc (.cells #[u] e)) hgd s x t ho base e i z 1 bytes ht hi hz hsize hby hzs (by decide) v xs.length xs hs (hown.alloc _) ⟨W.heap.size, 0, none⟩ 1 1 [u] hx rfl ?_ ?_ ?_ ?_ ?_ ?_
  · intro j y hj
    match j, hj with
    | 0, hj => simp at hj; subst hj; simp [Addr.add]
  · intro y hy; simp at hy; subst hy; exact hu
  · unfold maxLen; omega
  · have : (xs.length + 1) * bytes ≤ (xs.length + 1) * 24 := Nat.mul_le_mul_left _ hb16
    omega
  · simp; omega
  · intro v' w' hown' hg _
    refine h v' w' ?_ ?_
    · show w'.ownsRow base e 1 v' (xs ++ [u]).length (xs ++ [u])
      rw [List.length_append]
      exact hown'
    · exact ((Below.refl base W).alloc hbase _).grown hg (by simp; omega) (fun k hk => hown.ge k hk)

theorem Row.others {w w' : World} {base B : Nat} {e : TypeId} {v : Value} {xs : List Value} (h : Row w base e v xs) (hb : ∀ j, j ≠ B → w'.heap[j]? = w.heap[j]?) (hB : B < base) : Row w' base e v xs := by
  refine ⟨h.1, ?_⟩
  rcases h.2 with hn | ⟨g, cap, cur, rfl, h1, h2, h3⟩
  · exact .inl hn
  · exact .inr ⟨g, cap, cur, rfl, h1, by rw [hb g (by omega)]; exact h2, h3⟩

/-- The next rune of a range over a text, in whatever world; the world behind it under a name of its own. -/
theorem next_in {P : Program} (s : ByteArray) (pos B : Nat) (wr : World) (hk : wr.heap[B]? = some (.stringIter s pos)) (h : pos < s.size) :
    ∃ (r : Int) (n : Nat) (wn : World), 0 ≤ r ∧ r ≤ 2147483647 ∧ 1 ≤ n ∧ RuneAt s pos r n ∧
      (∀ ty, (Instr.next (.pointer (some ⟨B, 0, none⟩)) true ty).run P wr = .ok (.tuple #[.bool true, .int .i64 pos, .int .i32 r]) wn) ∧
      wr.heap.size ≤ wn.heap.size ∧ Hid (wn.heap[B]? = some (.stringIter s (pos + n)) ∧ Below B wr wn ∧ ∀ j, j ≠ B → wn.heap[j]? = wr.heap[j]?) := by
  obtain ⟨h1, h2, h3, h4, h5⟩ := rune_at s pos h
  refine ⟨(Utf8.decode s pos).1, (Utf8.decode s pos).2, wr.iterAt B s (pos + (Utf8.decode s pos).2), by omega, by have := decode_le s pos; omega, h1, ⟨h2, ?_, ?_, h5⟩,
    fun ty => Lib.run_next_any_at wr B s pos ty hk h, by rw [Lib.iterAt_size]; exact Nat.le_refl _, Lib.hid ⟨Lib.iterAt_heap wr B s pos _ hk, Lib.below_iterAt (Below.refl _ _) (Nat.le_refl _) _ _, fun j hj => Lib.iterAt_other wr B j s _ hj⟩⟩
  · intro x _
    have := h3 (by omega)
    exact ⟨by rw [this.1], this.2⟩
  · intro x _
    exact h4 (by omega)
theorem next_none {P : Program} (s : ByteArray) (pos B : Nat) (wr : World) (hk : wr.heap[B]? = some (.stringIter s pos)) (h : ¬ pos < s.size) :
    ∀ ty, (Instr.next (.pointer (some ⟨B, 0, none⟩)) true ty).run P wr = .ok (.tuple #[.bool false]) wr :=
  fun ty => Lib.run_next_end_at wr B s pos ty hk h

/-- 'string([]byte{n})'; the byte under a name of its own. -/
theorem one_byte {P : Program} (W : World) (src dst e : TypeId) (hs : P.underlying src = some (.slice e)) (he : P.underlying e = some (.int .u8)) (hd : P.underlying dst = some .string) (n : Int) (h0 : 0 ≤ n) (h1 : n < 256) :
    ∃ c : UInt8, Hid ((c.toNat : Int) = n) ∧ (convert src dst (.slice (some ⟨W.heap.size, 0, none⟩) 1 1)).run P (W.alloc (.cells #[.int .u8 n] e)) = .ok (.string ⟨#[c]⟩) (W.alloc (.cells #[.int .u8 n] e)) := by
  have e1 : ((UInt8.ofNat n.toNat).toNat : Int) = n := by
    rw [UInt8.toNat_ofNat']
    omega
  refine ⟨UInt8.ofNat n.toNat, Lib.hid e1, ?_⟩
  refine run_convert_bytes_back (P := P) (W.alloc (.cells #[.int .u8 n] e)) src dst e ⟨W.heap.size, 0, none⟩ 1 [UInt8.ofNat n.toNat] hs he hd ?_
  intro j hj
  match j, hj with
  | 0, _ =>
    show _ = some (Value.int .u8 ((UInt8.ofNat n.toNat).toNat : Int))
    rw [e1]
    simp [Addr.add]

/-- The cell of an owned row at a place. -/
theorem Row.at {w : World} {base : Nat} {e : TypeId} {v : Value} {xs : List Value} (h : Row w base e v xs) (hne : xs ≠ []) :
    ∃ g cap, v = .slice (some ⟨g, 0, none⟩) xs.length cap ∧ base ≤ g ∧ g < w.heap.size ∧ xs.length ≤ cap ∧ cap ≤ maxLen ∧
      (∀ j x, xs[j]? = some x → w.cell? ⟨g, j, none⟩ = some x) ∧ ∀ j, w.frozen? ⟨g, j, none⟩ = false := by
  rcases h.shape with ⟨_, hn⟩ | ⟨g, cap, hv, h1, h2, h3, h4, h5, h6⟩
  · exact absurd hn hne
  · exact ⟨g, cap, hv, h1, h2, h3, h4, fun j x hx => by rw [h5 j (List.getElem?_eq_some_iff.1 hx).1]; exact hx, h6⟩
theorem Row.empty {w : World} {base : Nat} {e : TypeId} {v : Value} (h : Row w base e v []) : ∃ a cap, v = .slice a 0 cap := by
  rcases h.shape with ⟨hv, _⟩ | ⟨g, cap, hv, _⟩
  · exact ⟨_, _, hv⟩
  · exact ⟨_, _, hv⟩

theorem grown_refl (w : World) (r : Option Nat) : w.grownBy w r := ⟨rfl, rfl, rfl, Nat.le_refl _, fun _ _ _ => rfl⟩
theorem grown_trans {a b c : World} {r : Option Nat} (h : a.grownBy b r) (k : b.grownBy c r) : a.grownBy c r :=
  ⟨k.os.trans h.os, k.tape.trans h.tape, k.output.trans h.output, Nat.le_trans h.size k.size, fun i hi hr => (k.block i (Nat.lt_of_lt_of_le hi h.size) hr).trans (h.block i hi hr)⟩
theorem grown_of_below {w w' : World} (h : Below w.heap.size w w') (r : Option Nat) : w.grownBy w' r := ⟨h.os, h.tape, h.output, h.size, fun k hk _ => h.block k hk⟩
theorem below_of_grown {B : Nat} {w w' : World} {r : Option Nat} (h : w.grownBy w' r) (hB : B ≤ w.heap.size) (hr : ∀ k, r = some k → B ≤ k) : Below B w w' := (Below.refl B w).grown h hB hr
theorem Row.grown {w w' : World} {base : Nat} {e : TypeId} {v : Value} {xs : List Value} {r : Option Nat} (h : Row w base e v xs) (hg : w.grownBy w' r) (hne : v.ownBlock = none ∨ v.ownBlock ≠ r) : Row w' base e v xs := World.ownsRow.kept h hg hne
theorem Row.stored {w : World} {base g cap n : Nat} {e : TypeId} {xs : List Value} (h : Row w base e (.slice (some ⟨g, 0, none⟩) n cap) xs) (hn : n = xs.length) (j : Nat) (u : Value) :
    Row (w.setCell ⟨g, j, none⟩ u) base e (.slice (some ⟨g, 0, none⟩) n cap) (xs.set j u) ∧ w.grownBy (w.setCell ⟨g, j, none⟩ u) (some g) := by
  subst hn
  obtain ⟨h1, h2⟩ := World.ownsRow.stored h j u
  refine ⟨?_, h2⟩
  show (w.setCell ⟨g, j, none⟩ u).ownsRow base e 1 _ (xs.set j u).length _
  rw [List.length_set]
  exact h1

/-- Two rows, the one laid before the other: their blocks are not one. -/
theorem Row.apart {w w' : World} {b b' : Nat} {e e' : TypeId} {v v' : Value} {xs ys : List Value} (h : Row w b e v xs) (h' : Row w' b' e' v' ys) (hb : w.heap.size ≤ b') : v.ownBlock = none ∨ v.ownBlock ≠ v'.ownBlock := by
  cases hv : v.ownBlock with
  | none => exact .inl rfl
  | some k =>
    refine .inr fun e => ?_
    have h1 := h.lt k hv
    have h2 := h'.ge k e.symm
    omega

/-- A row's value is a slice of its list's length. -/
theorem Row.slice {α : Type} {w : World} {b : Nat} {e : TypeId} {v : Value} {f : α → Value} {xs : List α} (h : Row w b e v (xs.map f)) : ∃ a cap, v = .slice a xs.length cap := by
  rcases h.shape with ⟨hv, he⟩ | ⟨g, cap, hv, _⟩
  · have : xs = [] := by simpa using he
    subst this
    exact ⟨_, _, hv⟩
  · rw [List.length_map] at hv
    exact ⟨_, _, hv⟩

/-- A slice that reads as a list of one-cell values, wherever it lies. -/
def Vals (w : World) (v : Value) (xs : List Value) : Prop :=
  ∃ a cap, v = .slice a xs.length cap ∧ (xs = [] ∨ ∃ g off, a = some ⟨g, off, none⟩ ∧ g < w.heap.size ∧ ∀ j x, xs[j]? = some x → w.cell? ⟨g, off + j, none⟩ = some x)
theorem Vals.kept {w w' : World} {v : Value} {xs : List Value} (h : Vals w v xs) (hb : Below w.heap.size w w') : Vals w' v xs := by
  obtain ⟨a, cap, hv, h | ⟨g, off, ha, hg, hc⟩⟩ := h
  · exact ⟨a, cap, hv, .inl h⟩
  · exact ⟨a, cap, hv, .inr ⟨g, off, ha, Nat.lt_of_lt_of_le hg hb.size, fun j x hx => (hb.cell (p := ⟨g, off + j, none⟩) hg).trans (hc j x hx)⟩⟩
theorem Row.vals {w : World} {b : Nat} {e : TypeId} {v : Value} {xs : List Value} (h : Row w b e v xs) : Vals w v xs := by
  rcases h.shape with ⟨hv, he⟩ | ⟨g, cap, hv, h1, h2, h3, h4, h5, h6⟩
  · subst he; exact ⟨_, _, hv, .inl rfl⟩
  · refine ⟨_, cap, hv, .inr ⟨g, 0, rfl, h2, fun j x hx => ?_⟩⟩
    rw [Nat.zero_add, h5 j (List.getElem?_eq_some_iff.1 hx).1]
    exact hx
/-- What a slice of strings that came in reads as: the row's own words. -/
def StrRow (w : World) (a : Option Addr) (len cap : Nat) (zs : List ByteArray) : Prop :=
  (a = none ∧ len = 0 ∧ cap = 0 ∧ zs = []) ∨
  ∃ x, a = some x ∧ len ≤ cap ∧ cap ≤ maxLen ∧ zs.length = cap ∧ (∀ i, i < zs.length → w.cell? (x.add i) = some (.string (zs.getD i ByteArray.empty))) ∧ ∀ s ∈ zs, s.size ≤ maxLen
/-- What a slice of integers that came in reads as. -/
def IntRow (w : World) (a : Option Addr) (len cap : Nat) (zs : List Int) : Prop :=
  (a = none ∧ len = 0 ∧ cap = 0 ∧ zs = []) ∨
  ∃ x, a = some x ∧ len ≤ cap ∧ cap ≤ maxLen ∧ zs.length = cap ∧ (∀ i, i < zs.length → w.cell? (x.add i) = some (.int .i64 (zs.getD i 0))) ∧ ∀ n ∈ zs, (Lit.int .i64 n).wf = true
theorem vals_of {α : Type} {f : α → Value} {d : α} {w : World} {x : Addr} {len cap : Nat} {zs : List α} (hl : len ≤ zs.length) (hc : ∀ i, i < zs.length → w.cell? (x.add i) = some (f (zs.getD i d))) :
    Vals w (.slice (some x) len cap) ((zs.take len).map f) := by
  have hlen : ((zs.take len).map f).length = len := by simp; omega
  by_cases h0 : len = 0
  · subst h0
    exact ⟨some x, cap, by simp, .inl (by simp)⟩
  · obtain ⟨g, off, spot⟩ := x
    have c0 := hc 0 (by omega)
    have hspot : spot = none := by simpa [Addr.add] using World.cell?_spot c0
    subst hspot
    refine ⟨_, cap, by rw [hlen], .inr ⟨g, off, rfl, ?_, ?_⟩⟩
    · have := World.block_lt_of_cell? w _ c0
      simpa [Addr.add] using this
    · intro j y hy
      have hj : j < len := by have := (List.getElem?_eq_some_iff.1 hy).1; omega
      have := hc j (by omega)
      have hadd : (⟨g, off, none⟩ : Addr).add j = ⟨g, off + j, none⟩ := by unfold Addr.add; split <;> simp_all
      rw [hadd] at this
      rw [this]
      rw [List.getElem?_map, List.getElem?_take_of_lt hj, List.getElem?_eq_getElem (by omega)] at hy
      rw [List.getD_eq_getElem?_getD, List.getElem?_eq_getElem (by omega)]
      simpa using hy
theorem StrRow.vals {w : World} {a : Option Addr} {len cap : Nat} {zs : List ByteArray} (h : StrRow w a len cap zs) :
    Vals w (.slice a len cap) ((zs.take len).map .string) ∧ (∀ s ∈ zs.take len, s.size ≤ maxLen) ∧ (zs.take len).length = len ∧ len ≤ maxLen := by
  rcases h with ⟨rfl, rfl, rfl, rfl⟩ | ⟨x, rfl, hl, hm, hz, hc, hs⟩
  · exact ⟨⟨none, 0, rfl, .inl rfl⟩, by simp, rfl, Nat.zero_le _⟩
  · exact ⟨vals_of (by omega) hc, fun s h => hs s (List.mem_of_mem_take h), by simp; omega, by omega⟩
theorem IntRow.vals {w : World} {a : Option Addr} {len cap : Nat} {zs : List Int} (h : IntRow w a len cap zs) :
    Vals w (.slice a len cap) ((zs.take len).map (.int .i64)) ∧ (∀ n ∈ zs.take len, (Lit.int .i64 n).wf = true) ∧ (zs.take len).length = len ∧ len ≤ maxLen := by
  rcases h with ⟨rfl, rfl, rfl, rfl⟩ | ⟨x, rfl, hl, hm, hz, hc, hs⟩
  · exact ⟨⟨none, 0, rfl, .inl rfl⟩, by simp, rfl, Nat.zero_le _⟩
  · exact ⟨vals_of (by omega) hc, fun s h => hs s (List.mem_of_mem_take h), by simp; omega, by omega⟩

/-- 'string(b)' of a slice of one byte, wherever it lies. -/
theorem one_byte_at {P : Program} (src dst e : TypeId) (hs : P.underlying src = some (.slice e)) (he : P.underlying e = some (.int .u8)) (hd : P.underlying dst = some .string) (n : Int) (h0 : 0 ≤ n) (h1 : n < 256) :
    ∃ c : UInt8, Hid ((c.toNat : Int) = n) ∧ ∀ (W : World) (g : Nat), W.cell? ⟨g, 0, none⟩ = some (.int .u8 n) → (convert src dst (.slice (some ⟨g, 0, none⟩) 1 1)).run P W = .ok (.string ⟨#[c]⟩) W := by
  have e1 : ((UInt8.ofNat n.toNat).toNat : Int) = n := by
    rw [UInt8.toNat_ofNat']
    omega
  refine ⟨UInt8.ofNat n.toNat, Lib.hid e1, fun W g hc => ?_⟩
  refine run_convert_bytes_back (P := P) W src dst e ⟨g, 0, none⟩ 1 [UInt8.ofNat n.toNat] hs he hd ?_
  intro j hj
  match j, hj with
  | 0, _ =>
    show _ = some (Value.int .u8 ((UInt8.ofNat n.toNat).toNat : Int))
    rw [e1]
    simpa [Addr.add] using hc
end Go.Proofs.Ytokndpmoamjbfaa

