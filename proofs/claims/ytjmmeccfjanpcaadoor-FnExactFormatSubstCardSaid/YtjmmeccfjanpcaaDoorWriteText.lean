/-
  The text of a term written into a builder (writeText); FormatTerm of the program.
-/
import Derived.Test.YtjmmeccfjanpcaaDoorWriter
namespace Go.Proofs.YtjmmeccfjanpcaaDoor
open Go.RowKit
set_option linter.unusedVariables false
set_option linter.unusedSimpArgs false

/-- Blocks of terms stay as they are. -/
structure TKeep (w w' : World) : Prop where
  size : w.heap.size ≤ w'.heap.size
  block : ∀ k, k < w.heap.size → ∀ xs, w.heap[k]? = some (Obj.cells xs 43 (0, 0)) → w'.heap[k]? = w.heap[k]?
theorem TKeep.refl (w : World) : TKeep w w := ⟨Nat.le_refl _, fun _ _ _ _ => rfl⟩
theorem TKeep.trans {a b c : World} (h : TKeep a b) (k : TKeep b c) : TKeep a c :=
  ⟨Nat.le_trans h.size k.size, fun i hi xs hx => (k.block i (Nat.lt_of_lt_of_le hi h.size) xs ((h.block i hi xs hx).trans hx)).trans (h.block i hi xs hx)⟩
theorem TKeep.of_below {w w' : World} (h : Below w.heap.size w w') : TKeep w w' := ⟨h.size, fun k hk _ _ => h.block k hk⟩
theorem TKeep.grown {w w' : World} {g : Option Nat} (h : w.grownBy w' g) (hg : ∀ k, g = some k → ∃ xs e fr, w.heap[k]? = some (Obj.cells xs e fr) ∧ ¬ e = 43) : TKeep w w' :=
  ⟨h.size, fun k hk xs hx => h.block k hk fun e => by
    obtain ⟨ys, e2, fr, h1, h2⟩ := hg k e.symm
    rw [hx] at h1
    simp only [Option.some.injEq, Obj.cells.injEq] at h1
    exact h2 h1.2.1.symm⟩
theorem grown_set1 (w : World) (p j : Nat) (u : Value) : w.grownBy (w.setCell ⟨p, j, none⟩ u) (some p) :=
  ⟨rfl, rfl, rfl, by simp [World.setCell], fun k _ hk => Below.heap_setCell _ _ _ _ (fun e => hk (by rw [e]))⟩
theorem TKeep.set {w : World} {b j : Nat} {u : Value} {xs : Array Value} {e : TypeId} {fr : Nat × Nat} (h : w.heap[b]? = some (Obj.cells xs e fr)) (hne : ¬ e = 43) : TKeep w (w.setCell ⟨b, j, none⟩ u) :=
  TKeep.grown (grown_set1 w b j u) fun k hk => by cases hk; exact ⟨xs, e, fr, h, hne⟩
theorem own_type {w : World} {B : Nat} {e : TypeId} {v : Value} {n : Nat} {xs : List Value} (h : w.ownsRow B e 1 v n xs) (hne : ¬ e = 43) : ∀ k, v.ownBlock = some k → ∃ xs e fr, w.heap[k]? = some (Obj.cells xs e fr) ∧ ¬ e = 43 := by
  intro k hk
  rcases h.2 with ⟨hv, _⟩ | ⟨g, cap, cur, hv, h1, h2, h3⟩
  · subst hv; simp [Value.ownBlock] at hk
  · subst hv
    simp only [Value.ownBlock, Option.some.injEq] at hk
    subst hk
    exact ⟨cur, e, _, h2, hne⟩
theorem At.tkeep {w w' : World} {lo hi b : Nat} {xs : Array Value} (h : At w lo hi (BoxP b xs 43)) (hk : TKeep w w') (hb : b < hi) : At w' lo hi (BoxP b xs 43) :=
  ⟨(hk.block b (Nat.lt_of_lt_of_le hb h.le) xs h.now).trans h.now, h.stays, Nat.le_trans h.le hk.size⟩

set_option maxHeartbeats 1000000 in
set_option maxRecDepth 100000 in
theorem copyCheck_t (B b : Nat) (bs : List Value) (w : World) (h : Lib.IsBuilder 76 5 B b bs w) :
    Calls Tryd.prog 64 #[.pointer (some ⟨b, 0, none⟩)] w fun e w' => e = .returned (.tuple #[]) ∧ (Lib.BuilderAt 76 5 B b (.pointer (some ⟨b, 0, none⟩)) bs w' ∧ Below B w w') ∧ TKeep w w' := by
  rcases h with h | h
  · refine (copyCheck_fresh b w h.cell0 h.shape h.frozen0).mono ?_
    rintro e w' ⟨rfl, rfl⟩
    refine ⟨rfl, ⟨h.used _, (Below.refl B w).setCell (p := ⟨b, 0, none⟩) h.1 _⟩, ?_⟩
    obtain ⟨_, v, hb, _⟩ := h
    exact TKeep.set hb (by decide)
  · refine (copyCheck_used b w h.cell0).mono ?_
    rintro e w' ⟨rfl, rfl⟩
    exact ⟨rfl, ⟨h, Below.refl B _⟩, TKeep.refl _⟩

set_option maxHeartbeats 2000000 in
set_option maxRecDepth 100000 in
theorem writeString_t (B b : Nat) (bs : List Value) (s : ByteArray) (w : World) (h : Lib.IsBuilder 76 5 B b bs w) (hlen : bs.length + s.size ≤ 140737488355328) (hBw : B ≤ w.heap.size) :
    Calls Tryd.prog 44 #[.pointer (some ⟨b, 0, none⟩), .string s] w fun e w' => e = .returned (.tuple #[.int .i64 s.size, .nilIface]) ∧
      (Lib.IsBuilder 76 5 B b (bs ++ Lib.strCells s) w' ∧ Below B w w') ∧ TKeep w w' := by
  obtain ⟨i0, hi, hz0, hz1, hz2⟩ := info_parts infoByte
  have H := Lib.hid (copyCheck_t B b bs w h)
  go_enter Tryd.func44, Tryd.ntmps44
  go_wp2_with fail
  refine H.out.mono ?_
  rintro e w1 ⟨rfl, ⟨h1, hb1⟩, hk1⟩
  have HK1 := Lib.hid hk1
  clear hk1
  obtain ⟨hB, v, hbk, hown, hne⟩ := h1
  have c0 : w1.cell? ⟨b, 0, none⟩ = some (.pointer (some ⟨b, 0, none⟩)) := by rw [Lib.cell_of_heap hbk]; rfl
  have c1 : w1.cell? ⟨b, 1, none⟩ = some v := by rw [Lib.cell_of_heap hbk]; rfl
  go_wp2_with (at_builtin; refine Lib.wpList_append_own_string _ rfl _ _ 68 9 rfl B 5 i0 Tryd.underlying68 Tryd.underlying9 hi hz0 hz1 hz2 _ _ _ rfl hown s rfl ?c3 ?c4 ?c5 ?_)
  case c3 => unfold maxLen; omega
  case c4 => omega
  case c5 => have := hb1.size; omega
  intro v' w2 hown' hgrow _
  have hlt : b < w1.heap.size := by
    rcases Nat.lt_or_ge b w1.heap.size with h' | h'
    · exact h'
    · simp [Array.getElem?_eq_none h'] at hbk
  have hb2 : w2.heap[b]? = some (.cells #[.pointer (some ⟨b, 0, none⟩), v] 76 (0, 0)) := by
    rw [hgrow.block b hlt (fun e => hne e.symm)]
    exact hbk
  have HK2 := Lib.hid (HK1.out.trans (TKeep.grown hgrow (own_type hown (by decide))))
  have d0 : w2.cell? ⟨b, 0, none⟩ = some (.pointer (some ⟨b, 0, none⟩)) := by rw [Lib.cell_of_heap hb2]; rfl
  have d1 : w2.cell? ⟨b, 1, none⟩ = some v := by rw [Lib.cell_of_heap hb2]; rfl
  have f1 : w2.frozen? ⟨b, 1, none⟩ = false := Lib.frozen_of_heap hb2 1
  obtain ⟨ao, n', cap, rfl⟩ : ∃ ao n' cap, v' = .slice ao n' cap := by
    rcases hown'.2 with ⟨hv, _⟩ | ⟨g, cap, cur, hv, _⟩
    · exact ⟨_, _, _, hv⟩
    · exact ⟨_, _, _, hv⟩
  have HOB := Lib.hid hown'
  have HG := Lib.hid hgrow
  have HB2 := Lib.hid hb2
  clear hown' hgrow hb2
  go_wp2
  go_ret2
  refine ⟨rfl, ⟨.inr ?_, ?_⟩, ?_⟩
  · exact Lib.BuilderAt.put (T := 76) (e := 5) hB HB2.out (bs' := bs ++ Lib.strCells s) (by simpa [Lib.strCells_length] using HOB.out) (by decide)
  · exact (hb1.grown HG.out (by have := hb1.size; omega) (fun k hk => (hown.lt k hk).1)).setCell (p := ⟨b, 1, none⟩) hB _
  · exact HK2.out.trans (TKeep.set HB2.out (by decide))

set_option maxHeartbeats 2000000 in
set_option maxRecDepth 100000 in
theorem writeByte_t (B b : Nat) (bs : List Value) (c : Int) (w : World) (h : Lib.IsBuilder 76 5 B b bs w) (hlen : bs.length + 1 ≤ 1099511627776) (hBw : B ≤ w.heap.size) :
    Calls Tryd.prog 61 #[.pointer (some ⟨b, 0, none⟩), .int .u8 c] w fun e w' => e = .returned .nilIface ∧
      (Lib.IsBuilder 76 5 B b (bs ++ [.int .u8 c]) w' ∧ Below B w w') ∧ TKeep w w' := by
  obtain ⟨i0, hi, hz0, hz1, hz2⟩ := info_parts infoByte
  have H := Lib.hid (copyCheck_t B b bs w h)
  go_enter Tryd.func61, Tryd.ntmps61
  go_wp2_with fail
  refine H.out.mono ?_
  rintro e w1 ⟨rfl, ⟨h1, hb1⟩, hk1⟩
  have HK1 := Lib.hid hk1
  clear hk1
  obtain ⟨hB, v, hbk, hown, hne⟩ := h1
  have c0 : w1.cell? ⟨b, 0, none⟩ = some (.pointer (some ⟨b, 0, none⟩)) := by rw [Lib.cell_of_heap hbk]; rfl
  have c1 : w1.cell? ⟨b, 1, none⟩ = some v := by rw [Lib.cell_of_heap hbk]; rfl
  have hsz := hb1.size
  have hlt : b < w1.heap.size := by
    rcases Nat.lt_or_ge b w1.heap.size with h' | h'
    · exact h'
    · simp [Array.getElem?_eq_none h'] at hbk
  have HOWN := Lib.hid hown
  have HBK := Lib.hid hbk
  have HNE := Lib.hid hne
  have HB1 := Lib.hid hb1
  clear hown hbk hne hb1 H
  go_wp2_with (at_builtin; refine wpList_append_lies _ rfl _ _ 68 rfl B 5 i0 _ 1 1 Tryd.underlying68 hi hz0 hz1 hz2 rfl (by decide) v bs.length bs rfl (HOWN.out.alloc _) ⟨w1.heap.size, 0, none⟩ 1 1 [.int .u8 c] rfl rfl (World.news_of_block (heap_alloc_new w1 _)) (by simp [Value.oneCell']) (by decide) (by unfold maxLen; omega) (by omega) (by simp <;> omega) (w1.heap.size + 1) (by simp) ?_; intro gg cap' w2 hown2 hgrow hat hlt2; have HAP := Lib.hid (And.intro hown2 (And.intro hgrow (And.intro hat hlt2))); have hb2 : w2.heap[b]? = some (.cells #[.pointer (some ⟨b, 0, none⟩), v] 76 (0, 0)) := (hgrow.block b (by simp <;> omega) (fun e => HNE.out e.symm)).trans ((Below.heap_alloc w1 _ b hlt).trans HBK.out); have d0 : w2.cell? ⟨b, 0, none⟩ = some (.pointer (some ⟨b, 0, none⟩)) := (by rw [Lib.cell_of_heap hb2]; rfl); have d1 : w2.cell? ⟨b, 1, none⟩ = some v := (by rw [Lib.cell_of_heap hb2]; rfl); have f1 : w2.frozen? ⟨b, 1, none⟩ = false := Lib.frozen_of_heap hb2 1; have HB2 := Lib.hid hb2; clear hown2 hgrow hat hlt2 hb2)
  go_wp2
  go_ret
  refine ⟨rfl, ⟨.inr ?_, ?_⟩, ?_⟩
  · exact Lib.BuilderAt.put (T := 76) (e := 5) hB HB2.out (bs' := bs ++ [.int .u8 c]) (by simpa using HAP.out.1) (by decide)
  · exact ((HB1.out.alloc (by omega) _).grown HAP.out.2.1 (by simp <;> omega) (fun k hk => (HOWN.out.lt k hk).1)).setCell (p := ⟨b, 1, none⟩) hB _
  · exact ((HK1.out.trans (TKeep.of_below (belowAlloc (Below.refl _ _) _))).trans (TKeep.grown HAP.out.2.1 (own_type (HOWN.out.alloc _) (by decide)))).trans (TKeep.set HB2.out (by decide))

/-- A builder, blocks from B on, that holds a text. -/
structure Wbd (B b : Nat) (s : ByteArray) (w : World) : Prop where
  is : Lib.IsBuilder 76 5 B b (Lib.strCells s) w
  le : B ≤ w.heap.size
theorem Wbd.below {B b : Nat} {s : ByteArray} {w w' : World} (h : Wbd B b s w) (hb : Below w.heap.size w w') : Wbd B b s w' := ⟨isB_kept h.is hb, Nat.le_trans h.le hb.size⟩
theorem Wbd.only {B b k : Nat} {s : ByteArray} {w w' : World} {xs : Array Value} (h : Wbd B b s w) (ho : Only (iv k (k + 1)) w w') (hx : w.heap[k]? = some (Obj.cells xs 43 (0, 0))) : Wbd B b s w' := by
  refine ⟨?_, Nat.le_trans h.le ho.size⟩
  have keep : ∀ (i : Nat) (ys : Array Value) (e : TypeId) (fr : Nat × Nat), w.heap[i]? = some (Obj.cells ys e fr) → ¬ e = 43 → w'.heap[i]? = w.heap[i]? := by
    intro i ys e fr hi hne
    refine ho.block i (Array.getElem?_eq_some_iff.1 hi).1 fun hk => ?_
    have : i = k := by have h1 := hk.1; have h2 := hk.2; omega
    subst this
    rw [hx] at hi
    simp only [Option.some.injEq, Obj.cells.injEq] at hi
    exact hne hi.2.1.symm
  have key : ∀ p, Lib.BuilderAt 76 5 B b p (Lib.strCells s) w → Lib.BuilderAt 76 5 B b p (Lib.strCells s) w' := by
    rintro p ⟨h1, v, h2, h3, h4⟩
    refine ⟨h1, v, (keep b _ _ _ h2 (by decide)).trans h2, ⟨h3.1, ?_⟩, h4⟩
    rcases h3.2 with hn | ⟨g, cap, cur, rfl, k1, k2, k3⟩
    · exact .inl hn
    · exact .inr ⟨g, cap, cur, rfl, k1, (keep g _ _ _ k2 (by decide)).trans k2, k3⟩
  exact h.is.imp (key _) (key _)
theorem strCells_one (s : ByteArray) (c : UInt8) : Lib.strCells s ++ [.int .u8 (c.toNat : Int)] = Lib.strCells (s ++ ⟨#[c]⟩) := by
  rw [strCells_append]; rfl
/-- One string, one byte written. -/
def Wrote (B b : Nat) (s : ByteArray) (w w' : World) : Prop := Wbd B b s w' ∧ Below B w w' ∧ TKeep w w'
theorem wr_string (B b : Nat) (s x : ByteArray) (w : World) (h : Wbd B b s w) (hs : s.size ≤ 1000000) (hx : x.size ≤ 1000000) :
    Calls Tryd.prog 44 #[.pointer (some ⟨b, 0, none⟩), .string x] w fun e w' => e = .returned (.tuple #[.int .i64 x.size, .nilIface]) ∧ Wrote B b (s ++ x) w w' := by
  refine (writeString_t B b _ x w h.is (by rw [Lib.strCells_length]; omega) h.le).mono ?_
  rintro e w' ⟨rfl, ⟨h1, h2⟩, h3⟩
  exact ⟨rfl, ⟨by rw [strCells_append]; exact h1, Nat.le_trans h.le h2.size⟩, h2, h3⟩
theorem wr_byte (B b : Nat) (s : ByteArray) (c : UInt8) (k : Int) (hk : k = (c.toNat : Int)) (w : World) (h : Wbd B b s w) (hs : s.size ≤ 1000000) :
    Calls Tryd.prog 61 #[.pointer (some ⟨b, 0, none⟩), .int .u8 k] w fun e w' => e = .returned .nilIface ∧ Wrote B b (s ++ ⟨#[c]⟩) w w' := by
  subst hk
  refine (writeByte_t B b _ _ w h.is (by rw [Lib.strCells_length]; omega) h.le).mono ?_
  rintro e w' ⟨rfl, ⟨h1, h2⟩, h3⟩
  exact ⟨rfl, ⟨by rw [← strCells_one]; exact h1, Nat.le_trans h.le h2.size⟩, h2, h3⟩
end Go.Proofs.YtjmmeccfjanpcaaDoor

