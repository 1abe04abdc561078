/-
  Rows of structs, over whatever element: what a slice of them reads as (its blocks in a set), what a call owns; how one is appended, exchanged, written. The element: so many cells, over the value of the slice that it holds; what that slice reads as, what it is where it is owned.
  The laws' helpers on bindings: szBinding, szBindingS, toBinding, toBindingS, eqBinding, eqBindingS, markBindingS, heldBindingS.
-/
import Derived.Test.YtnmdnajbafpfiaaPuts
import Derived.Test.YtnmdnajbafpfiaaLaws
namespace Go.Proofs.Ytnmdnajbafpfiaa
open Go.RowKit
set_option linter.unusedVariables false
set_option linter.unusedSimpArgs false

structure El (α : Type) where
  n : Nat
  cells : α → Value → List Value
  kid : World → (Nat → Prop) → Value → α → Prop
  own : World → (Nat → Prop) → Value → α → Prop
  pos : 0 < n
  len : ∀ x U, (cells x U).length = n
  kidFrame : ∀ {w w' : World} {S : Nat → Prop} {U : Value} {x : α}, kid w S U x → w.heap.size ≤ w'.heap.size → (∀ k, S k → k < w.heap.size → w'.heap[k]? = w.heap[k]?) → kid w' S U x
  kidSub : ∀ {w : World} {S S' : Nat → Prop} {U : Value} {x : α}, kid w S U x → (∀ k, S k → S' k) → kid w S' U x
  ownFrame : ∀ {w w' : World} {S : Nat → Prop} {U : Value} {x : α}, own w S U x → (∀ k, S k → k < w.heap.size → w'.heap[k]? = w.heap[k]?) → own w' S U x
  ownSub : ∀ {w : World} {S S' : Nat → Prop} {U : Value} {x : α}, own w S U x → (∀ k, S k → S' k) → own w S' U x
  ownKid : ∀ {w : World} {S : Nat → Prop} {U : Value} {x : α}, own w S U x → kid w S U x

def cellsE {α : Type} (E : El α) (L : List (α × Value)) : List Value := L.flatMap fun p => E.cells p.1 p.2
theorem cellsE_cons {α : Type} (E : El α) (p : α × Value) (L : List (α × Value)) : cellsE E (p :: L) = E.cells p.1 p.2 ++ cellsE E L := by simp [cellsE]
theorem cellsE_length {α : Type} (E : El α) (L : List (α × Value)) : (cellsE E L).length = L.length * E.n := by
  induction L with
  | nil => simp [cellsE]
  | cons p L ih => rw [cellsE_cons, List.length_append, E.len, ih, List.length_cons, Nat.add_mul]; omega
theorem cellsE_append {α : Type} (E : El α) (L M : List (α × Value)) : cellsE E (L ++ M) = cellsE E L ++ cellsE E M := by simp [cellsE]
theorem cellsE_one {α : Type} (E : El α) (p : α × Value) : cellsE E [p] = E.cells p.1 p.2 := by simp [cellsE]
theorem cellsE_at {α : Type} {E : El α} {L : List (α × Value)} {j : Nat} {p : α × Value} (hj : L[j]? = some p) {i : Nat} {v : Value} (hi : (E.cells p.1 p.2)[i]? = some v) : (cellsE E L)[j * E.n + i]? = some v := by
  have hin : i < E.n := by have := (List.getElem?_eq_some_iff.1 hi).1; rwa [E.len] at this
  induction L generalizing j with
  | nil => simp at hj
  | cons x L ih =>
    rw [cellsE_cons]
    cases j with
    | zero =>
      simp at hj; subst hj
      rw [List.getElem?_append_left (by rw [E.len]; omega)]
      simpa using hi
    | succ j =>
      have h1 : (j + 1) * E.n = j * E.n + E.n := Nat.succ_mul j E.n
      rw [List.getElem?_append_right (by rw [E.len]; omega)]
      have : (j + 1) * E.n + i - (E.cells x.1 x.2).length = j * E.n + i := by rw [E.len]; omega
      rw [this]
      exact ih (by simpa using hj)

/-- So many cells written, from one on. -/
def setAll (w : World) (g : Nat) : Nat → List Value → World
  | _, [] => w
  | o, v :: vs => setAll (w.setCell ⟨g, o, none⟩ v) g (o + 1) vs
def setRange : List Value → Nat → List Value → List Value
  | xs, _, [] => xs
  | xs, o, v :: vs => setRange (xs.set o v) (o + 1) vs
theorem setRange_length : ∀ (vs xs : List Value) (o : Nat), (setRange xs o vs).length = xs.length
  | [], xs, o => rfl
  | v :: vs, xs, o => by rw [setRange, setRange_length, List.length_set]
theorem setRange_out : ∀ (vs xs : List Value) (o i : Nat), i < o ∨ o + vs.length ≤ i → (setRange xs o vs)[i]? = xs[i]?
  | [], xs, o, i, _ => rfl
  | v :: vs, xs, o, i, h => by
    rw [setRange, setRange_out vs _ _ i (by rw [List.length_cons] at h; omega), List.getElem?_set_ne (by rw [List.length_cons] at h; omega)]
theorem setRange_in : ∀ (vs xs : List Value) (o i : Nat), i < vs.length → o + i < xs.length → (setRange xs o vs)[o + i]? = vs[i]?
  | [], xs, o, i, h, _ => by simp at h
  | v :: vs, xs, o, 0, h, h2 => by
    rw [setRange, setRange_out vs _ _ _ (.inl (by omega)), Nat.add_zero, List.getElem?_set_self (by omega)]; rfl
  | v :: vs, xs, o, i + 1, h, h2 => by
    have := setRange_in vs (xs.set o v) (o + 1) i (by simpa using h) (by rw [List.length_set]; omega)
    rw [setRange, show o + (i + 1) = o + 1 + i from by omega, this]; rfl
theorem setAll_row {base : Nat} {e : TypeId} {size g n cap : Nat} : ∀ (vs xs : List Value) (o : Nat) (w : World), w.ownsRow base e size (.slice (some ⟨g, 0, none⟩) n cap) n xs →
    (setAll w g o vs).ownsRow base e size (.slice (some ⟨g, 0, none⟩) n cap) n (setRange xs o vs) ∧ w.grownBy (setAll w g o vs) (some g)
  | [], xs, o, w, h => ⟨h, ⟨rfl, rfl, rfl, Nat.le_refl _, fun _ _ _ => rfl⟩⟩
  | v :: vs, xs, o, w, h => by
    obtain ⟨h1, h2⟩ := World.ownsRow.stored h o v
    obtain ⟨h3, h4⟩ := setAll_row vs _ (o + 1) _ h1
    exact ⟨h3, ⟨h4.os.trans h2.os, h4.tape.trans h2.tape, h4.output.trans h2.output, Nat.le_trans h2.size h4.size, fun k hk hne => (h4.block k (Nat.lt_of_lt_of_le hk h2.size) hne).trans (h2.block k hk hne)⟩⟩
theorem cellsE_put {α : Type} {E : El α} {L : List (α × Value)} {j : Nat} (hj : j < L.length) (q : α × Value) : setRange (cellsE E L) (j * E.n) (E.cells q.1 q.2) = cellsE E (L.set j q) := by
  have hl := cellsE_length E L
  have hm : j * E.n + E.n ≤ L.length * E.n := by rw [← Nat.succ_mul]; exact Nat.mul_le_mul_right _ hj
  apply List.ext_getElem?
  intro i
  by_cases hi : i < L.length * E.n
  · have hd : i / E.n * E.n + i % E.n = i := by rw [Nat.mul_comm]; exact Nat.div_add_mod i E.n
    have hr : i % E.n < E.n := Nat.mod_lt _ E.pos
    have hq : i / E.n < L.length := Nat.div_lt_of_lt_mul (by rw [Nat.mul_comm]; exact hi)
    obtain ⟨p, hp⟩ : ∃ p, L[i / E.n]? = some p := ⟨_, List.getElem?_eq_getElem hq⟩
    by_cases hij : i / E.n = j
    · subst hij
      obtain ⟨v, hv⟩ : ∃ v, (E.cells q.1 q.2)[i % E.n]? = some v := ⟨_, List.getElem?_eq_getElem (by rw [E.len]; exact hr)⟩
      have h1 := setRange_in (E.cells q.1 q.2) (cellsE E L) (i / E.n * E.n) (i % E.n) (by rw [E.len]; exact hr) (by omega)
      have h2 := cellsE_at (E := E) (L := L.set (i / E.n) q) (j := i / E.n) (p := q) (by rw [List.getElem?_set_self hq]) hv
      rw [hd] at h1 h2
      rw [h1, h2, hv]
    · obtain ⟨v, hv⟩ : ∃ v, (E.cells p.1 p.2)[i % E.n]? = some v := ⟨_, List.getElem?_eq_getElem (by rw [E.len]; exact hr)⟩
      have h1 := cellsE_at hp hv
      have h2 := cellsE_at (E := E) (L := L.set j q) (j := i / E.n) (p := p) (by rw [List.getElem?_set_ne (fun e => hij e.symm)]; exact hp) hv
      rw [hd] at h1 h2
      rw [setRange_out _ _ _ _ ?_, h1, h2]
      rw [E.len]
      rcases Nat.lt_or_gt_of_ne hij with h | h
      · left
        have : (i / E.n + 1) * E.n ≤ j * E.n := Nat.mul_le_mul_right _ h
        rw [Nat.succ_mul] at this
        omega
      · right
        have : (j + 1) * E.n ≤ i / E.n * E.n := Nat.mul_le_mul_right _ h
        rw [Nat.succ_mul] at this
        omega
  · rw [List.getElem?_eq_none (by rw [setRange_length]; omega), List.getElem?_eq_none (by rw [cellsE_length, List.length_set]; omega)]

/-! ### What can be read -/
/-- A slice of structs, read wherever it lies; the blocks that it reaches. -/
inductive ListS {α : Type} (E : El α) (w : World) (S : Nat → Prop) : Value → List α → Prop
  | nil (a : Option Addr) (cap : Nat) : ListS E w S (.slice a 0 cap) []
  | row (g off n cap : Nat) (L : List (α × Value)) (l : List α) (hl : l = L.map Prod.fst) (hn : n = L.length) (hS : S g) (hg : g < w.heap.size)
      (hc : ∀ i v, (cellsE E L)[i]? = some v → w.cell? ⟨g, off + i, none⟩ = some v) (hr : ∀ (j : Nat) (p : α × Value), L[j]? = some p → E.kid w S p.2 p.1) : ListS E w S (.slice (some ⟨g, off, none⟩) n cap) l
def Any : Nat → Prop := fun _ => True

theorem ListS.slice {α : Type} {E : El α} {w : World} {S : Nat → Prop} {v : Value} {l : List α} (h : ListS E w S v l) : ∃ a cap, v = .slice a l.length cap := by
  cases h with
  | nil a cap => exact ⟨a, cap, rfl⟩
  | row g off n cap L l hl hn hS hg hc hr => subst hl; subst hn; exact ⟨_, cap, by rw [List.length_map]⟩
theorem ListS.sub {α : Type} {E : El α} {w : World} {S S' : Nat → Prop} {v : Value} {l : List α} (h : ListS E w S v l) (hS : ∀ k, S k → S' k) : ListS E w S' v l := by
  cases h with
  | nil a cap => exact .nil a cap
  | row g off n cap L l hl hn hs hg hc hr => exact .row g off n cap L l hl hn (hS g hs) hg hc fun j p hj => E.kidSub (hr j p hj) hS
theorem ListS.any {α : Type} {E : El α} {w : World} {S : Nat → Prop} {v : Value} {l : List α} (h : ListS E w S v l) : ListS E w Any v l := h.sub fun _ _ => trivial
theorem ListS.frame {α : Type} {E : El α} {w w' : World} {S : Nat → Prop} {v : Value} {l : List α} (h : ListS E w S v l) (hs : w.heap.size ≤ w'.heap.size) (hb : ∀ k, S k → k < w.heap.size → w'.heap[k]? = w.heap[k]?) : ListS E w' S v l := by
  cases h with
  | nil a cap => exact .nil a cap
  | row g off n cap L l hl hn hS hg hc hr =>
    exact .row g off n cap L l hl hn hS (Nat.lt_of_lt_of_le hg hs) (fun i v hv => (World.cell?_of_block (a := ⟨g, off + i, none⟩) (hb g hS hg)).trans (hc i v hv)) fun j p hj => E.kidFrame (hr j p hj) hs hb
theorem ListS.kept {α : Type} {E : El α} {w w' : World} {S : Nat → Prop} {v : Value} {l : List α} (h : ListS E w S v l) (hb : Below w.heap.size w w') : ListS E w' S v l := h.frame hb.size fun k _ hk => hb.block k hk
/-- One element: its cells in every later world, what it holds. -/
theorem ListS.elem {α : Type} {E : El α} {w : World} {S : Nat → Prop} {a : Option Addr} {n cap : Nat} {l : List α} (h : ListS E w S (.slice a n cap) l) {k : Nat} {x : α} (hx : l[k]? = some x) :
    ∃ g off U, a = some ⟨g, off, none⟩ ∧ S g ∧ g < w.heap.size ∧ n = l.length ∧ (∀ W, Below w.heap.size w W → ∀ i v, (E.cells x U)[i]? = some v → W.cell? ⟨g, off + k * E.n + i, none⟩ = some v) ∧ E.kid w S U x := by
  cases h with
  | nil => simp at hx
  | row g off n cap L l hl hn hS hg hc hr =>
    subst hl
    rw [List.getElem?_map] at hx
    obtain ⟨p, hp, rfl⟩ := Option.map_eq_some_iff.1 hx
    refine ⟨g, off, p.2, rfl, hS, hg, by rw [List.length_map]; exact hn, fun W hW i v hv => ?_, hr k p hp⟩
    rw [Nat.add_assoc]
    exact (hW.cell (p := ⟨g, off + (k * E.n + i), none⟩) hg).trans (hc _ _ (cellsE_at hp hv))
/-- A part of a slice. -/
theorem ListS.part {α : Type} {E : El α} {w : World} {S : Nat → Prop} {g off n cap : Nat} {l : List α} (h : ListS E w S (.slice (some ⟨g, off, none⟩) n cap) l) (lo hi cap' : Nat) (h1 : lo ≤ hi) (h2 : hi ≤ l.length) :
    ListS E w S (.slice (some ⟨g, off + lo * E.n, none⟩) (hi - lo) cap') ((l.take hi).drop lo) := by
  by_cases he : lo = hi
  · subst he
    rw [List.drop_of_length_le (by simp; omega), Nat.sub_self]
    exact .nil _ _
  · cases h with
    | nil => simp at h2; omega
    | row g off n cap L l hl hn hS hg hc hr =>
      subst hl
      rw [List.length_map] at h2
      refine .row g (off + lo * E.n) (hi - lo) cap' ((L.take hi).drop lo) _ (by rw [List.map_drop, List.map_take]) (by rw [List.length_drop, List.length_take]; omega) hS hg (fun i v hv => ?_) fun j p hj => ?_
      · have hlen := (List.getElem?_eq_some_iff.1 hv).1
        rw [cellsE_length, List.length_drop, List.length_take] at hlen
        rw [Nat.add_assoc]
        refine hc _ _ ?_
        have hd : i / E.n * E.n + i % E.n = i := by rw [Nat.mul_comm]; exact Nat.div_add_mod i E.n
        have hr' : i % E.n < E.n := Nat.mod_lt _ E.pos
        have hq : i / E.n < min hi L.length - lo := Nat.div_lt_of_lt_mul (by rw [Nat.mul_comm]; exact hlen)
        obtain ⟨p, hp⟩ : ∃ p, ((L.take hi).drop lo)[i / E.n]? = some p := ⟨_, List.getElem?_eq_getElem (by rw [List.length_drop, List.length_take]; exact hq)⟩
        obtain ⟨u, hu⟩ : ∃ u, (E.cells p.1 p.2)[i % E.n]? = some u := ⟨_, List.getElem?_eq_getElem (by rw [E.len]; exact hr')⟩
        have e1 := cellsE_at hp hu
        rw [hd, hv] at e1
        have hp2 : L[lo + i / E.n]? = some p := by
          rw [List.getElem?_drop, List.getElem?_take_of_lt (by omega)] at hp
          exact hp
        have e2 := cellsE_at hp2 hu
        rw [show (lo + i / E.n) * E.n + i % E.n = lo * E.n + i from by rw [Nat.add_mul]; omega] at e2
        rw [e2, e1]
      · refine hr (lo + j) p ?_
        have hjl := (List.getElem?_eq_some_iff.1 hj).1
        rw [List.length_drop, List.length_take] at hjl
        rwa [List.getElem?_drop, List.getElem?_take_of_lt (by omega)] at hj

/-! ### What a call owns -/
inductive ListO {α : Type} (E : El α) (e : TypeId) (w : World) (S : Nat → Prop) : Value → List α → Prop
  | nil : ListO E e w S (.slice none 0 0) []
  | row (g n cap : Nat) (L : List (α × Value)) (C : Nat → Nat → Prop) (l : List α) (hl : l = L.map Prod.fst) (hn : n = L.length) (hg : S g)
      (hown : w.ownsRow 0 e E.n (.slice (some ⟨g, 0, none⟩) n cap) n (cellsE E L)) (hr : ∀ (j : Nat) (p : α × Value), L[j]? = some p → E.own w (C j) p.2 p.1)
      (hC : ∀ j k, j < n → C j k → S k ∧ k ≠ g) (hd : ∀ i j k, i < n → j < n → C i k → C j k → i = j) : ListO E e w S (.slice (some ⟨g, 0, none⟩) n cap) l
theorem rowE_hit {e : TypeId} {size : Nat} {w : World} {g n cap : Nat} {xs : List Value} (h : w.ownsRow 0 e size (.slice (some ⟨g, 0, none⟩) n cap) n xs) : g < w.heap.size := (World.ownsRow.lt h g rfl).2
theorem rowE_moved {e : TypeId} {size base : Nat} {w w' : World} {v : Value} {n : Nat} {xs : List Value} (h : w.ownsRow base e size v n xs) (hb : ∀ k, v.ownBlock = some k → w'.heap[k]? = w.heap[k]?) : w'.ownsRow base e size v n xs := by
  refine ⟨h.1, ?_⟩
  rcases h.2 with hn | ⟨g', cap', cur, rfl, h1, h2, h3⟩
  · exact .inl hn
  · exact .inr ⟨g', cap', cur, rfl, h1, by rw [hb g' rfl]; exact h2, h3⟩
theorem ListO.sub {α : Type} {E : El α} {e : TypeId} {w : World} {S S' : Nat → Prop} {v : Value} {l : List α} (h : ListO E e w S v l) (hS : ∀ k, S k → S' k) : ListO E e w S' v l := by
  cases h with
  | nil => exact .nil
  | row g n cap L C l hl hn hg hown hr hC hd => exact .row g n cap L C l hl hn (hS g hg) hown hr (fun j k hj hk => ⟨hS k (hC j k hj hk).1, (hC j k hj hk).2⟩) hd
theorem ListO.frame {α : Type} {E : El α} {e : TypeId} {w w' : World} {S : Nat → Prop} {v : Value} {l : List α} (h : ListO E e w S v l) (hb : ∀ k, S k → k < w.heap.size → w'.heap[k]? = w.heap[k]?) : ListO E e w' S v l := by
  cases h with
  | nil => exact .nil
  | row g n cap L C l hl hn hg hown hr hC hd =>
    refine .row g n cap L C l hl hn hg (rowE_moved hown fun k hk => ?_) (fun j p hj => E.ownFrame (hr j p hj) fun k hk hks => hb k (hC j k ?_ hk).1 hks) hC hd
    · simp only [Value.ownBlock, Option.some.injEq] at hk
      subst hk
      exact hb _ hg (rowE_hit hown)
    · have := (List.getElem?_eq_some_iff.1 hj).1; omega
theorem ListO.kept {α : Type} {E : El α} {e : TypeId} {w w' : World} {S : Nat → Prop} {v : Value} {l : List α} (h : ListO E e w S v l) (hb : Below w.heap.size w w') : ListO E e w' S v l := h.frame fun k _ hk => hb.block k hk
theorem ListO.only {α : Type} {E : El α} {e : TypeId} {w w' : World} {S S' : Nat → Prop} {v : Value} {l : List α} (h : ListO E e w S v l) (hb : Only S' w w') (hS : ∀ k, S k → ¬ S' k) : ListO E e w' S v l := h.frame fun k hk hks => hb.block k hks (hS k hk)
theorem ListO.inS {α : Type} {E : El α} {e : TypeId} {w : World} {S : Nat → Prop} {v : Value} {l : List α} (h : ListO E e w S v l) : ListS E w S v l := by
  cases h with
  | nil => exact .nil none 0
  | row g n cap L C l hl hn hg hown hr hC hd =>
    refine .row g 0 n cap L l hl hn hg (rowE_hit hown) (fun i v hv => ?_) fun j p hj => E.kidSub (E.ownKid (hr j p hj)) fun k hk => (hC j k (by have := (List.getElem?_eq_some_iff.1 hj).1; omega) hk).1
    have hi := (List.getElem?_eq_some_iff.1 hv).1
    rw [cellsE_length, ← hn] at hi
    rw [Nat.zero_add, World.ownsRow.cellAt hown _ hi]
    exact hv
theorem ListO.slice {α : Type} {E : El α} {e : TypeId} {w : World} {S : Nat → Prop} {v : Value} {l : List α} (h : ListO E e w S v l) : ∃ a cap, v = .slice a l.length cap := h.inS.slice
/-- The parts at one place: the row's block, the element's cells, what it holds; how the whole element is exchanged, its new part lying apart from all or where the old one lay. -/
theorem ListO.at {α : Type} {E : El α} {e : TypeId} {w : World} {S : Nat → Prop} {v : Value} {l : List α} (h : ListO E e w S v l) {j : Nat} {x : α} (hj : l[j]? = some x) :
    ∃ (g cap : Nat) (U : Value) (C : Nat → Prop), v = .slice (some ⟨g, 0, none⟩) l.length cap ∧ S g ∧ (∀ k, C k → S k ∧ k ≠ g) ∧ g < w.heap.size ∧ (∀ i, w.frozen? ⟨g, i, none⟩ = false) ∧
      (∀ i u, (E.cells x U)[i]? = some u → w.cell? ⟨g, j * E.n + i, none⟩ = some u) ∧ E.own w C U x ∧
      (∀ w' y, Only C w w' → E.own w' C U y → E.cells y U = E.cells x U → ListO E e w' S v (l.set j y)) ∧
      (∀ y o vs, (∀ w', (∀ k, C k → k < w.heap.size → w'.heap[k]? = w.heap[k]?) → E.own w' C U y) → setRange (E.cells x U) o vs = E.cells y U → o + vs.length ≤ E.n →
        w.grownBy (setAll w g (j * E.n + o) vs) (some g) ∧ ListO E e (setAll w g (j * E.n + o) vs) S v (l.set j y)) ∧
      (∀ y U' S', E.own w S' U' y → (∀ k, S' k → ¬ S k) →
        w.grownBy (setAll w g (j * E.n) (E.cells y U')) (some g) ∧ ListO E e (setAll w g (j * E.n) (E.cells y U')) (fun k => S k ∨ S' k) v (l.set j y)) := by
  cases h with
  | nil => simp at hj
  | row g n cap L C l hl hn hg hown hr hC hd =>
    subst hl
    subst hn
    rw [List.getElem?_map] at hj
    obtain ⟨p, hp, rfl⟩ := Option.map_eq_some_iff.1 hj
    have hjn : j < L.length := (List.getElem?_eq_some_iff.1 hp).1
    have hm : j * E.n + E.n ≤ L.length * E.n := by rw [← Nat.succ_mul]; exact Nat.mul_le_mul_right _ hjn
    refine ⟨g, cap, p.2, C j, by rw [List.length_map], hg, fun k hk => hC j k hjn hk, rowE_hit hown, fun i => World.ownsRow.frozenAt hown i, ?_, hr j p hp, ?_, ?_, ?_⟩
    · intro i u hu
      have hin : i < E.n := by have := (List.getElem?_eq_some_iff.1 hu).1; rwa [E.len] at this
      rw [World.ownsRow.cellAt hown _ (by omega)]
      exact cellsE_at hp hu
    · intro w' y ho hy hcy
      have hgh : w'.heap[g]? = w.heap[g]? := ho.block g (rowE_hit hown) fun x => (hC j g hjn x).2 rfl
      refine .row g L.length cap (L.set j (y, p.2)) C _ (by rw [List.map_set]) (by simp) hg ?_ ?_ hC hd
      · have e1 : cellsE E (L.set j (y, p.2)) = cellsE E L := by
          rw [← cellsE_put hjn]
          show setRange (cellsE E L) (j * E.n) (E.cells y p.2) = _
          rw [hcy, cellsE_put hjn]
          congr 1
          apply List.ext_getElem?
          intro i
          by_cases hij : j = i
          · subst hij; rw [List.getElem?_set_self hjn, hp]
          · rw [List.getElem?_set_ne hij]
        rw [e1]
        exact rowE_moved hown fun k hk => by simp only [Value.ownBlock, Option.some.injEq] at hk; subst hk; exact hgh
      · intro i p' hp'
        by_cases hij : i = j
        · subst hij
          rw [List.getElem?_set_self hjn] at hp'
          simp only [Option.some.injEq] at hp'
          subst hp'
          exact hy
        · rw [List.getElem?_set_ne (fun x => hij x.symm)] at hp'
          have hi : i < L.length := (List.getElem?_eq_some_iff.1 hp').1
          exact E.ownFrame (hr i p' hp') fun k hk hks => ho.block k hks fun x => hij (hd i j k hi hjn hk x)
    · intro y o vs hy hcy hov
      obtain ⟨h1, h2⟩ := setAll_row vs _ (j * E.n + o) _ hown
      have e1 : setRange (cellsE E L) (j * E.n + o) vs = cellsE E (L.set j (y, p.2)) := by
        rw [← cellsE_put hjn]
        show _ = setRange (cellsE E L) (j * E.n) (E.cells y p.2)
        rw [← hcy]
        have hlx := E.len p.1 p.2
        apply List.ext_getElem?
        intro i
        by_cases hi : j * E.n ≤ i ∧ i < j * E.n + E.n
        · obtain ⟨q, rfl⟩ : ∃ q, i = j * E.n + q := ⟨i - j * E.n, by omega⟩
          rw [setRange_in (setRange (E.cells p.1 p.2) o vs) _ _ q (by rw [setRange_length, hlx]; omega) (by rw [cellsE_length]; omega)]
          by_cases hq : o ≤ q ∧ q < o + vs.length
          · obtain ⟨r, rfl⟩ : ∃ r, q = o + r := ⟨q - o, by omega⟩
            rw [setRange_in vs (E.cells p.1 p.2) o r (by omega) (by rw [hlx]; omega)]
            rw [show j * E.n + (o + r) = j * E.n + o + r from by omega, setRange_in vs _ _ r (by omega) (by rw [cellsE_length]; omega)]
          · rw [setRange_out vs (E.cells p.1 p.2) o q (by omega), setRange_out vs _ _ _ (by omega)]
            obtain ⟨u, hu⟩ : ∃ u, (E.cells p.1 p.2)[q]? = some u := ⟨_, List.getElem?_eq_getElem (by rw [hlx]; omega)⟩
            rw [cellsE_at hp hu, hu]
        · rw [setRange_out vs _ _ _ (by omega), setRange_out _ _ _ _ (by rw [setRange_length, hlx]; omega)]
      rw [e1] at h1
      have fr : ∀ (i : Nat) k, i < L.length → C i k → k < w.heap.size → (setAll w g (j * E.n + o) vs).heap[k]? = w.heap[k]? := fun i k hi hk hks => h2.block k hks fun x => (hC i k hi hk).2 (by cases x; rfl)
      refine ⟨h2, .row g L.length cap (L.set j (y, p.2)) C _ (by rw [List.map_set]) (by simp) hg h1 ?_ hC hd⟩
      intro i p' hp'
      by_cases hij : i = j
      · subst hij
        rw [List.getElem?_set_self hjn] at hp'
        simp only [Option.some.injEq] at hp'
        subst hp'
        exact hy _ fun k hk hks => fr i k hjn hk hks
      · rw [List.getElem?_set_ne (fun x => hij x.symm)] at hp'
        have hi : i < L.length := (List.getElem?_eq_some_iff.1 hp').1
        exact E.ownFrame (hr i p' hp') fun k hk hks => fr i k hi hk hks
    · intro y U' S' hu hdis
      obtain ⟨h1, h2⟩ := setAll_row (E.cells y U') _ (j * E.n) _ hown
      have e1 := cellsE_put (E := E) hjn (y, U')
      rw [show setRange (cellsE E L) (j * E.n) (E.cells y U') = cellsE E (L.set j (y, U')) from e1] at h1
      refine ⟨h2, .row g L.length cap (L.set j (y, U')) (fun i k => if i = j then S' k else C i k) _ (by rw [List.map_set]) (by simp) (.inl hg) h1 ?_ ?_ ?_⟩
      · intro i p' hp'
        by_cases hij : i = j
        · subst hij
          rw [List.getElem?_set_self hjn] at hp'
          simp only [Option.some.injEq] at hp'
          subst hp'
          simp only [if_pos]
          exact E.ownFrame hu fun k hk hks => h2.block k hks fun x => hdis k hk (by cases x; exact hg)
        · rw [List.getElem?_set_ne (fun x => hij x.symm)] at hp'
          have hi : i < L.length := (List.getElem?_eq_some_iff.1 hp').1
          simp only [if_neg hij]
          exact E.ownFrame (hr i p' hp') fun k hk hks => h2.block k hks fun x => (hC i k hi hk).2 (by cases x; rfl)
      · intro i k hi hk
        by_cases hij : i = j
        · simp only [hij, if_pos] at hk
          exact ⟨.inr hk, fun x => hdis k hk (by subst x; exact hg)⟩
        · simp only [if_neg hij] at hk
          exact ⟨.inl (hC i k hi hk).1, (hC i k hi hk).2⟩
      · intro i i' k hi hi' hk hk'
        by_cases hij : i = j
        · by_cases hij' : i' = j
          · omega
          · simp only [hij, if_pos] at hk
            simp only [if_neg hij'] at hk'
            exact absurd (hC i' k hi' hk').1 (hdis k hk)
        · simp only [if_neg hij] at hk
          by_cases hij' : i' = j
          · simp only [hij', if_pos] at hk'
            exact absurd (hC i k hi hk).1 (hdis k hk')
          · simp only [if_neg hij'] at hk'
            exact hd i i' k hi hi' hk hk'
/-- The row of an owned list, what it holds apart. -/
theorem ListO.parts {α : Type} {E : El α} {e : TypeId} {w : World} {S : Nat → Prop} {v : Value} {l : List α} (h : ListO E e w S v l) :
    ∃ (L : List (α × Value)) (C : Nat → Nat → Prop), l = L.map Prod.fst ∧ w.ownsRow 0 e E.n v L.length (cellsE E L) ∧ (∀ k, v.ownBlock = some k → S k) ∧ (∀ (j : Nat) (p : α × Value), L[j]? = some p → E.own w (C j) p.2 p.1) ∧
      (∀ j k, j < L.length → C j k → S k ∧ v.ownBlock ≠ some k) ∧ (∀ i j k, i < L.length → j < L.length → C i k → C j k → i = j) := by
  cases h with
  | nil => exact ⟨[], fun _ _ => False, rfl, World.ownsRow_nil w 0 e E.n, fun k hk => by simp [Value.ownBlock] at hk, fun j p hj => by simp at hj, fun j k hj => by simp at hj, fun i j k hi => by simp at hi⟩
  | row g n cap L C l hl hn hg hown hr hC hd =>
    subst hn
    exact ⟨L, C, hl, hown, fun k hk => by simp only [Value.ownBlock, Option.some.injEq] at hk; subst hk; exact hg, hr, fun j k hj hk => ⟨(hC j k hj hk).1, fun e => by simp only [Value.ownBlock, Option.some.injEq] at e; exact (hC j k hj hk).2 e.symm⟩, hd⟩
/-- One element appended, what it holds lying apart. -/
theorem listO_append {α : Type} {E : El α} {w W1 w1 : World} {e : TypeId} {S Su S' : Nat → Prop} {v u : Value} {L : List (α × Value)} {C : Nat → Nat → Prop} {x : α} {gg cap n : Nat} (hn : n = L.length)
    (hb : ∀ k, v.ownBlock = some k → S k) (hr : ∀ (j : Nat) (p : α × Value), L[j]? = some p → E.own w (C j) p.2 p.1) (hC : ∀ j k, j < L.length → C j k → S k ∧ v.ownBlock ≠ some k) (hd : ∀ i j k, i < L.length → j < L.length → C i k → C j k → i = j)
    (hu : E.own w Su u x) (hS : ∀ k, S k → k < w.heap.size) (hSu : ∀ k, Su k → k < w.heap.size ∧ ¬ S k) (hW : Below w.heap.size w W1)
    (hown : w1.ownsRow 0 e E.n (.slice (some ⟨gg, 0, none⟩) (n + 1) cap) (n + 1) (cellsE E L ++ E.cells x u)) (hgr : W1.grownBy w1 v.ownBlock) (hat : v.ownBlock = some gg ∨ w.heap.size ≤ gg)
    (hS' : ∀ k, S k ∨ Su k ∨ k = gg → S' k) : ListO E e w1 S' (.slice (some ⟨gg, 0, none⟩) (n + 1) cap) (L.map Prod.fst ++ [x]) := by
  subst hn
  have same : ∀ j, j < w.heap.size → v.ownBlock ≠ some j → w1.heap[j]? = w.heap[j]? := fun j hj hne => (hgr.block j (Nat.lt_of_lt_of_le hj hW.size) (fun e => hne e.symm)).trans (hW.block j hj)
  have hSub : ∀ k, Su k → v.ownBlock ≠ some k := fun k hk e => (hSu k hk).2 (hb k e)
  have e1 : cellsE E (L ++ [(x, u)]) = cellsE E L ++ E.cells x u := by rw [cellsE_append, cellsE_one]
  rw [← e1] at hown
  refine .row gg (L.length + 1) cap (L ++ [(x, u)]) (fun j k => if j < L.length then C j k else Su k) _ (by simp) (by simp) (hS' gg (.inr (.inr rfl))) hown ?_ ?_ ?_
  · intro j p hj
    by_cases hjl : j < L.length
    · rw [List.getElem?_append_left hjl] at hj
      refine E.ownSub (E.ownFrame (hr j p hj) fun k hk hks => same k hks (hC j k hjl hk).2) fun k hk => ?_
      rw [if_pos hjl]; exact hk
    · have hj' : j = L.length := by
        have := (List.getElem?_eq_some_iff.1 hj).1
        simp at this
        omega
      subst hj'
      rw [List.getElem?_append_right (Nat.le_refl _), Nat.sub_self] at hj
      simp at hj
      subst hj
      refine E.ownSub (E.ownFrame hu fun k hk hks => same k hks (hSub k hk)) fun k hk => ?_
      rw [if_neg (by omega)]; exact hk
  · intro j k hj hk
    by_cases hjl : j < L.length
    · rw [if_pos hjl] at hk
      have h1 := hC j k hjl hk
      refine ⟨hS' k (.inl h1.1), fun e => ?_⟩
      subst e
      rcases hat with h | h
      · exact h1.2 h
      · have := hS k h1.1; omega
    · rw [if_neg hjl] at hk
      refine ⟨hS' k (.inr (.inl hk)), fun e => ?_⟩
      subst e
      rcases hat with h | h
      · exact hSub k hk h
      · have := (hSu k hk).1; omega
  · intro i j k hi hj hik hjk
    by_cases hil : i < L.length
    · rw [if_pos hil] at hik
      by_cases hjl : j < L.length
      · rw [if_pos hjl] at hjk
        exact hd i j k hil hjl hik hjk
      · rw [if_neg hjl] at hjk
        exact absurd (hC i k hil hik).1 (hSu k hjk).2
    · rw [if_neg hil] at hik
      by_cases hjl : j < L.length
      · rw [if_pos hjl] at hjk
        exact absurd (hC j k hjl hjk).1 (hSu k hik).2
      · omega

/-! ### A row of the call's own whose elements hold what lies anywhere but in the row -/
def RowK {α : Type} (E : El α) (e : TypeId) (w : World) (lo : Nat) (v : Value) (xs : List α) : Prop :=
  ∃ L : List (α × Value), xs = L.map Prod.fst ∧ w.ownsRow lo e E.n v L.length (cellsE E L) ∧ ∀ (j : Nat) (p : α × Value), L[j]? = some p → ∃ C : Nat → Prop, E.kid w C p.2 p.1 ∧ ∀ b, C b → b < w.heap.size ∧ v.ownBlock ≠ some b
theorem RowK.kept {α : Type} {E : El α} {e : TypeId} {w w' : World} {lo : Nat} {v : Value} {xs : List α} (h : RowK E e w lo v xs) (hb : Below w.heap.size w w') : RowK E e w' lo v xs := by
  obtain ⟨L, hL, hrow, hch⟩ := h
  refine ⟨L, hL, rowE_moved hrow fun k hk => hb.block k (World.ownsRow.lt hrow k hk).2, fun j p hj => ?_⟩
  obtain ⟨C, c1, c2⟩ := hch j p hj
  exact ⟨C, E.kidFrame c1 hb.size fun k _ hk => hb.block k hk, fun b hb' => ⟨Nat.lt_of_lt_of_le (c2 b hb').1 hb.size, (c2 b hb').2⟩⟩
theorem RowK.inS {α : Type} {E : El α} {e : TypeId} {w : World} {lo : Nat} {v : Value} {xs : List α} (h : RowK E e w lo v xs) : ListS E w Any v xs := by
  obtain ⟨L, hL, hrow, hch⟩ := h
  rcases hrow.2 with ⟨rfl, hn⟩ | ⟨g, cap, cur, rfl, h1, h2, h3⟩
  · obtain rfl : L = [] := List.length_eq_zero_iff.1 hn
    subst hL
    exact .nil none 0
  · refine .row g 0 L.length cap L xs hL rfl trivial (Array.getElem?_eq_some_iff.1 h2).1 (fun i v hv => ?_) fun j p hj => ?_
    · have hi := (List.getElem?_eq_some_iff.1 hv).1
      rw [cellsE_length] at hi
      rw [Nat.zero_add, World.ownsRow.cellAt hrow _ hi]
      exact hv
    · obtain ⟨C, c1, _⟩ := hch j p hj
      exact E.kidSub c1 fun _ _ => trivial
theorem RowK.slice {α : Type} {E : El α} {e : TypeId} {w : World} {lo : Nat} {v : Value} {xs : List α} (h : RowK E e w lo v xs) : ∃ a c, v = .slice a xs.length c := h.inS.slice
theorem rowK_append {α : Type} {E : El α} {e : TypeId} {w W1 w1 : World} {lo : Nat} {v u : Value} {L : List (α × Value)} {x : α} {gg cap n : Nat} (hn : n = L.length)
    (hrow : w.ownsRow lo e E.n v n (cellsE E L)) (hch : ∀ (j : Nat) (p : α × Value), L[j]? = some p → ∃ C : Nat → Prop, E.kid w C p.2 p.1 ∧ ∀ b, C b → b < w.heap.size ∧ v.ownBlock ≠ some b)
    {C : Nat → Prop} (hu : E.kid w C u x) (hC : ∀ b, C b → b < w.heap.size ∧ v.ownBlock ≠ some b) (hW : Below w.heap.size w W1)
    (hown : w1.ownsRow lo e E.n (.slice (some ⟨gg, 0, none⟩) (n + 1) cap) (n + 1) (cellsE E L ++ E.cells x u)) (hgr : W1.grownBy w1 v.ownBlock) (hat : v.ownBlock = some gg ∨ w.heap.size ≤ gg) :
    RowK E e w1 lo (.slice (some ⟨gg, 0, none⟩) (n + 1) cap) (L.map Prod.fst ++ [x]) := by
  subst hn
  have hs : w.heap.size ≤ w1.heap.size := Nat.le_trans hW.size hgr.size
  have same : ∀ j, j < w.heap.size → v.ownBlock ≠ some j → w1.heap[j]? = w.heap[j]? := fun j hj hne => (hgr.block j (Nat.lt_of_lt_of_le hj hW.size) (fun e => hne e.symm)).trans (hW.block j hj)
  have e1 : cellsE E (L ++ [(x, u)]) = cellsE E L ++ E.cells x u := by rw [cellsE_append, cellsE_one]
  rw [← e1] at hown
  have one : ∀ (C : Nat → Prop) (U : Value) (y : α), E.kid w C U y → (∀ b, C b → b < w.heap.size ∧ v.ownBlock ≠ some b) → ∃ C : Nat → Prop, E.kid w1 C U y ∧ ∀ b, C b → b < w1.heap.size ∧ (Value.slice (some ⟨gg, 0, none⟩) (L.length + 1) cap).ownBlock ≠ some b := by
    intro C U y c1 c2
    refine ⟨C, E.kidFrame c1 hs fun k hk hks => same k hks (c2 k hk).2, fun b hb => ⟨Nat.lt_of_lt_of_le (c2 b hb).1 hs, fun e => ?_⟩⟩
    simp only [Value.ownBlock, Option.some.injEq] at e
    subst e
    rcases hat with h | h
    · exact (c2 _ hb).2 h
    · have := (c2 _ hb).1; omega
  refine ⟨L ++ [(x, u)], by simp, by simpa using hown, fun j p hj => ?_⟩
  by_cases hjl : j < L.length
  · rw [List.getElem?_append_left hjl] at hj
    obtain ⟨C, c1, c2⟩ := hch j p hj
    exact one C p.2 p.1 c1 c2
  · have hj' : j = L.length := by
      have := (List.getElem?_eq_some_iff.1 hj).1
      simp at this
      omega
    subst hj'
    rw [List.getElem?_append_right (Nat.le_refl _), Nat.sub_self] at hj
    simp at hj
    subst hj
    exact one C u x hu hC

/-! ### As long as its blocks stay -/
def ListFrom {α : Type} (E : El α) (w : World) (V : Value) (l : List α) (W : World) : Prop := ListS E W Any V l ∧ ∀ k, k < w.heap.size → W.heap[k]? = w.heap[k]?
theorem ListS.low {α : Type} {E : El α} {w : World} {S : Nat → Prop} {v : Value} {l : List α} (h : ListS E w S v l) : ∀ w', w.heap.size ≤ w'.heap.size → (∀ k, k < w.heap.size → w'.heap[k]? = w.heap[k]?) → ListS E w' Any v l := fun w' hs hb => h.any.frame hs fun k _ hk => hb k hk
theorem at_list {α : Type} {E : El α} {w : World} {S : Nat → Prop} {V : Value} {l : List α} (h : ListS E w S V l) : At w 0 w.heap.size (ListFrom E w V l) :=
  ⟨⟨h.any, fun _ _ => rfl⟩, fun W W' hP hle hk hs => by
    have e : ∀ k, k < w.heap.size → W'.heap[k]? = w.heap[k]? := fun k hlt => (hk k (Nat.zero_le _) hlt).trans (hP.2 k hlt)
    exact ⟨h.low W' (Nat.le_trans hle hs) e, e⟩, Nat.le_refl _⟩
def ListOP {α : Type} (E : El α) (e : TypeId) (lo hi : Nat) (V : Value) (l : List α) (W : World) : Prop := ListO E e W (iv lo hi) V l
theorem stays_listO {α : Type} (E : El α) (e : TypeId) (lo hi : Nat) (V : Value) (l : List α) : Stays lo hi (ListOP E e lo hi V l) := fun _ _ h _ hk _ => ListO.frame h fun k hs _ => hk k hs.1 hs.2
theorem at_listO {α : Type} {E : El α} {w : World} {e : TypeId} {lo hi : Nat} {V : Value} {l : List α} (h : ListO E e w (iv lo hi) V l) (hl : hi ≤ w.heap.size) : At w lo hi (ListOP E e lo hi V l) := ⟨h, stays_listO E e lo hi V l, hl⟩
class HasList {α : Type} (E : outParam (El α)) (P : World → Prop) (V : outParam Value) (l : outParam (List α)) : Prop where
  get : ∀ w, P w → ListS E w Any V l
instance {α : Type} (E : El α) (e : TypeId) (lo hi : Nat) (V : Value) (l : List α) : HasList E (ListOP E e lo hi V l) V l := ⟨fun _ h => ListS.any (ListO.inS h)⟩
instance {α : Type} (E : El α) (w0 : World) (V : Value) (l : List α) : HasList E (ListFrom E w0 V l) V l := ⟨fun _ h => h.1⟩
theorem At.listS {α : Type} {E : El α} {P : World → Prop} {V : Value} {l : List α} [c : HasList E P V l] {w : World} {lo hi : Nat} (h : At w lo hi P) : ListS E w Any V l := c.get w h.now
/-- The answer is a new list of the call's own. -/
def NewList {α : Type} (E : El α) (e : TypeId) (l : List α) (w : World) (u : Value) (w' : World) : Prop := ListO E e w' (iv w.heap.size w'.heap.size) u l ∧ Below w.heap.size w w'
theorem NewList.at {α : Type} {E : El α} {e : TypeId} {l : List α} {w w' : World} {u : Value} (h : NewList E e l w u w') : At w' w.heap.size w'.heap.size (ListOP E e w.heap.size w'.heap.size u l) := at_listO h.1 (Nat.le_refl _)

/-! ### Bindings: a number and a term -/
structure Bd where
  v : Int
  t : Tm
def bdE : El Bd where
  n := 5
  cells := fun b U => [.int .i64 b.v, .int .i64 b.t.kind, .int .i64 b.t.num, .string b.t.name, U]
  kid := fun w S U b => ArgsS w S U b.t.args
  own := fun w S U b => Own w 28 S U b.t.args
  pos := by decide
  len := fun _ _ => rfl
  kidFrame := fun h hs hb => h.frame hs hb
  kidSub := fun h hS => h.sub hS
  ownFrame := fun h hb => h.frame hb
  ownSub := fun h hS => h.sub hS
  ownKid := fun h => h.inS
/-- One binding of a list: its cells in every later world, its term's own arguments. -/
theorem ListS.bd {w : World} {S : Nat → Prop} {a : Option Addr} {n cap : Nat} {l : List Bd} (h : ListS bdE w S (.slice a n cap) l) {k : Nat} {x : Bd} (hx : l[k]? = some x) :
    ∃ g off u1 u2, a = some ⟨g, off, none⟩ ∧ g < w.heap.size ∧ n = l.length ∧
      (∀ W, Below w.heap.size w W → W.cell? ⟨g, off + k * 5, none⟩ = some (.int .i64 x.v) ∧ W.cell? ⟨g, off + k * 5 + 1, none⟩ = some (.int .i64 x.t.kind) ∧ W.cell? ⟨g, off + k * 5 + 2, none⟩ = some (.int .i64 x.t.num) ∧ W.cell? ⟨g, off + k * 5 + 3, none⟩ = some (.string x.t.name) ∧ W.cell? ⟨g, off + k * 5 + 4, none⟩ = some (.slice u1 x.t.args.length u2)) ∧
      ArgsS w S (.slice u1 x.t.args.length u2) x.t.args := by
  obtain ⟨g, off, U, rfl, hS, hg, hn, hc, hk⟩ := h.elem hx
  obtain ⟨u1, u2, rfl⟩ := (show ArgsS w S U x.t.args from hk).at.slice
  exact ⟨g, off, u1, u2, rfl, hg, hn, fun W hW => ⟨hc W hW 0 _ rfl, hc W hW 1 _ rfl, hc W hW 2 _ rfl, hc W hW 3 _ rfl, hc W hW 4 _ rfl⟩, hk⟩
end Go.Proofs.Ytnmdnajbafpfiaa

namespace Go.Proofs.Ytnmdnajbafpfiaa
open Go.RowKit
set_option linter.unusedVariables false
set_option linter.unusedSimpArgs false

/-! ### Lists with a weight an element -/
def sumW {α : Type} (wd : α → Nat) : List α → Nat | [] => 0 | x :: l => wd x + sumW wd l
theorem sumW_append {α : Type} (wd : α → Nat) (a b : List α) : sumW wd (a ++ b) = sumW wd a + sumW wd b := by
  induction a with
  | nil => simp [sumW]
  | cons x a ih => rw [List.cons_append, sumW, sumW, ih]; omega
theorem takeE {α : Type} {l : List α} {j : Nat} {x : α} (h : l[j]? = some x) : l.take (j + 1) = l.take j ++ [x] := by rw [List.take_add_one, h]; rfl
theorem sumW_take {α : Type} {wd : α → Nat} {l : List α} {j : Nat} {x : α} (h : l[j]? = some x) : sumW wd (l.take (j + 1)) = sumW wd (l.take j) + wd x := by
  rw [takeE h, sumW_append]; simp [sumW]
theorem sumW_take_le {α : Type} (wd : α → Nat) (l : List α) (j : Nat) : sumW wd (l.take j) ≤ sumW wd l := by
  conv => rhs; rw [← List.take_append_drop j l]
  rw [sumW_append]; omega
theorem sumW_at {α : Type} {wd : α → Nat} {l : List α} {j : Nat} {x : α} (h : l[j]? = some x) : sumW wd (l.take j) + wd x ≤ sumW wd l := by
  rw [← sumW_take h]; exact sumW_take_le wd l _
theorem sumW_len {α : Type} {wd : α → Nat} (h1 : ∀ x, 1 ≤ wd x) (l : List α) : l.length ≤ sumW wd l := by
  induction l with
  | nil => simp
  | cons x l ih => rw [sumW, List.length_cons]; have := h1 x; omega
def markW {α : Type} (f : Int → α → α) (wd : α → Nat) (k : Int) : List α → List α | [] => [] | x :: l => f k x :: markW f wd (k + (wd x : Int)) l
theorem markW_length {α : Type} (f : Int → α → α) (wd : α → Nat) (k : Int) (l : List α) : (markW f wd k l).length = l.length := by
  induction l generalizing k with
  | nil => rfl
  | cons x l ih => rw [markW, List.length_cons, ih, List.length_cons]
theorem markW_append {α : Type} (f : Int → α → α) (wd : α → Nat) (k : Int) (a b : List α) : markW f wd k (a ++ b) = markW f wd k a ++ markW f wd (k + (sumW wd a : Int)) b := by
  induction a generalizing k with
  | nil => simp [markW, sumW]
  | cons x a ih =>
    rw [List.cons_append, markW, markW, ih, sumW, List.cons_append]
    congr 3
    push_cast
    omega
theorem markW_take {α : Type} {f : Int → α → α} {wd : α → Nat} {k : Int} {l : List α} {j : Nat} {x : α} (h : l[j]? = some x) : markW f wd k (l.take (j + 1)) = markW f wd k (l.take j) ++ [f (k + (sumW wd (l.take j) : Int)) x] := by
  rw [takeE h, markW_append]; rfl
theorem markW_at {α : Type} {f : Int → α → α} {wd : α → Nat} {k : Int} {l : List α} {j : Nat} {x : α} (h : l[j]? = some x) : (markW f wd k l)[j]? = some (f (k + (sumW wd (l.take j) : Int)) x) := by
  have hl : j < l.length := (List.getElem?_eq_some_iff.1 h).1
  have e : markW f wd k l = markW f wd k (l.take (j + 1)) ++ markW f wd (k + (sumW wd (l.take (j + 1)) : Int)) (l.drop (j + 1)) := by rw [← markW_append, List.take_append_drop]
  rw [e, List.getElem?_append_left (by rw [markW_length, List.length_take]; omega), markW_take h, List.getElem?_append_right (by rw [markW_length, List.length_take]; omega)]
  rw [markW_length, List.length_take, show j - min j l.length = 0 from by omega]
  rfl
/-- A list marked as far as j. -/
def mixW {α : Type} (f : Int → α → α) (wd : α → Nat) (k : Int) (l : List α) (j : Nat) : List α := markW f wd k (l.take j) ++ l.drop j
theorem mixW_zero {α : Type} (f : Int → α → α) (wd : α → Nat) (k : Int) (l : List α) : mixW f wd k l 0 = l := by simp [mixW, markW]
theorem mixW_end {α : Type} (f : Int → α → α) (wd : α → Nat) (k : Int) (l : List α) : mixW f wd k l l.length = markW f wd k l := by simp [mixW]
theorem mixW_length {α : Type} {f : Int → α → α} {wd : α → Nat} {k : Int} {l : List α} {j : Nat} (h : j ≤ l.length) : (mixW f wd k l j).length = l.length := by
  unfold mixW; rw [List.length_append, markW_length, List.length_take, List.length_drop]; omega
theorem mixW_at {α : Type} {f : Int → α → α} {wd : α → Nat} {k : Int} {l : List α} {j : Nat} {x : α} (h : l[j]? = some x) : (mixW f wd k l j)[j]? = some x := by
  have hl : j < l.length := (List.getElem?_eq_some_iff.1 h).1
  unfold mixW
  rw [List.getElem?_append_right (by rw [markW_length, List.length_take]; omega), markW_length, List.length_take, show j - min j l.length = 0 from by omega, List.getElem?_drop]
  exact h
theorem mixW_set {α : Type} {f : Int → α → α} {wd : α → Nat} {k : Int} {l : List α} {j : Nat} {x : α} (h : l[j]? = some x) : (mixW f wd k l j).set j (f (k + (sumW wd (l.take j) : Int)) x) = mixW f wd k l (j + 1) := by
  have hl : j < l.length := (List.getElem?_eq_some_iff.1 h).1
  unfold mixW
  rw [List.set_append_right _ _ (by rw [markW_length, List.length_take]; omega), markW_length, List.length_take, show j - min j l.length = 0 from by omega, markW_take h, List.append_assoc]
  congr 1
  obtain ⟨_, hx⟩ := List.getElem?_eq_some_iff.1 h
  rw [List.drop_eq_getElem_cons hl, List.set_cons_zero]
  rfl

/-! ### Bindings -/
def wdB (b : Bd) : Nat := 1 + b.t.sz
def szB (l : List Bd) : Nat := sumW wdB l
def wfI (v : Int) : Prop := (Lit.int .i64 v).wf = true
/-- Terms that can be read, variables that are integers. -/
def fineB (l : List Bd) : Prop := ∀ b ∈ l, b.t.fine ∧ wfI b.v
theorem szB_len (l : List Bd) : l.length ≤ szB l := sumW_len (fun x => by unfold wdB; omega) l
theorem szB_at {l : List Bd} {j : Nat} {x : Bd} (h : l[j]? = some x) : szB (l.take j) + (1 + x.t.sz) ≤ szB l := sumW_at h
theorem szB_take {l : List Bd} {j : Nat} {x : Bd} (h : l[j]? = some x) : szB (l.take (j + 1)) = szB (l.take j) + (1 + x.t.sz) := sumW_take h
theorem szB_nil : szB [] = 0 := rfl
theorem szB_app (a b : List Bd) : szB (a ++ b) = szB a + szB b := sumW_append wdB a b
theorem szB_one (b : Bd) : szB [b] = 1 + b.t.sz := by unfold szB sumW sumW wdB; omega

/-- Not too long, no term too large to be read. -/
def EachB (s : List Bd) : Prop := s.length ≤ 1048576 ∧ ∀ b ∈ s, b.t.sz ≤ 1048575
theorem eachB_of {s : List Bd} (h : szB s ≤ 1048576) : EachB s := ⟨by have := szB_len s; omega, fun b hb => by
  obtain ⟨j, hj⟩ := List.getElem?_of_mem hb
  have := szB_at hj
  omega⟩

theorem infoBinding : (Try.prog.info? 73).map (fun i => (i.zero, i.size, i.bytes)) = some (some (.agg #[.int .i64 0, .int .i64 0, .int .i64 0, .string ⟨#[]⟩, .slice none 0 0]), 5, 64) := by kernel_rfl
/-- The return of a struct of five cells that has just been stored into the result's variable. -/
theorem bodyPost_five {P : Program} {fn : Func} {R : Ending → World → Prop} {a : Act} {w : World} {p : Tmp} {ty e : TypeId} {b : Nat} {x0 x1 x2 x3 x4 y0 y1 y2 y3 y4 : Value} {d : TypeDesc} (h : fn.results = #[.cell p ty]) (hp : a.tmps.getD p undef = .pointer (some ⟨b, 0, none⟩)) (hd : a.defers = [])
    (hu : P.underlying ty = some d) (hdd : (match d with | .struct _ | .array _ _ => true | _ => false) = true) (hi : (P.info? ty).map (·.size) = some 5) (hb : w.heap[b]? = some (Obj.cells #[x0, x1, x2, x3, x4] e))
    (hR : ∀ w', Only (fun k => k = b) w w' → R (.returned (.agg #[y0, y1, y2, y3, y4])) w') :
    bodyPost P fn R .ret a (((((w.setCell ⟨b, 0, none⟩ y0).setCell ⟨b, 1, none⟩ y1).setCell ⟨b, 2, none⟩ y2).setCell ⟨b, 3, none⟩ y3).setCell ⟨b, 4, none⟩ y4) := by
  have h0 := heap_setCell_same w b 0 _ e y0 hb
  have h1 := heap_setCell_same _ b 1 _ e y1 h0
  have h2 := heap_setCell_same _ b 2 _ e y2 h1
  have h3 := heap_setCell_same _ b 3 _ e y3 h2
  have h4 := heap_setCell_same _ b 4 _ e y4 h3
  refine bodyPost_ret (results_cell_row h _ _ b e #[y0, y1, y2, y3, y4] (0, 0) d hp h4 hu hdd hi) hd (hR _ ?_)
  have one : ∀ (W : World) (j : Nat) (u : Value), Only (fun k => k = b) W (W.setCell ⟨b, j, none⟩ u) := fun W j u => ⟨rfl, rfl, rfl, by simp, fun k _ hk => Below.heap_setCell _ _ _ _ hk⟩
  exact ((((one _ _ _).trans (one _ _ _)).trans (one _ _ _)).trans (one _ _ _)).trans (one _ _ _)
theorem box_cells5 {w : World} {b : Nat} {e : TypeId} {x0 x1 x2 x3 x4 : Value} (h : w.heap[b]? = some (Obj.cells #[x0, x1, x2, x3, x4] e)) :
    w.cell? ⟨b, 0, none⟩ = some x0 ∧ w.cell? ⟨b, 1, none⟩ = some x1 ∧ w.cell? ⟨b, 2, none⟩ = some x2 ∧ w.cell? ⟨b, 3, none⟩ = some x3 ∧ w.cell? ⟨b, 4, none⟩ = some x4 ∧ ∀ j, w.frozen? ⟨b, j, none⟩ = false :=
  ⟨cell_of_row w b 0 _ _ _ h, cell_of_row w b 1 _ _ _ h, cell_of_row w b 2 _ _ _ h, cell_of_row w b 3 _ _ _ h, cell_of_row w b 4 _ _ _ h, fun j => frozen_of_row w b j _ _ h⟩

theorem made_cells {α : Type} {E : El α} {x0 : α} {U0 : Value} {z : Array Value} (hz : z.toList = E.cells x0 U0) (n : Nat) : (madeCells z (n * E.n)).toList = cellsE E (List.replicate n (x0, U0)) := by
  have hzs : z.size = E.n := by have := congrArg List.length hz; rw [E.len] at this; simpa using this
  apply List.ext_getElem?
  intro j
  by_cases hj : j < n * E.n
  · have hr : j % E.n < E.n := Nat.mod_lt _ E.pos
    have hq : j / E.n < n := Nat.div_lt_of_lt_mul (by rw [Nat.mul_comm]; exact hj)
    have h1 : (List.replicate n (x0, U0))[j / E.n]? = some (x0, U0) := by rw [List.getElem?_replicate, if_pos hq]
    obtain ⟨v, hv⟩ : ∃ v, (E.cells x0 U0)[j % E.n]? = some v := ⟨_, List.getElem?_eq_getElem (by rw [E.len]; exact hr)⟩
    have h2 := cellsE_at (E := E) h1 hv
    rw [show j / E.n * E.n + j % E.n = j from by rw [Nat.mul_comm]; exact Nat.div_add_mod j E.n] at h2
    rw [h2]
    have h3 : z[j % E.n]? = some v := by rw [← Array.getElem?_toList, hz]; exact hv
    obtain ⟨h4, h5⟩ := Array.getElem?_eq_some_iff.1 h3
    have h6 : (madeCells z (n * E.n)).toList[j]? = some (z[j % z.size]!) := by simp [madeCells, hj]
    rw [h6, hzs, getElem!_pos z _ h4, h5]
  · rw [List.getElem?_eq_none (by rw [Array.length_toList, size_madeCells]; omega), List.getElem?_eq_none (by rw [cellsE_length, List.length_replicate]; omega)]
theorem listO_made {α : Type} {E : El α} {e : TypeId} {w1 : World} {g n : Nat} {S : Nat → Prop} {x0 : α} {U0 : Value} {z : Array Value} (hz : z.toList = E.cells x0 U0)
    (h : w1.ownsRow 0 e E.n (.slice (some ⟨g, 0, none⟩) n n) n (madeCells z (n * E.n)).toList) (hS : S g) (h0 : E.own w1 (fun _ => False) U0 x0) : ListO E e w1 S (.slice (some ⟨g, 0, none⟩) n n) (List.replicate n x0) := by
  rw [made_cells hz] at h
  refine .row g n n (List.replicate n (x0, U0)) (fun _ _ => False) _ (by rw [List.map_replicate]) (by simp) hS h ?_ (fun _ _ _ x => x.elim) (fun _ _ _ _ _ x => x.elim)
  intro j p hp
  have : p = (x0, U0) := by
    rw [List.getElem?_replicate] at hp
    split at hp
    · simpa using hp.symm
    · cases hp
  subst this
  exact h0
def zeroBd : Bd := ⟨0, zeroTm⟩

/-- A whole binding put into a list. -/
theorem ListO.bdPut {e : TypeId} {w : World} {S S' : Nat → Prop} {g n cap : Nat} {l : List Bd} (h : ListO bdE e w S (.slice (some ⟨g, 0, none⟩) n cap) l) {j : Nat} {x b : Bd} (hj : l[j]? = some x) {u : Value} (hu : Own w 28 S' u b.t.args) (hd : ∀ k, S' k → ¬ S k) :
    Only S w (((((w.setCell ⟨g, j * 5, none⟩ (.int .i64 b.v)).setCell ⟨g, j * 5 + 1, none⟩ (.int .i64 b.t.kind)).setCell ⟨g, j * 5 + 2, none⟩ (.int .i64 b.t.num)).setCell ⟨g, j * 5 + 3, none⟩ (.string b.t.name)).setCell ⟨g, j * 5 + 4, none⟩ u) ∧
      ListO bdE e (((((w.setCell ⟨g, j * 5, none⟩ (.int .i64 b.v)).setCell ⟨g, j * 5 + 1, none⟩ (.int .i64 b.t.kind)).setCell ⟨g, j * 5 + 2, none⟩ (.int .i64 b.t.num)).setCell ⟨g, j * 5 + 3, none⟩ (.string b.t.name)).setCell ⟨g, j * 5 + 4, none⟩ u) (fun k => S k ∨ S' k) (.slice (some ⟨g, 0, none⟩) n cap) (l.set j b) := by
  obtain ⟨g0, cap0, U0, C0, hv0, hS0, _, _, _, _, _, _, _, k0⟩ := h.at hj
  simp only [Value.slice.injEq, Option.some.injEq, Addr.mk.injEq] at hv0
  obtain ⟨⟨rfl, _⟩, _, rfl⟩ := hv0
  obtain ⟨g1, o1⟩ := k0 b u S' hu hd
  exact ⟨Only.of_grown g1 hS0, o1⟩
/-- The first three cells of a binding written. -/
theorem ListO.bdInts {e : TypeId} {w : World} {S : Nat → Prop} {g n cap : Nat} {l : List Bd} (h : ListO bdE e w S (.slice (some ⟨g, 0, none⟩) n cap) l) {j : Nat} {x : Bd} (hj : l[j]? = some x) (k0 k1 k2 : Int) :
    Only S w (((w.setCell ⟨g, j * 5, none⟩ (.int .i64 k0)).setCell ⟨g, j * 5 + 1, none⟩ (.int .i64 k1)).setCell ⟨g, j * 5 + 2, none⟩ (.int .i64 k2)) ∧
      ListO bdE e (((w.setCell ⟨g, j * 5, none⟩ (.int .i64 k0)).setCell ⟨g, j * 5 + 1, none⟩ (.int .i64 k1)).setCell ⟨g, j * 5 + 2, none⟩ (.int .i64 k2)) S (.slice (some ⟨g, 0, none⟩) n cap) (l.set j ⟨k0, .mk k1 k2 x.t.name x.t.args⟩) := by
  obtain ⟨g0, cap0, U0, C0, hv0, hS0, _, _, _, _, hown, _, hp, _⟩ := h.at hj
  simp only [Value.slice.injEq, Option.some.injEq, Addr.mk.injEq] at hv0
  obtain ⟨⟨rfl, _⟩, _, rfl⟩ := hv0
  obtain ⟨g1, o1⟩ := hp ⟨k0, .mk k1 k2 x.t.name x.t.args⟩ 0 [.int .i64 k0, .int .i64 k1, .int .i64 k2] (fun w' hf => Own.frame (show Own w 28 C0 U0 x.t.args from hown) hf) rfl (by show 3 ≤ 5; decide)
  exact ⟨Only.of_grown g1 hS0, o1⟩
/-- The fourth cell of a binding written; what it holds. -/
theorem ListO.bdName {e : TypeId} {w : World} {S : Nat → Prop} {g n cap : Nat} {l : List Bd} (h : ListO bdE e w S (.slice (some ⟨g, 0, none⟩) n cap) l) {j : Nat} {x : Bd} (hj : l[j]? = some x) (s : ByteArray) :
    Only S w (w.setCell ⟨g, j * 5 + 3, none⟩ (.string s)) ∧ ∃ (a : Option Addr) (c : Nat) (C : Nat → Prop), w.cell? ⟨g, j * 5 + 4, none⟩ = some (.slice a x.t.args.length c) ∧ (∀ k, C k → S k) ∧
      Own (w.setCell ⟨g, j * 5 + 3, none⟩ (.string s)) 28 C (.slice a x.t.args.length c) x.t.args ∧
      ∀ w' bs, Own w' 28 C (.slice a x.t.args.length c) bs → Only C (w.setCell ⟨g, j * 5 + 3, none⟩ (.string s)) w' → ListO bdE e w' S (.slice (some ⟨g, 0, none⟩) n cap) (l.set j ⟨x.v, .mk x.t.kind x.t.num s bs⟩) := by
  have hjl : j < l.length := (List.getElem?_eq_some_iff.1 hj).1
  obtain ⟨g0, cap0, V0, C0, hv0, hS0, _, _, _, hc, hown, _, hp, _⟩ := h.at hj
  simp only [Value.slice.injEq, Option.some.injEq, Addr.mk.injEq] at hv0
  obtain ⟨⟨rfl, _⟩, _, rfl⟩ := hv0
  obtain ⟨g1, o1⟩ := hp ⟨x.v, .mk x.t.kind x.t.num s x.t.args⟩ 3 [.string s] (fun w' hf => Own.frame (show Own w 28 C0 V0 x.t.args from hown) hf) rfl (by show 4 ≤ 5; decide)
  have o1' : ListO bdE e (w.setCell ⟨g, j * 5 + 3, none⟩ (.string s)) S (.slice (some ⟨g, 0, none⟩) n cap) (l.set j ⟨x.v, .mk x.t.kind x.t.num s x.t.args⟩) := o1
  have g1' : w.grownBy (w.setCell ⟨g, j * 5 + 3, none⟩ (.string s)) (some g) := g1
  obtain ⟨g', cap', V1, C1, hv1, hS1, hC1, _, _, hc1, hown1, hx, _, _⟩ := o1'.at (x := ⟨x.v, .mk x.t.kind x.t.num s x.t.args⟩) (j := j) (by rw [List.getElem?_set_self hjl])
  simp only [Value.slice.injEq, Option.some.injEq, Addr.mk.injEq] at hv1
  obtain ⟨⟨rfl, _⟩, _, rfl⟩ := hv1
  have d4 : w.cell? ⟨g, j * 5 + 4, none⟩ = some V0 := hc 4 _ rfl
  have e4 : (w.setCell ⟨g, j * 5 + 3, none⟩ (.string s)).cell? ⟨g, j * 5 + 4, none⟩ = some V1 := hc1 4 _ rfl
  have hV : V0 = V1 := by
    have h3 : (w.setCell ⟨g, j * 5 + 3, none⟩ (.string s)).cell? ⟨g, j * 5 + 4, none⟩ = w.cell? ⟨g, j * 5 + 4, none⟩ := World.cell?_setCell_other _ _ _ _ (by simp)
    have h4 := (h3.symm.trans e4).symm.trans d4
    exact (Option.some.inj h4).symm
  subst hV
  have hch : Own (w.setCell ⟨g, j * 5 + 3, none⟩ (.string s)) 28 C1 V0 x.t.args := hown1
  obtain ⟨a, c, hVa⟩ := hch.argsAt.slice
  subst hVa
  refine ⟨Only.of_grown g1' hS0, a, c, C1, d4, fun k hk => (hC1 k hk).1, hch, fun w' bs h1 h2 => ?_⟩
  have := hx w' ⟨x.v, .mk x.t.kind x.t.num s bs⟩ h2 h1 rfl
  rw [List.set_set] at this
  exact this

end Go.Proofs.Ytnmdnajbafpfiaa

