/-
  Rows of flat structs, over whatever element: a slice that is not nil and its capacity, what a row of the call's own reads as and owns, appended, cut by one.
-/
import Derived.Test.YtnmdnajbafpfiaaRowX
import Derived.Deep.AppendLies
namespace Go.Proofs.Ytnmdnajbafpfiaa
open Go.RowKit
set_option linter.unusedVariables false
set_option linter.unusedSimpArgs false

theorem addr_add (g o j : Nat) : (⟨g, o, none⟩ : Addr).add j = ⟨g, o + j, none⟩ := by unfold Addr.add; split <;> simp_all
/-- A slice that is not nil, with its capacity. -/
def CapOk (V : Value) (n : Nat) : Prop := ∃ g off cap, V = .slice (some ⟨g, off, none⟩) n cap ∧ n ≤ cap ∧ cap ≤ 9223372036854775807
theorem RowX.cap {α : Type} {E : El α} {e : TypeId} {w : World} {lo : Nat} {v : Value} {xs : List α} (h : RowX E e w lo v xs) (hp : 0 < xs.length) : CapOk v xs.length := by
  obtain ⟨L, rfl, hrow, hch⟩ := h
  rw [List.length_map] at hp ⊢
  rcases hrow.2 with ⟨_, hn⟩ | ⟨g, cap, cur, rfl, hg0, hg, h1, h2, h3, h4⟩
  · omega
  · exact ⟨g, 0, cap, rfl, by omega, by unfold maxLen at h2; exact h2⟩
theorem RowX.list {α : Type} {E : El α} {e : TypeId} {w : World} {lo : Nat} {v : Value} {xs : List α} (h : RowX E e w lo v xs) : ListS E w Any v xs := by
  obtain ⟨L, rfl, h2, h3⟩ := h
  rcases h2.2 with ⟨rfl, hn⟩ | ⟨g, cap, cur, rfl, h5, h6, h7, h8, h9, h10⟩
  · have : L = [] := List.length_eq_zero_iff.1 hn
    subst this
    exact .nil none 0
  · refine .row g 0 L.length cap L (L.map Prod.fst) rfl (by first | rfl | simp) trivial (World.ownsRow.lt h2 g rfl).2 (fun i v hi => ?_) fun j p hj => E.kidSub (h3 j p hj) fun _ _ => trivial
    have hil := (List.getElem?_eq_some_iff.1 hi).1
    rw [cellsE_length] at hil
    rw [Nat.zero_add, World.ownsRow.cellAt h2 _ hil]
    exact hi
/-- An element that holds nothing but its own cells. -/
def Flat {α : Type} (E : El α) : Prop := (∀ w S U x, E.kid w S U x) ∧ (∀ w S U x, E.own w S U x) ∧ ∀ x U u, u ∈ E.cells x U → u.oneCell' = true
theorem Flat.one {α : Type} {E : El α} (h : Flat E) (M : List (α × Value)) : ∀ u ∈ cellsE E M, u.oneCell' = true := by
  intro u hu
  simp only [cellsE, List.mem_flatMap] at hu
  obtain ⟨p, _, hp⟩ := hu
  exact h.2.2 _ _ _ hp
theorem rowX_cap {e : TypeId} {w : World} {lo size g n cap : Nat} {xs : List Value} (h : w.ownsRow lo e size (.slice (some ⟨g, 0, none⟩) n cap) n xs) : CapOk (.slice (some ⟨g, 0, none⟩) n cap) n := by
  rcases h.2 with ⟨hv, _⟩ | ⟨g', cap', cur, hv, hg0, hg, h1, h2, h3, h4⟩
  · cases hv
  · cases hv
    exact ⟨g, 0, cap, rfl, by omega, by unfold maxLen at h2; exact h2⟩
theorem RowX.ownL {α : Type} {E : El α} {e : TypeId} {w : World} {lo : Nat} {v : Value} {xs : List α} (hF : Flat E) (h : RowX E e w lo v xs) : ListO E e w (iv lo w.heap.size) v xs := by
  obtain ⟨L, rfl, hrow, hch⟩ := h
  have hrow' := hrow
  rcases hrow.2 with ⟨rfl, hn⟩ | ⟨g, cap, cur, rfl, hg0, hg, h1, h2, h3, h4⟩
  · have : L = [] := List.length_eq_zero_iff.1 hn
    subst this
    exact .nil
  · refine .row g L.length cap L (fun _ _ => False) _ rfl rfl ⟨hg0, (World.ownsRow.lt hrow g rfl).2⟩ ⟨hrow.1, .inr ⟨g, cap, cur, rfl, Nat.zero_le _, hg, h1, h2, h3, h4⟩⟩ (fun j p _ => hF.2.1 _ _ _ _) (fun j k _ h => h.elim) fun i j k _ _ h => h.elim
/-- 'append(v, t...)' on such a row, up to many elements. -/
theorem append_rowY {P : Program} {W : World} {ops : Array Oper} {rest : List Oper} {o : Oper} {a : Act} {Q : Exit → Act → World → Prop} (hgd : o.guard = none) (s x : Operand) (t : TypeId)
    (ho : o.op = .call { callee := .builtin .append, args := #[s, x], argTypes := #[t, t] }) {α : Type} (E : El α) (hF : Flat E)
    (lo : Nat) (e : TypeId) (i : TypeInfo) (z : Value) (bytes : Nat) (ht : P.underlying t = some (.slice e)) (hi : P.info? e = some i) (hz : i.zero = some z)
    (hsize : i.size = E.n) (hby : i.bytes = bytes) (hzs : z.cells.size = E.n) (hb128 : bytes ≤ 128)
    (v : Value) (xs : List α) (hs : a.eval s = v) (hown : RowX E e W lo v xs) (A : Option Addr) (m c : Nat) (hx : a.eval x = .slice A m c) (M : List (α × Value)) (hl : M.length = m)
    (hA : A = none → m = 0 ∧ c = 0) (hc : ∀ ad, A = some ad → ∀ j u, (cellsE E M)[j]? = some u → W.cell? (ad.add j) = some u) (hn : xs.length + m ≤ 1099511627776) (hbase : lo ≤ W.heap.size)
    (h : ∀ v' w', RowX E e w' lo v' (xs ++ M.map Prod.fst) → Below lo W w' → wpList P ops Q rest (a.put o.dst v') w') : wpList P ops Q (o :: rest) a W := by
  obtain ⟨L, hL, hrow, hch⟩ := hown
  have hxl : xs.length = L.length := by rw [hL, List.length_map]
  cases A with
  | none =>
    obtain ⟨rfl, rfl⟩ := hA rfl
    have hM : M = [] := List.length_eq_zero_iff.1 hl
    subst hM
    refine wpList_append_own_none hgd s x t ho lo e i E.n ht hi v L.length _ hs hrow hx ?_
    exact h v W (by rw [List.map_nil, List.append_nil]; exact ⟨L, hL, hrow, hch⟩) (Below.refl _ _)
  | some ad =>
    refine wpList_append_own W hgd s x t ho lo e i z E.n bytes ht hi hz hsize hby hzs E.pos v L.length _ hs hrow ad m c (cellsE E M) hx (by rw [cellsE_length, hl]) (hc ad rfl) (hF.one M) (by unfold maxLen; omega) ?_ hbase ?_
    · have : (L.length + m) * bytes ≤ (L.length + m) * 128 := Nat.mul_le_mul_left _ hb128
      omega
    · intro v' w' hown' hg _
      have hB : Below lo W w' := below_of_grown hg hbase (fun k hk => (World.ownsRow.lt hrow k hk).1)
      exact h v' w' ⟨L ++ M, by rw [hL, List.map_append], by rw [List.length_append, hl, cellsE_append]; exact hown', fun j p hj => hF.1 _ _ _ _⟩ hB
/-- A slice with its capacity, nil or not. -/
def CapL (V : Value) (n : Nat) : Prop := (V = .slice none 0 0 ∧ n = 0) ∨ CapOk V n
theorem CapL.slice {V : Value} {n : Nat} (h : CapL V n) : ∃ A cap, V = .slice A n cap ∧ n ≤ cap ∧ cap ≤ 9223372036854775807 ∧ (A = none → n = 0 ∧ cap = 0) := by
  rcases h with ⟨rfl, rfl⟩ | ⟨g, off, cap, rfl, h1, h2⟩
  · exact ⟨none, 0, rfl, Nat.le_refl _, by omega, fun _ => ⟨rfl, rfl⟩⟩
  · exact ⟨_, cap, rfl, h1, h2, fun h => by cases h⟩
theorem RowX.capL {α : Type} {E : El α} {e : TypeId} {w : World} {lo : Nat} {v : Value} {xs : List α} (h : RowX E e w lo v xs) : CapL v xs.length := by
  obtain ⟨L, rfl, hrow, hch⟩ := h
  rw [List.length_map]
  rcases hrow.2 with ⟨hv, hn⟩ | ⟨g, cap, cur, rfl, hg0, hg, h1, h2, h3, h4⟩
  · exact .inl ⟨hv, hn⟩
  · exact .inr ⟨g, 0, cap, rfl, by omega, by unfold maxLen at h2; exact h2⟩
/-- The cells that a readable list holds, wherever it lies. -/
theorem ListS.flatCells {α : Type} {E : El α} {w : World} {S : Nat → Prop} {A : Option Addr} {cap n : Nat} {l : List α} (h : ListS E w S (.slice A n cap) l) :
    ∃ L : List (α × Value), l = L.map Prod.fst ∧ L.length = n ∧ ∀ W, Below w.heap.size w W → ∀ ad, A = some ad → ∀ (j : Nat) (u : Value), (cellsE E L)[j]? = some u → W.cell? (ad.add j) = some u := by
  cases h with
  | nil => exact ⟨[], rfl, rfl, fun W _ ad _ j u hj => by simp [cellsE] at hj⟩
  | row g off n cap L l hl hn hS hg hc hr =>
    refine ⟨L, hl, hn.symm, fun W hW ad ha j u hj => ?_⟩
    cases ha
    rw [addr_add]
    exact (hW.cell (p := ⟨g, off + j, none⟩) hg).trans (hc j u hj)
theorem rowX_at {α : Type} {E : El α} {e : TypeId} {w : World} {lo g k cap : Nat} {xs : List α} (h : RowX E e w lo (.slice (some ⟨g, 0, none⟩) k cap) xs) :
    ∃ L : List (α × Value), xs = L.map Prod.fst ∧ k = L.length ∧ w.ownsRow lo e E.n (.slice (some ⟨g, 0, none⟩) k cap) k (cellsE E L) := by
  obtain ⟨L, hL, hrow, _⟩ := h
  have hk : k = L.length := by
    rcases hrow.2 with ⟨hv, _⟩ | ⟨g', cap', cur, hv, _⟩
    · cases hv
    · cases hv; rfl
  subst hk
  exact ⟨L, hL, rfl, hrow⟩
theorem rowX_some {α : Type} {E : El α} {e : TypeId} {w : World} {lo : Nat} {v : Value} {xs : List α} (h : RowX E e w lo v xs) (hp : 0 < xs.length) : ∃ g k cap, v = .slice (some ⟨g, 0, none⟩) k cap := by
  obtain ⟨g, cap, hv⟩ := h.some hp
  exact ⟨g, _, cap, hv⟩
theorem rowX_base {α : Type} {E : El α} {e : TypeId} {w : World} {lo lo' : Nat} {v : Value} {xs : List α} (hF : Flat E) (h : RowX E e w lo v xs) (hl : lo' ≤ lo) : RowX E e w lo' v xs := by
  obtain ⟨L, hL, hrow, _⟩ := h
  refine ⟨L, hL, ⟨hrow.1, ?_⟩, fun j p _ => hF.1 _ _ _ _⟩
  rcases hrow.2 with hn | ⟨g, cap, cur, hv, hg0, hr⟩
  · exact .inl hn
  · exact .inr ⟨g, cap, cur, hv, Nat.le_trans hl hg0, hr⟩
/-- One element behind a row. -/
theorem rowX_one {α : Type} {E : El α} {e : TypeId} {w : World} {lo k g cap : Nat} {L : List (α × Value)} {xs : List α} {x : α} {U : Value} (hF : Flat E) (hL : xs = L.map Prod.fst) (hk : k = L.length)
    (h : w.ownsRow lo e E.n (.slice (some ⟨g, 0, none⟩) (k + 1) cap) (k + 1) (cellsE E L ++ E.cells x U)) : RowX E e w lo (.slice (some ⟨g, 0, none⟩) (k + 1) cap) (xs ++ [x]) := by
  subst hk
  exact ⟨L ++ [(x, U)], by rw [hL, List.map_append]; rfl, by rw [List.length_append, cellsE_append, cellsE_one]; exact h, fun j p _ => hF.1 _ _ _ _⟩
/-- 's[1:]', read. -/
theorem cut_one {α : Type} {E : El α} {P : Program} (t e : TypeId) (hu : P.underlying t = some (.slice e)) (hsz : ∀ w : World, (Go.sizeOf e).run P w = .ok E.n w) {w : World} {g off cap : Nat} {x : α} {l : List α} {n : Nat} (hn : n = l.length + 1)
    (h : ListS E w Any (.slice (some ⟨g, off, none⟩) n cap) (x :: l)) (hc : n ≤ cap) :
    ∃ off', ListS E w Any (.slice (some ⟨g, off', none⟩) l.length (cap - 1)) l ∧ ∀ W : World, (Instr.slice t (.slice (some ⟨g, off, none⟩) n cap) (some (.int .i64 1)) none none).run P W = .ok (.slice (some ⟨g, off', none⟩) l.length (cap - 1)) W := by
  subst hn
  have hel : P.elem t = e := by unfold Program.elem; rw [hu]
  have hr : ∀ W : World, (Instr.slice t (.slice (some ⟨g, off, none⟩) (l.length + 1) cap) (some (.int .i64 1)) none none).run P W = .ok (sliced (some ⟨g, off, none⟩) 1 (l.length + 1) cap E.n) W := fun W => by
    rw [run_slice_l W t (some ⟨g, off, none⟩) (l.length + 1) cap (by rw [hel]; exact hu) .i64 1 (by omega) (by omega), hel, hsz]
    rfl
  by_cases h1 : cap = 1
  · subst h1
    have hl0 : l = [] := List.length_eq_zero_iff.1 (by omega)
    subst hl0
    refine ⟨off, .nil _ _, fun W => ?_⟩
    rw [hr, sliced, if_pos rfl]
    rfl
  · refine ⟨off + 1 * E.n, ?_, fun W => ?_⟩
    · have hp := h.part 1 (l.length + 1) (cap - 1) (by omega) (by simp)
      rw [List.take_of_length_le (by simp)] at hp
      simpa using hp
    · rw [hr, sliced, if_neg h1, Option.map_some, addr_add]
      rfl
end Go.Proofs.Ytnmdnajbafpfiaa

