/-
  A row of terms of the call's own, in the model. (Written by wip/tools/gen_inst8.py.)
-/
import Derived.Test.YtnmdnajbafpfiaaTmE
import Derived.Laws.AppendOwnNone
namespace Go.Proofs.Ytnmdnajbafpfiaa
open Go.RowKit
set_option linter.unusedVariables false
set_option linter.unusedSimpArgs false

/-! ### A row of the call's own whose elements hold what lies below it -/
def RowX {α : Type} (E : El α) (e : TypeId) (w : World) (lo : Nat) (v : Value) (xs : List α) : Prop :=
  ∃ L : List (α × Value), xs = L.map Prod.fst ∧ w.ownsRow lo e E.n v L.length (cellsE E L) ∧ ∀ (j : Nat) (p : α × Value), L[j]? = some p → E.kid w (fun b => b < lo) p.2 p.1
theorem RowX.kept {α : Type} {E : El α} {e : TypeId} {w w' : World} {lo : Nat} {v : Value} {xs : List α} (h : RowX E e w lo v xs) (hb : Below w.heap.size w w') : RowX E e w' lo v xs := by
  obtain ⟨L, hL, hrow, hch⟩ := h
  exact ⟨L, hL, rowE_moved hrow fun k hk => hb.block k (World.ownsRow.lt hrow k hk).2, fun j p hj => E.kidFrame (hch j p hj) hb.size fun k _ hk => hb.block k hk⟩
theorem RowX.some {α : Type} {E : El α} {e : TypeId} {w : World} {lo : Nat} {v : Value} {xs : List α} (h : RowX E e w lo v xs) (hp : 0 < xs.length) : ∃ g cap, v = .slice (some ⟨g, 0, none⟩) xs.length cap := by
  obtain ⟨L, rfl, hrow, hch⟩ := h
  rw [List.length_map] at hp ⊢
  rcases hrow.2 with ⟨_, hn⟩ | ⟨g', cap', cur, he, h1, h2⟩
  · omega
  · exact ⟨g', cap', he⟩
theorem rowX_start {α : Type} {E : El α} {e : TypeId} {w : World} {lo : Nat} (hl : lo ≤ w.heap.size) : RowX E e (w.alloc (.cells #[] e)) lo (.slice (some ⟨w.heap.size, 0, none⟩) 0 0) [] :=
  ⟨[], rfl, ⟨by simp [cellsE], .inr ⟨w.heap.size, 0, #[], rfl, hl, heap_new w _, Nat.le_refl _, Nat.zero_le _, by simp, by simp [cellsE]⟩⟩, fun j p hj => by simp at hj⟩
/-- 'append(v, t...)' on such a row: t nil, empty or structs that can be read. -/
theorem append_rowX {P : Program} {W : World} {ops : Array Oper} {rest : List Oper} {o : Oper} {a : Act} {Q : Exit → Act → World → Prop} (hgd : o.guard = none) (s x : Operand) (t : TypeId)
    (ho : o.op = .call { callee := .builtin .append, args := #[s, x], argTypes := #[t, t] }) {α : Type} (E : El α)
    (lo : Nat) (e : TypeId) (i : TypeInfo) (z : Value) (bytes : Nat) (ht : P.underlying t = some (.slice e)) (hi : P.info? e = some i) (hz : i.zero = some z)
    (hsize : i.size = E.n) (hby : i.bytes = bytes) (hzs : z.cells.size = E.n) (hb128 : bytes ≤ 128)
    (v : Value) (xs : List α) (hs : a.eval s = v) (hown : RowX E e W lo v xs) (A : Option Addr) (m c : Nat) (hx : a.eval x = .slice A m c) (M : List (α × Value)) (hl : M.length = m)
    (hA : A = none → m = 0 ∧ c = 0) (hc : ∀ ad, A = some ad → ∀ j u, (cellsE E M)[j]? = some u → W.cell? (ad.add j) = some u) (h1 : ∀ u ∈ cellsE E M, u.oneCell' = true)
    (hk : ∀ (j : Nat) (p : α × Value), M[j]? = some p → E.kid W (fun b => b < lo) p.2 p.1) (hn : xs.length + m ≤ 1073741824) (hbase : lo ≤ W.heap.size)
    (h : ∀ v' w', RowX E e w' lo v' (xs ++ M.map Prod.fst) → Below lo W w' → wpList P ops Q rest (a.put o.dst v') w') : wpList P ops Q (o :: rest) a W := by
  obtain ⟨L, hL, hrow, hch⟩ := hown
  have hxl : xs.length = L.length := by rw [hL, List.length_map]
  cases A with
  | none =>
    obtain ⟨rfl, rfl⟩ := hA rfl
    have hM : M = [] := List.length_eq_zero_iff.1 hl
    subst hM
    refine wpList_append_own_none hgd s x t ho lo e i E.n ht hi v L.length _ hs hrow hx ?_
    exact h v W (by rw [List.map_nil, List.append_nil]; exact ⟨L, hL, hrow, hch⟩) (Below.refl _ _)
  | some ad =>
    refine wpList_append_own W hgd s x t ho lo e i z E.n bytes ht hi hz hsize hby hzs E.pos v L.length _ hs hrow ad m c (cellsE E M) hx (by rw [cellsE_length, hl]) (hc ad rfl) h1 (by unfold maxLen; omega) ?_ hbase ?_
    · have : (L.length + m) * bytes ≤ (L.length + m) * 128 := Nat.mul_le_mul_left _ hb128
      omega
    · intro v' w' hown' hg _
      have hB : Below lo W w' := below_of_grown hg hbase (fun k hk => (World.ownsRow.lt hrow k hk).1)
      refine h v' w' ⟨L ++ M, by rw [hL, List.map_append], by rw [List.length_append, hl, cellsE_append]; exact hown', fun j p hj => ?_⟩ hB
      have hW : E.kid W (fun b => b < lo) p.2 p.1 := by
        by_cases hjl : j < L.length
        · rw [List.getElem?_append_left hjl] at hj
          exact hch j p hj
        · rw [List.getElem?_append_right (by omega)] at hj
          exact hk _ p hj
      exact E.kidFrame hW hB.size fun k hk _ => hB.block k hk

theorem RowX.tms {w : World} {lo : Nat} {V : Value} {l : List Tm} (h : RowX tmE 28 w lo V l) : ArgsAt w V l := by
  obtain ⟨L, rfl, h2, h3⟩ := h
  rcases h2.2 with ⟨rfl, hn⟩ | ⟨g, cap, cur, rfl, h5, h6, h7, h8, h9, h10⟩
  · have : L = [] := List.length_eq_zero_iff.1 hn
    subst this
    exact (ArgsS.nil (S := fun _ => True) none 0).at
  · have hlen := cellsE_length tmE L
    refine (ArgsS.row (S := fun k => k < w.heap.size) g 0 L.length cap (fun j => ((L[j]?).map Prod.snd).getD (.int .i64 0)) _ (by rw [List.length_map]) (World.ownsRow.lt h2 g rfl).2 (World.ownsRow.lt h2 g rfl).2 (fun j t hj i v hv => ?_) fun j t hj => ?_).at
    · rw [List.getElem?_map] at hj
      obtain ⟨p, hp, rfl⟩ := Option.map_eq_some_iff.1 hj
      rw [hp] at hv
      have h := cellsE_at (E := tmE) hp hv
      have hi : j * 4 + i < L.length * 4 := by rw [← show (cellsE tmE L).length = L.length * 4 from hlen]; exact (List.getElem?_eq_some_iff.1 h).1
      rw [Nat.zero_add, World.ownsRow.cellAt h2 _ hi]
      exact h
    · rw [List.getElem?_map] at hj
      obtain ⟨p, hp, rfl⟩ := Option.map_eq_some_iff.1 hj
      rw [hp]
      exact (show ArgsS w (fun b => b < lo) p.2 p.1.args from h3 j p hp).at.inS
/-- The same, wherever the row lies. -/
def OwnX (w : World) (V : Value) (l : List Tm) : Prop := ∃ lo, lo ≤ w.heap.size ∧ RowX tmE 28 w lo V l
theorem OwnX.kept {w w' : World} {V : Value} {l : List Tm} (h : OwnX w V l) (hb : Below w.heap.size w w') : OwnX w' V l := by
  obtain ⟨lo, h1, h2⟩ := h
  exact ⟨lo, Nat.le_trans h1 hb.size, h2.kept hb⟩
theorem OwnX.at {w : World} {V : Value} {l : List Tm} (h : OwnX w V l) : ArgsAt w V l := by
  obtain ⟨lo, _, h2⟩ := h
  exact h2.tms
end Go.Proofs.Ytnmdnajbafpfiaa

