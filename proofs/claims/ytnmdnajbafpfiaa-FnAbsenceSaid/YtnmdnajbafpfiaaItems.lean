/-
  ItemsOf: the elements of a term and what is left, plain; rows of terms to which one is appended (owned, and read).
-/
import Derived.Test.YtnmdnajbafpfiaaLaws
import Derived.Deep.LoopGhost
namespace Go.Proofs.Ytnmdnajbafpfiaa
open Go.RowKit
set_option linter.unusedVariables false
set_option linter.unusedSimpArgs false

def itemsN : Nat → Tm → List Tm
  | 0, _ => []
  | n + 1, t => match t.args with | [x, y] => x :: itemsN n y | _ => []
def lastN : Nat → Tm → Tm
  | 0, t => t
  | n + 1, t => match t.args with | [_, y] => lastN n y | _ => t
def Tm.items (t : Tm) : List Tm := itemsN t.nodes t
def Tm.last (t : Tm) : Tm := lastN t.nodes t
theorem nodes_args2 {t x y : Tm} (h : t.args = [x, y]) : t.nodes = 1 + x.nodes + y.nodes := by rw [nodes_eq, h, nodesL, nodesL, nodesL]; omega
theorem itemsN_stable : ∀ (n m : Nat) (t : Tm), t.nodes ≤ n → t.nodes ≤ m → itemsN n t = itemsN m t
  | 0, m, t, h, _ => by have := nodes_pos t; omega
  | n + 1, 0, t, _, h => by have := nodes_pos t; omega
  | n + 1, m + 1, t, h1, h2 => by
    rw [itemsN, itemsN]
    split
    · rename_i x y hxy
      have := nodes_args2 hxy
      rw [itemsN_stable n m y (by omega) (by omega)]
    · rfl
theorem lastN_stable : ∀ (n m : Nat) (t : Tm), t.nodes ≤ n → t.nodes ≤ m → lastN n t = lastN m t
  | 0, m, t, h, _ => by have := nodes_pos t; omega
  | n + 1, 0, t, _, h => by have := nodes_pos t; omega
  | n + 1, m + 1, t, h1, h2 => by
    rw [lastN, lastN]
    split
    · rename_i x y hxy
      have := nodes_args2 hxy
      rw [lastN_stable n m y (by omega) (by omega)]
    · rfl
theorem items_pair {t x y : Tm} (h : t.args = [x, y]) : t.items = x :: y.items := by
  have hn := nodes_args2 h
  obtain ⟨n, hn'⟩ : ∃ n, t.nodes = n + 1 := ⟨t.nodes - 1, by have := nodes_pos t; omega⟩
  rw [Tm.items, hn', itemsN, h]
  show x :: itemsN n y = _
  rw [itemsN_stable n y.nodes y (by omega) (Nat.le_refl _)]
  rfl
theorem last_pair {t x y : Tm} (h : t.args = [x, y]) : t.last = y.last := by
  have hn := nodes_args2 h
  obtain ⟨n, hn'⟩ : ∃ n, t.nodes = n + 1 := ⟨t.nodes - 1, by have := nodes_pos t; omega⟩
  rw [Tm.last, hn', lastN, h]
  show lastN n y = _
  rw [lastN_stable n y.nodes y (by omega) (Nat.le_refl _)]
  rfl
theorem items_atom {t : Tm} (h : t.args = []) : t.items = [] := by
  obtain ⟨n, hn'⟩ : ∃ n, t.nodes = n + 1 := ⟨t.nodes - 1, by have := nodes_pos t; omega⟩
  rw [Tm.items, hn', itemsN, h]
theorem last_atom {t : Tm} (h : t.args = []) : t.last = t := by
  obtain ⟨n, hn'⟩ : ∃ n, t.nodes = n + 1 := ⟨t.nodes - 1, by have := nodes_pos t; omega⟩
  rw [Tm.last, hn', lastN, h]

/-- The row of an owned list, its children, apart. -/
theorem Own.parts {w : World} {e : TypeId} {S : Nat → Prop} {v : Value} {l : List Tm} (h : Own w e S v l) :
    ∃ (L : List (Tm × Value)) (C : Nat → Nat → Prop), l = L.map Prod.fst ∧ w.ownsRow 0 e 4 v L.length (cellsL L) ∧ (∀ k, v.ownBlock = some k → S k) ∧ (∀ (j : Nat) (p : Tm × Value), L[j]? = some p → Own w e (C j) p.2 p.1.args) ∧
      (∀ j k, j < L.length → C j k → S k ∧ v.ownBlock ≠ some k) ∧ (∀ i j k, i < L.length → j < L.length → C i k → C j k → i = j) := by
  cases h with
  | nil S => exact ⟨[], fun _ _ => False, rfl, World.ownsRow_nil w 0 e 4, fun k hk => by simp [Value.ownBlock] at hk, fun j p hj => by simp at hj, fun j k hj => by simp at hj, fun i j k hi => by simp at hi⟩
  | row S g n cap L C l hl hn hg hown hr hC hd =>
    subst hn
    exact ⟨L, C, hl, hown, fun k hk => by simp only [Value.ownBlock, Option.some.injEq] at hk; subst hk; exact hg, hr, fun j k hj hk => ⟨(hC j k hj hk).1, fun e => by simp only [Value.ownBlock, Option.some.injEq] at e; exact (hC j k hj hk).2 e.symm⟩, hd⟩

theorem own_append {w W1 w1 : World} {e : TypeId} {S Su S' : Nat → Prop} {v u : Value} {L : List (Tm × Value)} {C : Nat → Nat → Prop} {x : Tm} {gg cap n : Nat} (hn : n = L.length)
    (hb : ∀ k, v.ownBlock = some k → S k) (hr : ∀ (j : Nat) (p : Tm × Value), L[j]? = some p → Own w e (C j) p.2 p.1.args) (hC : ∀ j k, j < L.length → C j k → S k ∧ v.ownBlock ≠ some k) (hd : ∀ i j k, i < L.length → j < L.length → C i k → C j k → i = j)
    (hu : Own w e Su u x.args) (hS : ∀ k, S k → k < w.heap.size) (hSu : ∀ k, Su k → k < w.heap.size ∧ ¬ S k) (hW : Below w.heap.size w W1)
    (hown : w1.ownsRow 0 e 4 (.slice (some ⟨gg, 0, none⟩) (n + 1) cap) (n + 1) (cellsL L ++ cells4 x u)) (hgr : W1.grownBy w1 v.ownBlock) (hat : v.ownBlock = some gg ∨ w.heap.size ≤ gg)
    (hS' : ∀ k, S k ∨ Su k ∨ k = gg → S' k) : Own w1 e S' (.slice (some ⟨gg, 0, none⟩) (n + 1) cap) (L.map Prod.fst ++ [x]) := by
  subst hn
  have same : ∀ j, j < w.heap.size → v.ownBlock ≠ some j → w1.heap[j]? = w.heap[j]? := fun j hj hne => (hgr.block j (Nat.lt_of_lt_of_le hj hW.size) (fun e => hne e.symm)).trans (hW.block j hj)
  have hSub : ∀ k, Su k → v.ownBlock ≠ some k := fun k hk e => (hSu k hk).2 (hb k e)
  have e1 : cellsL (L ++ [(x, u)]) = cellsL L ++ cells4 x u := by rw [cellsL_append]; simp [cellsL]
  rw [← e1] at hown
  refine .row S' gg (L.length + 1) cap (L ++ [(x, u)]) (fun j k => if j < L.length then C j k else Su k) _ (by simp) (by simp) (hS' gg (.inr (.inr rfl))) hown ?_ ?_ ?_
  · intro j p hj
    by_cases hjl : j < L.length
    · rw [List.getElem?_append_left hjl] at hj
      refine ((hr j p hj).frame fun k hk hks => same k hks (hC j k hjl hk).2).sub fun k hk => ?_
      rw [if_pos hjl]; exact hk
    · have hj' : j = L.length := by
        have := (List.getElem?_eq_some_iff.1 hj).1
        simp at this
        omega
      subst hj'
      rw [List.getElem?_append_right (Nat.le_refl _), Nat.sub_self] at hj
      simp at hj
      subst hj
      refine (hu.frame fun k hk hks => same k hks (hSub k hk)).sub fun k hk => ?_
      rw [if_neg (by omega)]; exact hk
  · intro j k hj hk
    by_cases hjl : j < L.length
    · rw [if_pos hjl] at hk
      have h1 := hC j k hjl hk
      refine ⟨hS' k (.inl h1.1), fun e => ?_⟩
      subst e
      rcases hat with h | h
      · exact h1.2 h
      · have := hS k h1.1; omega
    · rw [if_neg hjl] at hk
      refine ⟨hS' k (.inr (.inl hk)), fun e => ?_⟩
      subst e
      rcases hat with h | h
      · exact hSub k hk h
      · have := (hSu k hk).1; omega
  · intro i j k hi hj hik hjk
    by_cases hil : i < L.length
    · rw [if_pos hil] at hik
      by_cases hjl : j < L.length
      · rw [if_pos hjl] at hjk
        exact hd i j k hil hjl hik hjk
      · rw [if_neg hjl] at hjk
        exact absurd (hC i k hil hik).1 (hSu k hjk).2
    · rw [if_neg hil] at hik
      by_cases hjl : j < L.length
      · rw [if_pos hjl] at hjk
        exact absurd (hC j k hjl hjk).1 (hSu k hik).2
      · omega

/-- A row of terms that can be read, what it reaches apart from the row itself. -/
def RowS (w : World) (lo : Nat) (v : Value) (xs : List Tm) : Prop :=
  ∃ L : List (Tm × Value), L.map Prod.fst = xs ∧ w.ownsRow lo 28 4 v L.length (cellsL L) ∧ ∀ (j : Nat) (p : Tm × Value), L[j]? = some p → ∃ C : Nat → Prop, ArgsS w C p.2 p.1.args ∧ ∀ b, C b → lo ≤ b ∧ b < w.heap.size ∧ v.ownBlock ≠ some b
theorem RowS.slice {w : World} {lo : Nat} {v : Value} {xs : List Tm} (h : RowS w lo v xs) : ∃ a c, v = .slice a xs.length c := by
  obtain ⟨L, rfl, h, _⟩ := h
  rw [List.length_map]
  exact row_slice h
theorem RowS.frame {w w' : World} {lo : Nat} {v : Value} {xs : List Tm} (h : RowS w lo v xs) (hs : w.heap.size ≤ w'.heap.size) (hb : ∀ k, lo ≤ k → k < w.heap.size → w'.heap[k]? = w.heap[k]?) : RowS w' lo v xs := by
  obtain ⟨L, hL, hrow, hch⟩ := h
  refine ⟨L, hL, ?_, fun j p hj => ?_⟩
  · refine ⟨hrow.1, ?_⟩
    rcases hrow.2 with hn | ⟨g, cap, cur, rfl, h1, h2, h3⟩
    · exact .inl hn
    · exact .inr ⟨g, cap, cur, rfl, h1, (hb g h1 (Array.getElem?_eq_some_iff.1 h2).1).trans h2, h3⟩
  · obtain ⟨C, c1, c2⟩ := hch j p hj
    exact ⟨C, c1.frame hs fun k hk hks => hb k (c2 k hk).1 hks, fun b hb' => ⟨(c2 b hb').1, Nat.lt_of_lt_of_le (c2 b hb').2.1 hs, (c2 b hb').2.2⟩⟩
theorem RowS.args {w : World} {lo : Nat} {v : Value} {xs : List Tm} (h : RowS w lo v xs) : ArgsS w (iv lo w.heap.size) v xs := by
  obtain ⟨L, rfl, hrow, hch⟩ := h
  exact argsS_row hrow (fun k hk => World.ownsRow.lt hrow k hk) fun j p hj => by
    obtain ⟨C, c1, c2⟩ := hch j p hj
    exact c1.sub fun b hb => ⟨(c2 b hb).1, (c2 b hb).2.1⟩
theorem rowS_append {w W1 w1 : World} {lo mid : Nat} {v u : Value} {L : List (Tm × Value)} {x : Tm} {gg cap n : Nat} (hn : n = L.length)
    (hrow : w.ownsRow lo 28 4 v n (cellsL L)) (hch : ∀ (j : Nat) (p : Tm × Value), L[j]? = some p → ∃ C : Nat → Prop, ArgsS w C p.2 p.1.args ∧ ∀ b, C b → lo ≤ b ∧ b < w.heap.size ∧ v.ownBlock ≠ some b)
    (hu : ArgsS w (iv mid w.heap.size) u x.args) (hv : ∀ k, v.ownBlock = some k → k < mid) (hm : lo ≤ mid) (hW : Below w.heap.size w W1)
    (hown : w1.ownsRow lo 28 4 (.slice (some ⟨gg, 0, none⟩) (n + 1) cap) (n + 1) (cellsL L ++ cells4 x u)) (hgr : W1.grownBy w1 v.ownBlock) (hat : v.ownBlock = some gg ∨ w.heap.size ≤ gg) :
    RowS w1 lo (.slice (some ⟨gg, 0, none⟩) (n + 1) cap) (L.map Prod.fst ++ [x]) := by
  subst hn
  have hs : w.heap.size ≤ w1.heap.size := Nat.le_trans hW.size hgr.size
  have same : ∀ j, j < w.heap.size → v.ownBlock ≠ some j → w1.heap[j]? = w.heap[j]? := fun j hj hne => (hgr.block j (Nat.lt_of_lt_of_le hj hW.size) (fun e => hne e.symm)).trans (hW.block j hj)
  have e1 : cellsL (L ++ [(x, u)]) = cellsL L ++ cells4 x u := by rw [cellsL_append]; simp [cellsL]
  rw [← e1] at hown
  refine ⟨L ++ [(x, u)], by simp, by simpa using hown, fun j p hj => ?_⟩
  by_cases hjl : j < L.length
  · rw [List.getElem?_append_left hjl] at hj
    obtain ⟨C, c1, c2⟩ := hch j p hj
    refine ⟨C, c1.frame hs fun k hk hks => same k hks (c2 k hk).2.2, fun b hb => ⟨(c2 b hb).1, Nat.lt_of_lt_of_le (c2 b hb).2.1 hs, fun e => ?_⟩⟩
    simp only [Value.ownBlock, Option.some.injEq] at e
    subst e
    rcases hat with h | h
    · exact (c2 _ hb).2.2 h
    · have := (c2 _ hb).2.1; omega
  · have hj' : j = L.length := by
      have := (List.getElem?_eq_some_iff.1 hj).1
      simp at this
      omega
    subst hj'
    rw [List.getElem?_append_right (Nat.le_refl _), Nat.sub_self] at hj
    simp at hj
    subst hj
    refine ⟨iv mid w.heap.size, hu.frame hs fun k hk hks => same k hks (fun e => by have h1 := hv k e; have h2 := hk.1; omega), fun b hb => ⟨by have := hb.1; omega, Nat.lt_of_lt_of_le hb.2 hs, fun e => ?_⟩⟩
    simp only [Value.ownBlock, Option.some.injEq] at e
    subst e
    rcases hat with h | h
    · have h1 := hv _ h; have h2 := hb.1; omega
    · have := hb.2; omega

open Classical in
noncomputable def itT (t : Tm) : List Tm := if Ok t then t.items else []
open Classical in
noncomputable def itL (t : Tm) : Tm := if Ok t then t.last else zeroTm
theorem szN_items : ∀ (n : Nat) (t : Tm), szL (itemsN n t) + (lastN n t).sz ≤ t.sz
  | 0, t => by rw [itemsN, lastN, szL]; omega
  | n + 1, t => by
    rw [itemsN, lastN]
    split
    · rename_i x y hxy
      have h := szN_items n y
      have h2 := sz_eq t
      rw [hxy, szL, szL, szL] at h2
      show szL (x :: itemsN n y) + (lastN n y).sz ≤ t.sz
      rw [szL]
      omega
    · rw [szL]; omega
theorem it_szL {t : Tm} (h : t.sz ≤ 1048576) : szL (itT t) ≤ 1048576 := by
  unfold itT
  split
  · have := szN_items t.nodes t; unfold Tm.items; omega
  · rw [szL]; omega
theorem it_sz {t : Tm} (h : t.sz ≤ 1048576) : (itL t).sz ≤ 1048576 := by
  unfold itL
  split
  · have := szN_items t.nodes t; unfold Tm.last; omega
  · simp [zeroTm, Tm.sz, szL, ByteArray.size]
theorem nlL_bd {l : List Tm} (h : szL l ≤ 1048576) : nodesL l ≤ 1048576 := by have h1 := nodesL_sz l; omega
theorem it_no {t : Tm} (h : ¬ Ok t) : itT t = [] ∧ itL t = zeroTm := ⟨by rw [itT, if_neg h], by rw [itL, if_neg h]⟩
theorem it_yes {t : Tm} (h : Ok t) : itT t = t.items ∧ itL t = t.last := ⟨by rw [itT, if_pos h], by rw [itL, if_pos h]⟩

theorem At.grown {w w' : World} {lo hi : Nat} {P : World → Prop} {row : Option Nat} (h : At w lo hi P) (hg : w.grownBy w' row) (hne : ∀ k, row = some k → k < lo ∨ hi ≤ k) : At w' lo hi P :=
  ⟨h.stays w w' h.now h.le (fun k h1 h2 => hg.block k (Nat.lt_of_lt_of_le h2 h.le) fun e => by have := hne k e.symm; omega) hg.size, h.stays, Nat.le_trans h.le hg.size⟩
theorem store4 {w : World} {b : Nat} {e : TypeId} {x0 x1 x2 x3 : Value} (h : w.heap[b]? = some (Obj.cells #[x0, x1, x2, x3] e)) (y0 y1 y2 y3 : Value) :
    ((((w.setCell ⟨b, 0, none⟩ y0).setCell ⟨b, 1, none⟩ y1).setCell ⟨b, 2, none⟩ y2).setCell ⟨b, 3, none⟩ y3).heap[b]? = some (Obj.cells #[y0, y1, y2, y3] e) ∧
      Only (iv b (b + 1)) w ((((w.setCell ⟨b, 0, none⟩ y0).setCell ⟨b, 1, none⟩ y1).setCell ⟨b, 2, none⟩ y2).setCell ⟨b, 3, none⟩ y3) := by
  have h0 := heap_setCell_same w b 0 _ e y0 h
  have h1 := heap_setCell_same _ b 1 _ e y1 h0
  have h2 := heap_setCell_same _ b 2 _ e y2 h1
  have h3 := heap_setCell_same _ b 3 _ e y3 h2
  have one : ∀ (W : World) (j : Nat) (u : Value), Only (iv b (b + 1)) W (W.setCell ⟨b, j, none⟩ u) := fun W j u => ⟨rfl, rfl, rfl, by simp, fun k _ hk => Below.heap_setCell _ _ _ _ (fun e => hk (by subst e; unfold iv; simp))⟩
  exact ⟨h3, (((one _ _ _).trans (one _ _ _)).trans (one _ _ _)).trans (one _ _ _)⟩
theorem results_row2 {P : Program} {fn : Func} {p q : Tmp} {ty : TypeId} (h : fn.results = #[.tmp q, .cell p ty]) (tmps : Array Value) (w : World) (g : Nat) (t : TypeId) (cs : Array Value) (fr : Nat × Nat) (d : TypeDesc)
    (hp : tmps.getD p undef = .pointer (some ⟨g, 0, none⟩)) (hg : w.heap[g]? = some (.cells cs t fr))
    (hu : P.underlying ty = some d) (hd : (match d with | .struct _ | .array _ _ => true | _ => false) = true) (hi : (P.info? ty).map (·.size) = some cs.size) :
    (results fn tmps).run P w = .ok (.tuple #[tmps.getD q undef, .agg cs]) w := by
  have hp' : tmps[p]?.getD undef = .pointer (some ⟨g, 0, none⟩) := by simpa using hp
  simp [results, h, hp', asAddr, run_loadVar_row w g t ty cs fr d hg hu hd hi]
/-- The return of a first result, and of a struct of four cells that has just been stored into the second result's variable. -/
theorem bodyPost_four3 {P : Program} {fn : Func} {R : Ending → World → Prop} {a : Act} {w : World} {p q : Tmp} {ty e : TypeId} {b : Nat} {x0 x1 x2 x3 y0 y1 y2 y3 z : Value} {fs : Array Field} (h : fn.results = #[.tmp q, .cell p ty]) (hp : a.tmps.getD p undef = .pointer (some ⟨b, 0, none⟩)) (hq : a.tmps.getD q undef = z) (hd : a.defers = [])
    (hu : P.underlying ty = some (.struct fs)) (hi : (P.info? ty).map (·.size) = some 4) (hb : w.heap[b]? = some (Obj.cells #[x0, x1, x2, x3] e))
    (hR : ∀ w', Only (iv b (b + 1)) w w' → R (.returned (.tuple #[z, .agg #[y0, y1, y2, y3]])) w') :
    bodyPost P fn R .ret a ((((w.setCell ⟨b, 0, none⟩ y0).setCell ⟨b, 1, none⟩ y1).setCell ⟨b, 2, none⟩ y2).setCell ⟨b, 3, none⟩ y3) := by
  subst hq
  obtain ⟨h3, ho⟩ := store4 hb y0 y1 y2 y3
  exact bodyPost_ret (results_row2 h _ _ b e #[y0, y1, y2, y3] (0, 0) _ hp h3 hu rfl hi) hd (hR _ ho)

/-- The answers: a list of terms and a term, both new, of the call's own, apart. -/
def NewIt (xs : List Tm) (t : Tm) (w : World) (e : Ending) (w' : World) : Prop :=
  ∃ (mid : Nat) (v u : Value), e = .returned (.tuple #[v, .agg #[.int .i64 t.kind, .int .i64 t.num, .string t.name, u]]) ∧ w.heap.size ≤ mid ∧ mid ≤ w'.heap.size ∧ Own w' 28 (iv w.heap.size mid) v xs ∧ Own w' 28 (iv mid w'.heap.size) u t.args ∧ Below w.heap.size w w'
/-- The answers: a list of terms and a term, to be read. -/
def OldIt (xs : List Tm) (t : Tm) (w : World) (e : Ending) (w' : World) : Prop :=
  ∃ (v u : Value), e = .returned (.tuple #[v, .agg #[.int .i64 t.kind, .int .i64 t.num, .string t.name, u]]) ∧ ArgsAt w' v xs ∧ ArgsAt w' u t.args ∧ Below w.heap.size w w'
end Go.Proofs.Ytnmdnajbafpfiaa

