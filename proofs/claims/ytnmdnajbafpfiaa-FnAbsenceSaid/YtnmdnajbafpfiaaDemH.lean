/-
  Lists of lists: a slice cut in the middle, a row of slices appended, what such a row reads as; sums of lengths.
-/
import Derived.Test.YtnmdnajbafpfiaaDemG
import Derived.Test.YtnmdnajbafpfiaaDemP
namespace Go.Proofs.Ytnmdnajbafpfiaa
open Go.RowKit
set_option linter.unusedVariables false
set_option linter.unusedSimpArgs false

/-- 's[lo:hi]', read. -/
theorem cut_mid {α : Type} {E : El α} {P : Program} (t e : TypeId) (hu : P.underlying t = some (.slice e)) (hsz : ∀ w : World, (Go.sizeOf e).run P w = .ok E.n w) {w : World} {A : Option Addr} {cap n lo hi : Nat} {l : List α} (hn : n = l.length)
    (h : ListS E w Any (.slice A n cap) l) (h1 : lo < hi) (h2 : hi ≤ n) (hc : n ≤ cap) {b : Int} (hb : b = (hi : Int)) :
    ∃ g off, ListS E w Any (.slice (some ⟨g, off, none⟩) (hi - lo) (cap - lo)) ((l.take hi).drop lo) ∧ ∀ W : World, (Instr.slice t (.slice A n cap) (some (.int .i64 (lo : Int))) (some (.int .i64 b)) none).run P W = .ok (.slice (some ⟨g, off, none⟩) (hi - lo) (cap - lo)) W := by
  subst hn
  subst hb
  have hel : P.elem t = e := by unfold Program.elem; rw [hu]
  obtain ⟨x, hx⟩ : ∃ x, l[0]? = some x := ⟨_, List.getElem?_eq_getElem (by omega)⟩
  obtain ⟨g, off, U, rfl, _, _, _, _, _⟩ := h.elem hx
  refine ⟨g, off + lo * E.n, h.part lo hi (cap - lo) (by omega) h2, fun W => ?_⟩
  rw [run_slice_lh W t (some ⟨g, off, none⟩) l.length cap (by rw [hel]; exact hu) .i64 .i64 (lo : Int) (hi : Int) (by omega) (by omega) (by omega), hel, hsz]
  show Result.ok (sliced (some ⟨g, off, none⟩) (lo : Int).toNat (hi : Int).toNat cap E.n) W = _
  rw [Int.toNat_natCast, Int.toNat_natCast, sliced, if_neg (by omega), Option.map_some, addr_add]

/-- One slice appended to a row of slices: what is left as it was, where the row lies. -/
theorem append_oneG {P : Program} {W : World} {ops : Array Oper} {rest : List Oper} {o : Oper} {a : Act} {Q : Exit → Act → World → Prop} (hgd : o.guard = none) (s x : Operand) (t : TypeId)
    (ho : o.op = .call { callee := .builtin .append, args := #[s, x], argTypes := #[t, t] })
    (base : Nat) (e : TypeId) (i : TypeInfo) (z : Value) (bytes : Nat) (ht : P.underlying t = some (.slice e)) (hi : P.info? e = some i) (hz : i.zero = some z)
    (hsize : i.size = 1) (hby : i.bytes = bytes) (hzs : z.cells.size = 1) (hb16 : bytes ≤ 24)
    (v : Value) (xs : List Value) (hs : a.eval s = v) (hown : Row W base e v xs)
    (u : Value) (hu : u.oneCell' = true) (hx : a.eval x = .slice (some ⟨W.heap.size, 0, none⟩) 1 1)
    (hn : xs.length ≤ 1099511627776) (hbase : base ≤ W.heap.size)
    (h : ∀ v' w', Row w' base e v' (xs ++ [u]) → Below base W w' → (∀ k, k < W.heap.size → v.ownBlock ≠ some k → w'.heap[k]? = W.heap[k]?) → (∀ k, v'.ownBlock = some k → v.ownBlock = some k ∨ W.heap.size ≤ k) → W.heap.size ≤ w'.heap.size → wpList P ops Q rest (a.put o.dst v') w') : wpList P ops Q (o :: rest) a (W.alloc (.cells #[u] e)) := by
  refine wpList_append_lies (W.alloc (.cells #[u] e)) hgd s x t ho base e i z 1 bytes ht hi hz hsize hby hzs (by decide) v xs.length xs hs (hown.alloc _) ⟨W.heap.size, 0, none⟩ 1 1 [u] hx rfl ?_ ?_ (by decide) ?_ ?_ ?_ (W.heap.size + 1) (by simp) ?_
  · intro j y hj
    match j, hj with
    | 0, hj => simp at hj; subst hj; simp [Addr.add]
  · intro y hy; simp at hy; subst hy; exact hu
  · unfold maxLen; omega
  · have : (xs.length + 1) * bytes ≤ (xs.length + 1) * 24 := Nat.mul_le_mul_left _ hb16
    omega
  · simp; omega
  · intro g cap w' hown' hg hat hlt
    have hB : Below base W w' := ((Below.refl base W).alloc hbase _).grown hg (by simp; omega) (fun k hk => hown.ge k hk)
    refine h _ w' ?_ hB (fun k hk hne => ?_) (fun k hk => ?_) hB.size
    · show w'.ownsRow base e 1 _ (xs ++ [u]).length (xs ++ [u])
      rw [List.length_append]
      exact hown'
    · rw [hg.block k (by simp; omega) (fun e => hne e.symm)]
      exact (belowAlloc (Below.refl W.heap.size W) _).block k hk
    · simp only [Value.ownBlock, Option.some.injEq] at hk
      subst hk
      rcases hat with h | h
      · exact .inl h
      · exact .inr (by omega)

/-! ### Sums of lengths -/
def lenS {α : Type} : List (List α) → Nat
  | [] => 0
  | l :: ls => l.length + lenS ls
theorem lenS_append {α : Type} (a b : List (List α)) : lenS (a ++ b) = lenS a + lenS b := by
  induction a with
  | nil => simp [lenS]
  | cons x l ih => simp only [List.cons_append, lenS, ih]; omega
theorem lenS_parts {α : Type} (ls : List (List α)) (k : Nat) : lenS (ls.take k) + lenS (ls.drop k) = lenS ls := by
  rw [← lenS_append, List.take_append_drop]
theorem allJ_len {α : Type} (O : KeyO α) : ∀ (n : Nat) (ls : List (List α)) (r : List α), allJ O n ls = some r → r.length ≤ lenS ls := by
  intro n
  induction n with
  | zero => intro ls r h; rw [allJ] at h; cases h; exact Nat.zero_le _
  | succ n ih =>
    intro ls r h
    match ls with
    | [] => rw [allJ] at h; cases h; exact Nat.zero_le _
    | [l] => rw [allJ] at h; cases h; simp [lenS]
    | l1 :: l2 :: ls' =>
      have h2 : 2 ≤ (l1 :: l2 :: ls').length := by simp
      generalize l1 :: l2 :: ls' = ls at h h2 ⊢
      rw [allJ_two O n h2] at h
      cases hA : allJ O n (ls.take (ls.length / 2)) with
      | none => rw [hA] at h; cases h
      | some a =>
        cases hB : allJ O n (ls.drop (ls.length / 2)) with
        | none => rw [hA, hB] at h; cases h
        | some b =>
          rw [hA, hB] at h
          have h3 := jn_len (a.length + b.length) a b r (Nat.le_refl _) h
          have h4 := ih _ _ hA
          have h5 := ih _ _ hB
          have h6 := lenS_parts ls (ls.length / 2)
          omega

/-! ### A row of lists -/
/-- Each list apart from the row itself. -/
def ListsR {α : Type} (E : El α) (e te : TypeId) (w : World) (lo : Nat) (v : Value) (Ls : List (List α)) : Prop :=
  ∃ ps : List Value, ps.length = Ls.length ∧ Row w lo te v ps ∧ ∀ (j : Nat) (p : Value) (L : List α), ps[j]? = some p → Ls[j]? = some L → ListO E e w (fun k => lo ≤ k ∧ k < w.heap.size ∧ v.ownBlock ≠ some k) p L ∧ CapL p L.length
theorem listsR_nil {α : Type} (E : El α) (e te : TypeId) (w : World) (lo : Nat) : ListsR E e te w lo (.slice none 0 0) ([] : List (List α)) := ⟨[], rfl, Row.nil _ _ _, fun j p L h => by simp at h⟩
theorem ListsR.kept {α : Type} {E : El α} {e te : TypeId} {w w' : World} {lo : Nat} {v : Value} {Ls : List (List α)} (h : ListsR E e te w lo v Ls) (hb : Below w.heap.size w w') : ListsR E e te w' lo v Ls := by
  obtain ⟨ps, h1, h2, h3⟩ := h
  refine ⟨ps, h1, h2.kept hb, fun j p L hp hL => ?_⟩
  obtain ⟨a, b⟩ := h3 j p L hp hL
  exact ⟨(a.kept hb).sub fun k hk => ⟨hk.1, Nat.lt_of_lt_of_le hk.2.1 hb.size, hk.2.2⟩, b⟩
/-- One list more. -/
theorem ListsR.snoc {α : Type} {E : El α} {e te : TypeId} {w w' : World} {lo : Nat} {v v' p : Value} {Ls : List (List α)} {L : List α} {ps : List Value}
    (hps : ps.length = Ls.length) (hE : ∀ (j : Nat) (p : Value) (L : List α), ps[j]? = some p → Ls[j]? = some L → ListO E e w (fun k => lo ≤ k ∧ k < w.heap.size ∧ v.ownBlock ≠ some k) p L ∧ CapL p L.length)
    (hp : ListO E e w (fun k => lo ≤ k ∧ k < w.heap.size ∧ v.ownBlock ≠ some k) p L) (hc : CapL p L.length)
    (hr : Row w' lo te v' (ps ++ [p])) (hk : ∀ k, k < w.heap.size → v.ownBlock ≠ some k → w'.heap[k]? = w.heap[k]?) (hv : ∀ k, v'.ownBlock = some k → v.ownBlock = some k ∨ w.heap.size ≤ k) (hs : w.heap.size ≤ w'.heap.size) :
    ListsR E e te w' lo v' (Ls ++ [L]) := by
  have mv : ∀ (q : Value) (M : List α), ListO E e w (fun k => lo ≤ k ∧ k < w.heap.size ∧ v.ownBlock ≠ some k) q M → ListO E e w' (fun k => lo ≤ k ∧ k < w'.heap.size ∧ v'.ownBlock ≠ some k) q M := fun q M h =>
    (h.frame fun k h1 h2 => hk k h2 h1.2.2).sub fun k h1 => ⟨h1.1, Nat.lt_of_lt_of_le h1.2.1 hs, fun e => by rcases hv k e with h | h; exact h1.2.2 h; have := h1.2.1; omega⟩
  refine ⟨ps ++ [p], by rw [List.length_append, List.length_append, hps]; rfl, hr, fun j q M hq hM => ?_⟩
  by_cases hj : j < ps.length
  · rw [List.getElem?_append_left hj] at hq
    rw [List.getElem?_append_left (by omega)] at hM
    obtain ⟨a, b⟩ := hE j q M hq hM
    exact ⟨mv q M a, b⟩
  · rw [List.getElem?_append_right (by omega)] at hq
    rw [List.getElem?_append_right (by omega)] at hM
    have h0 : j - ps.length = 0 := by
      have := (List.getElem?_eq_some_iff.1 hq).1
      simpa using this
    rw [h0] at hq
    rw [← hps, h0] at hM
    simp at hq hM
    subst hq
    subst hM
    exact ⟨mv _ _ hp, hc⟩
/-- Lists that can be read, each of them owned, from a bound on. -/
def ListsV {α : Type} (E : El α) (e : TypeId) (w : World) (lo : Nat) (V : Value) (Ls : List (List α)) : Prop :=
  ∃ ps : List Value, ps.length = Ls.length ∧ Vals w V ps ∧ ∀ (j : Nat) (p : Value) (L : List α), ps[j]? = some p → Ls[j]? = some L → ListO E e w (fun k => lo ≤ k ∧ k < w.heap.size) p L ∧ CapL p L.length
theorem ListsR.vals {α : Type} {E : El α} {e te : TypeId} {w : World} {lo : Nat} {v : Value} {Ls : List (List α)} (h : ListsR E e te w lo v Ls) : ListsV E e w lo v Ls := by
  obtain ⟨ps, h1, h2, h3⟩ := h
  exact ⟨ps, h1, h2.vals, fun j p L hp hL => ⟨(h3 j p L hp hL).1.sub fun k hk => ⟨hk.1, hk.2.1⟩, (h3 j p L hp hL).2⟩⟩
theorem ListsV.kept {α : Type} {E : El α} {e : TypeId} {w w' : World} {lo : Nat} {V : Value} {Ls : List (List α)} (h : ListsV E e w lo V Ls) (hb : Below w.heap.size w w') : ListsV E e w' lo V Ls := by
  obtain ⟨ps, h1, h2, h3⟩ := h
  refine ⟨ps, h1, h2.kept hb, fun j p L hp hL => ?_⟩
  obtain ⟨a, b⟩ := h3 j p L hp hL
  exact ⟨(a.kept hb).sub fun k hk => ⟨hk.1, Nat.lt_of_lt_of_le hk.2 hb.size⟩, b⟩
theorem rowCap {w : World} {lo : Nat} {te : TypeId} {v : Value} {ps : List Value} (h : Row w lo te v ps) : CapL v ps.length := by
  rcases h.2 with ⟨hv, hn⟩ | ⟨g, cap, cur, rfl, hg0, hg, h1, h2, h3, h4⟩
  · exact .inl ⟨hv, hn⟩
  · exact .inr ⟨g, 0, cap, rfl, by omega, by unfold maxLen at h2; exact h2⟩
theorem ListsR.cap {α : Type} {E : El α} {e te : TypeId} {w : World} {lo : Nat} {v : Value} {Ls : List (List α)} (h : ListsR E e te w lo v Ls) : CapL v Ls.length := by
  obtain ⟨ps, h1, h2, h3⟩ := h
  rw [← h1]
  exact rowCap h2
/-- Two parts of a slice of one-cell values. -/
theorem vals_cut {P : Program} (t e : TypeId) (hu : P.underlying t = some (.slice e)) (hsz : ∀ w : World, (Go.sizeOf e).run P w = .ok 1 w) {w : World} {A : Option Addr} {cap n k : Nat} {ps : List Value} (hn : n = ps.length)
    (h : Vals w (.slice A n cap) ps) (h1 : 0 < k) (h2 : k < n) (hc : n ≤ cap) :
    ∃ g off, (∀ W : World, (Instr.slice t (.slice A n cap) none (some (.int .i64 (k : Int))) none).run P W = .ok (.slice (some ⟨g, off, none⟩) k cap) W) ∧ Vals w (.slice (some ⟨g, off, none⟩) k cap) (ps.take k) ∧
      (∀ W : World, (Instr.slice t (.slice A n cap) (some (.int .i64 (k : Int))) none none).run P W = .ok (.slice (some ⟨g, off + k, none⟩) (n - k) (cap - k)) W) ∧ Vals w (.slice (some ⟨g, off + k, none⟩) (n - k) (cap - k)) (ps.drop k) := by
  subst hn
  have hel : P.elem t = e := by unfold Program.elem; rw [hu]
  obtain ⟨a', cap', hv, hr⟩ := h
  have hr2 := hr.resolve_left (fun e => by rw [e] at h2; simp at h2)
  obtain ⟨g, off, rfl, hg, hcell⟩ := hr2
  cases hv
  refine ⟨g, off, fun W => ?_, ⟨_, _, by rw [List.length_take, Nat.min_eq_left (by omega)], .inr ⟨g, off, rfl, hg, fun j x hx => ?_⟩⟩, fun W => ?_, ⟨_, _, by rw [List.length_drop], .inr ⟨g, off + k, rfl, hg, fun j x hx => ?_⟩⟩⟩
  · rw [run_slice_h W t (some ⟨g, off, none⟩) ps.length cap (by rw [hel]; exact hu) .i64 (k : Int) (by omega) (by omega), hel, hsz]
    show Result.ok (sliced (some ⟨g, off, none⟩) 0 (k : Int).toNat cap 1) W = _
    rw [Int.toNat_natCast, sliced, if_neg (by omega), Option.map_some, addr_add]
    simp
  · rw [List.getElem?_take] at hx
    split at hx
    · exact hcell j x hx
    · cases hx
  · rw [run_slice_l W t (some ⟨g, off, none⟩) ps.length cap (by rw [hel]; exact hu) .i64 (k : Int) (by omega) (by omega), hel, hsz]
    show Result.ok (sliced (some ⟨g, off, none⟩) (k : Int).toNat ps.length cap 1) W = _
    rw [Int.toNat_natCast, sliced, if_neg (by omega), Option.map_some, addr_add, Nat.mul_one]
  · rw [List.getElem?_drop] at hx
    rw [Nat.add_assoc]
    exact hcell (k + j) x hx
theorem listsV_take {α : Type} {E : El α} {e : TypeId} {w : World} {lo : Nat} {V : Value} {ps : List Value} {Ls : List (List α)} {k : Nat} (hps : ps.length = Ls.length) (hE : ∀ (j : Nat) (p : Value) (L : List α), ps[j]? = some p → Ls[j]? = some L → ListO E e w (fun k => lo ≤ k ∧ k < w.heap.size) p L ∧ CapL p L.length)
    (h : Vals w V (ps.take k)) : ListsV E e w lo V (Ls.take k) := by
  refine ⟨ps.take k, by rw [List.length_take, List.length_take, hps], h, fun j p L hp hL => ?_⟩
  rw [List.getElem?_take] at hp hL
  split at hp
  · rw [if_pos (by assumption)] at hL
    exact hE j p L hp hL
  · cases hp
theorem listsV_drop {α : Type} {E : El α} {e : TypeId} {w : World} {lo : Nat} {V : Value} {ps : List Value} {Ls : List (List α)} {k : Nat} (hps : ps.length = Ls.length) (hE : ∀ (j : Nat) (p : Value) (L : List α), ps[j]? = some p → Ls[j]? = some L → ListO E e w (fun k => lo ≤ k ∧ k < w.heap.size) p L ∧ CapL p L.length)
    (h : Vals w V (ps.drop k)) : ListsV E e w lo V (Ls.drop k) := by
  refine ⟨ps.drop k, by rw [List.length_drop, List.length_drop, hps], h, fun j p L hp hL => ?_⟩
  rw [List.getElem?_drop] at hp hL
  exact hE (k + j) p L hp hL
end Go.Proofs.Ytnmdnajbafpfiaa

