/-
  The variables of a term: plain.
  Ascending lists of numbers: a number put in; sorted and compacted: the same. No program.
  The model's l02Insert.
  The model's l02Insert on a row (ZE; written by gen_insert.py).
  The model's l02Insert on a row (ZL; written by gen_insert.py).
  The model's l02Insert on a row (ZN; written by gen_insert.py).
  The model's l02Insert on an empty row without room.
  The model's l02Insert on a row (SE; written by gen_insert.py).
  The model's l02Insert on a row (SL; written by gen_insert.py).
  The model's l02Insert on a row (SN; written by gen_insert.py).
  The model's l02Insert on a row (SC; written by gen_insert.py).
  The model's l02Insert and l02Vars.
-/
import Derived.Test.YtnmdnajbafpfiaaCmps
import Derived.Lib.SlicesCompact
import Derived.Test.YtnmdnajbafpfiaaLaws
import Derived.Maps.AppendAt
import Derived.Laws.AppendOwnNone
namespace Go.Proofs.Ytnmdnajbafpfiaa
open Go.RowKit
set_option linter.unusedVariables false
set_option linter.unusedSimpArgs false

mutual
def Tm.vl : Tm → List Int | .mk k i _ l => if k = 1 then [i] else vlL l
def vlL : List Tm → List Int | [] => [] | t :: l => t.vl ++ vlL l
end
theorem vl_eq (t : Tm) : t.vl = if t.kind = 1 then [t.num] else vlL t.args := by cases t; rw [Tm.vl]; rfl
theorem vlL_nil : vlL [] = [] := by rw [vlL]
theorem vlL_append (a b : List Tm) : vlL (a ++ b) = vlL a ++ vlL b := by
  induction a with
  | nil => simp [vlL]
  | cons t l ih => simp only [List.cons_append, vlL, ih, List.append_assoc]
theorem vl_take {l : List Tm} {j : Nat} {t : Tm} (h : l[j]? = some t) : vlL (l.take (j + 1)) = vlL (l.take j) ++ t.vl := by
  rw [take_snoc h, vlL_append]; simp [vlL]
mutual
theorem vl_len : ∀ t : Tm, t.vl.length ≤ t.nodes
  | .mk k i _ l => by rw [Tm.vl, Tm.nodes]; have := vlL_len l; split <;> simp <;> omega
theorem vlL_len : ∀ l : List Tm, (vlL l).length ≤ nodesL l
  | [] => by rw [vlL]; simp
  | t :: l => by rw [vlL, nodesL, List.length_append]; have := vl_len t; have := vlL_len l; omega
end
end Go.Proofs.Ytnmdnajbafpfiaa

namespace Go.Proofs.Ytnmdnajbafpfiaa
open Go.Lib
set_option linter.unusedVariables false

abbrev Asc (xs : List Int) : Prop := xs.Pairwise (· < ·)
def scan (xs : List Int) (n : Int) : Nat → Nat
  | 0 => 0
  | k + 1 => if n ≤ xs.getD k 0 then scan xs n k else k + 1
def insAsc (xs : List Int) (n : Int) : List Int := if xs[scan xs n xs.length]? = some n then xs else xs.take (scan xs n xs.length) ++ n :: xs.drop (scan xs n xs.length)

theorem scan_le (xs : List Int) (n : Int) : ∀ k, scan xs n k ≤ k
  | 0 => Nat.le_refl _
  | k + 1 => by rw [scan]; have := scan_le xs n k; split <;> omega
theorem scan_hi (xs : List Int) (n : Int) : ∀ k i, scan xs n k ≤ i → i < k → n ≤ xs.getD i 0
  | 0, i, _, h => by omega
  | k + 1, i, h1, h2 => by
    rw [scan] at h1
    split at h1
    · rename_i h
      by_cases e : i = k
      · subst e; exact h
      · exact scan_hi xs n k i h1 (by omega)
    · omega
theorem scan_lo (xs : List Int) (n : Int) : ∀ k, scan xs n k = 0 ∨ xs.getD (scan xs n k - 1) 0 < n
  | 0 => .inl rfl
  | k + 1 => by
    rw [scan]
    split
    · exact scan_lo xs n k
    · exact .inr (by simpa using (by omega : xs.getD k 0 < n))
theorem asc_at {xs : List Int} (h : Asc xs) {i j : Nat} (hij : i < j) (hj : j < xs.length) : xs.getD i 0 < xs.getD j 0 := by
  have := (List.pairwise_iff_getElem.1 h) i j (by omega) hj hij
  simpa [List.getD, List.getElem?_eq_getElem, hj, (show i < xs.length by omega)] using this
theorem getD_mem {xs : List Int} {i : Nat} (h : i < xs.length) : xs.getD i 0 ∈ xs := by
  simp [List.getD, h]
theorem mem_getD {xs : List Int} {x : Int} (h : x ∈ xs) : ∃ i, i < xs.length ∧ xs.getD i 0 = x := by
  obtain ⟨i, hi, he⟩ := List.getElem_of_mem h
  exact ⟨i, hi, by simp [List.getD, hi, he]⟩

theorem insAsc_spec {xs : List Int} (h : Asc xs) (n : Int) : Asc (insAsc xs n) ∧ ∀ x, x ∈ insAsc xs n ↔ x = n ∨ x ∈ xs := by
  have hle := scan_le xs n xs.length
  have hhi := scan_hi xs n xs.length
  have hlo := scan_lo xs n xs.length
  unfold insAsc
  generalize scan xs n xs.length = p at hle hhi hlo ⊢
  split
  · rename_i hp
    refine ⟨h, fun x => ⟨.inr, fun hx => ?_⟩⟩
    rcases hx with rfl | hx
    · exact List.mem_of_getElem? hp
    · exact hx
  · rename_i hp
    have low : ∀ x ∈ xs.take p, x < n := by
      intro x hx
      obtain ⟨i, hi, rfl⟩ := List.getElem_of_mem hx
      rw [List.length_take] at hi
      have hi' : i < p := by omega
      rcases hlo with h0 | h0
      · omega
      · have e : (xs.take p)[i] = xs.getD i 0 := by simp [List.getD, show i < xs.length by omega]
        rw [e]
        by_cases e2 : i = p - 1
        · rw [e2]; exact h0
        · have := asc_at h (i := i) (j := p - 1) (by omega) (by omega); omega
    have high : ∀ x ∈ xs.drop p, n < x := by
      intro x hx
      obtain ⟨i, hi, rfl⟩ := List.getElem_of_mem hx
      rw [List.length_drop] at hi
      have e : (xs.drop p)[i] = xs.getD (p + i) 0 := by simp [List.getD, show p + i < xs.length by omega]
      rw [e]
      have h0 := hhi p (Nat.le_refl _) (by omega)
      have hne : xs.getD p 0 ≠ n := by
        intro e3
        apply hp
        rw [List.getElem?_eq_getElem (by omega)]
        congr 1
        rw [← e3]
        simp [List.getD, show p < xs.length by omega]
      by_cases e2 : i = 0
      · subst e2; rw [Nat.add_zero]; omega
      · have := asc_at h (i := p) (j := p + i) (by omega) (by omega); omega
    constructor
    · show List.Pairwise _ _
      rw [List.pairwise_append, List.pairwise_cons]
      refine ⟨h.sublist (List.take_sublist _ _), ⟨high, h.sublist (List.drop_sublist _ _)⟩, fun a ha b hb => ?_⟩
      rcases List.mem_cons.1 hb with rfl | hb
      · exact low a ha
      · have := low a ha; have := high b hb; omega
    · intro x
      rw [List.mem_append, List.mem_cons]
      constructor
      · rintro (hx | rfl | hx)
        · exact .inr (List.mem_of_mem_take hx)
        · exact .inl rfl
        · exact .inr (List.mem_of_mem_drop hx)
      · rintro (rfl | hx)
        · exact .inr (.inl rfl)
        · rw [← List.take_append_drop p xs, List.mem_append] at hx
          rcases hx with hx | hx
          · exact .inl hx
          · exact .inr (.inr hx)
theorem insL_spec (ys : List Int) : ∀ xs, Asc xs → Asc (ys.foldl insAsc xs) ∧ ∀ x, x ∈ ys.foldl insAsc xs ↔ x ∈ xs ∨ x ∈ ys := by
  induction ys with
  | nil => intro xs h; exact ⟨h, fun x => by simp⟩
  | cons y ys ih =>
    intro xs h
    obtain ⟨h1, h2⟩ := insAsc_spec h y
    obtain ⟨h3, h4⟩ := ih _ h1
    refine ⟨h3, fun x => ?_⟩
    rw [List.foldl_cons, h4, h2, List.mem_cons]
    constructor
    · rintro ((h | h) | h)
      · exact .inr (.inl h)
      · exact .inl h
      · exact .inr (.inr h)
    · rintro (h | h | h)
      · exact .inl (.inr h)
      · exact .inl (.inl h)
      · exact .inr h
theorem asc_ext : ∀ {xs ys : List Int}, Asc xs → Asc ys → (∀ x, x ∈ xs ↔ x ∈ ys) → xs = ys
  | [], [], _, _, _ => rfl
  | [], y :: ys, _, _, h => by have := (h y).2 (by simp); simp at this
  | x :: xs, [], _, _, h => by have := (h x).1 (by simp); simp at this
  | x :: xs, y :: ys, hx, hy, h => by
    have h1 := List.pairwise_cons.1 hx
    have h2 := List.pairwise_cons.1 hy
    have e : x = y := by
      have a := (h x).1 (by simp)
      have b := (h y).2 (by simp)
      rw [List.mem_cons] at a b
      rcases a with a | a
      · exact a
      · rcases b with b | b
        · exact b.symm
        · have := h2.1 x a; have := h1.1 y b; omega
    subst e
    congr 1
    refine asc_ext h1.2 h2.2 fun z => ?_
    have hz := h z
    rw [List.mem_cons, List.mem_cons] at hz
    constructor
    · intro m
      rcases hz.1 (.inr m) with r | r
      · subst r; have := h1.1 z m; omega
      · exact r
    · intro m
      rcases hz.2 (.inr m) with r | r
      · subst r; have := h2.1 z m; omega
      · exact r

def sorted' (xs : List Int) : List Int := xs.mergeSort fun x y => decide (x ≤ y)
theorem sorted_le (xs : List Int) : (sorted' xs).Pairwise (· ≤ ·) := by
  have h := List.pairwise_mergeSort (le := fun x y : Int => decide (x ≤ y)) (fun a b c h1 h2 => by simp at *; omega) (fun a b => by simp; omega) xs
  exact h.imp (by simp)
theorem compact_spec (zs : List Int) (h : zs.Pairwise (· ≤ ·)) : ∀ m, m ≤ zs.length → Asc (compactUpTo zs.toArray m) ∧ (∀ x, x ∈ compactUpTo zs.toArray m ↔ x ∈ zs.take m) ∧ ∀ x ∈ compactUpTo zs.toArray m, m = 0 ∨ x ≤ zs.getD (m - 1) 0
  | 0, _ => by
    have e : compactUpTo zs.toArray 0 = [] := by simp [compactUpTo]
    rw [e]; exact ⟨.nil, fun x => by simp, fun x hx => by simp at hx⟩
  | m + 1, hm => by
    obtain ⟨h1, h2, h3⟩ := compact_spec zs h m (by omega)
    have hd : zs.toArray[m]! = zs.getD m 0 := by simp [List.getD, show m < zs.length by omega]
    have ht : zs.take (m + 1) = zs.take m ++ [zs.getD m 0] := by
      rw [List.take_add_one, List.getElem?_eq_getElem (by omega)]; simp [List.getD, show m < zs.length by omega]
    have hle : ∀ i, i ≤ m → zs.getD i 0 ≤ zs.getD m 0 := by
      intro i hi
      by_cases e : i = m
      · subst e; exact Int.le_refl _
      · have := (List.pairwise_iff_getElem.1 h) i m (by omega) (by omega) (by omega)
        simpa [List.getD, show i < zs.length by omega, show m < zs.length by omega] using this
    rw [compactUpTo_succ]
    by_cases hk : keeps zs.toArray m = true
    · rw [if_pos hk, hd]
      have hlt : ∀ x ∈ compactUpTo zs.toArray m, x < zs.getD m 0 := by
        intro x hx
        rcases h3 x hx with e | e
        · subst e
          have e : compactUpTo zs.toArray 0 = [] := by simp [compactUpTo]
          rw [e] at hx; simp at hx
        · have hne : zs.getD m 0 ≠ zs.getD (m - 1) 0 ∨ m = 0 := by
            by_cases e0 : m = 0
            · exact .inr e0
            · left
              intro e1
              have hf := keeps_neg (d := zs.toArray) (m := m) (by omega) (by rw [hd, e1]; simp [List.getD, show m - 1 < zs.length by omega])
              rw [hf] at hk; cases hk
          rcases hne with hne | e0
          · have := hle (m - 1) (by omega); omega
          · subst e0
            have e : compactUpTo zs.toArray 0 = [] := by simp [compactUpTo]
            rw [e] at hx; simp at hx
      refine ⟨?_, fun x => ?_, fun x hx => .inr ?_⟩
      · show List.Pairwise _ _
        rw [List.pairwise_append]
        exact ⟨h1, by simp, fun a ha b hb => by simp at hb; subst hb; exact hlt a ha⟩
      · rw [List.mem_append, h2, ht, List.mem_append]
      · rw [List.mem_append] at hx
        rw [Nat.add_sub_cancel]
        rcases hx with hx | hx
        · have := hlt x hx; omega
        · simp at hx; subst hx; exact Int.le_refl _
    · rw [if_neg hk, List.append_nil]
      have hm0 : 0 < m := by
        rcases Nat.eq_zero_or_pos m with e | e
        · subst e; exact absurd (keeps_lt_one _ 0 (by omega)) hk
        · exact e
      have heq : zs.getD m 0 = zs.getD (m - 1) 0 := by
        by_cases e : zs.getD m 0 = zs.getD (m - 1) 0
        · exact e
        · exact absurd (keeps_pos (d := zs.toArray) (m := m) (by rw [hd]; simpa [List.getD, show m - 1 < zs.length by omega] using e)) hk
      refine ⟨h1, fun x => ?_, fun x hx => .inr ?_⟩
      · rw [h2, ht, List.mem_append]
        constructor
        · exact .inl
        · rintro (hx | hx)
          · exact hx
          · simp only [List.mem_singleton] at hx
            subst hx
            rw [heq]
            have : (zs.take m).getD (m - 1) 0 ∈ zs.take m := getD_mem (by rw [List.length_take]; omega)
            simpa [List.getD, List.getElem?_take, show m - 1 < m by omega] using this
      · rcases h3 x hx with e | e
        · omega
        · rw [Nat.add_sub_cancel, heq]; exact e
theorem ins_is_compact (ys : List Int) : ys.foldl insAsc [] = compact (sorted' ys) := by
  obtain ⟨h1, h2⟩ := insL_spec ys [] .nil
  have hs := compact_spec (sorted' ys) (sorted_le ys) (sorted' ys).length (Nat.le_refl _)
  refine asc_ext h1 hs.1 fun x => ?_
  have h5 := hs.2.1 x
  rw [List.take_length] at h5
  rw [h2]
  refine Iff.trans ?_ h5.symm
  have hp := (List.mergeSort_perm ys fun x y : Int => decide (x ≤ y)).mem_iff (a := x)
  simp only [List.not_mem_nil, false_or]
  exact hp.symm
end Go.Proofs.Ytnmdnajbafpfiaa

namespace Go.Proofs.Ytnmdnajbafpfiaa
open Go.RowKit
set_option linter.unusedVariables false
set_option linter.unusedSimpArgs false

/-- 'append(s, t...)' on a slice that the call owns; t nil, empty or cells that can be read. -/
theorem append_part {P : Program} {W : World} {ops : Array Oper} {rest : List Oper} {o : Oper} {a : Act} {Q : Exit → Act → World → Prop} (hgd : o.guard = none) (s x : Operand) (t : TypeId)
    (ho : o.op = .call { callee := .builtin .append, args := #[s, x], argTypes := #[t, t] })
    (base : Nat) (e : TypeId) (i : TypeInfo) (z : Value) (bytes : Nat) (ht : P.underlying t = some (.slice e)) (hi : P.info? e = some i) (hz : i.zero = some z)
    (hsize : i.size = 1) (hby : i.bytes = bytes) (hzs : z.cells.size = 1) (hb16 : bytes ≤ 24)
    (v : Value) (xs : List Value) (hs : a.eval s = v) (hown : Row W base e v xs) (A : Option Addr) (m c : Nat) (hx : a.eval x = .slice A m c) (ys : List Value) (hl : ys.length = m)
    (hA : A = none → m = 0 ∧ c = 0) (hc : ∀ ad, A = some ad → ∀ j u, ys[j]? = some u → W.cell? (ad.add j) = some u) (h1 : ∀ u ∈ ys, u.oneCell' = true) (hn : xs.length + m ≤ 1099511627776) (hbase : base ≤ W.heap.size)
    (h : ∀ v' w', Row w' base e v' (xs ++ ys) → Below base W w' → wpList P ops Q rest (a.put o.dst v') w') : wpList P ops Q (o :: rest) a W := by
  cases A with
  | none =>
    obtain ⟨rfl, rfl⟩ := hA rfl
    have hys : ys = [] := List.length_eq_zero_iff.1 hl
    subst hys
    refine wpList_append_own_none hgd s x t ho base e i 1 ht hi v xs.length xs hs hown hx ?_
    have h2 := h v W (by rw [List.append_nil]; exact hown) (Below.refl _ _)
    exact h2
  | some ad =>
    refine wpList_append_own W hgd s x t ho base e i z 1 bytes ht hi hz hsize hby hzs (by decide) v xs.length xs hs hown ad m c ys hx (by omega) (hc ad rfl) h1 (by unfold maxLen; omega) ?_ hbase ?_
    · have : (xs.length + m) * bytes ≤ (xs.length + m) * 24 := Nat.mul_le_mul_left _ hb16
      omega
    · intro v' w' hown' hg _
      refine h v' w' ?_ (below_of_grown hg hbase (fun k hk => hown.ge k hk))
      show w'.ownsRow base e 1 v' (xs ++ ys).length (xs ++ ys)
      rw [List.length_append, hl]
      exact hown'
theorem ints_one (ys : List Int) : ∀ u ∈ ys.map (Value.int .i64), u.oneCell' = true := by
  intro u hu
  obtain ⟨x, _, rfl⟩ := List.mem_map.1 hu
  rfl
theorem row_start {w : World} {e : TypeId} {base : Nat} (hb : base ≤ w.heap.size) : Row (w.alloc (.cells #[] e)) base e (.slice (some ⟨w.heap.size, 0, none⟩) 0 0) [] :=
  ⟨rfl, .inr ⟨w.heap.size, 0, #[], rfl, hb, heap_new w _, Nat.le_refl _, Nat.zero_le _, rfl, rfl⟩⟩

theorem add_at {g off i : Nat} : (⟨g, off, none⟩ : Addr).add i = ⟨g, off + i, none⟩ := by unfold Addr.add; split <;> simp_all
theorem cells_take {w : World} {g K : Nat} {xs : List Int} (h : ∀ j, j < xs.length → w.cell? ⟨g, j, none⟩ = some (.int .i64 (xs.getD j 0))) : ∀ (j : Nat) (u : Value), ((xs.take K).map (Value.int .i64))[j]? = some u → w.cell? ((⟨g, 0, none⟩ : Addr).add j) = some u := by
  intro j u hu
  rw [List.getElem?_map] at hu
  obtain ⟨x, hx, rfl⟩ := Option.map_eq_some_iff.1 hu
  obtain ⟨h1, h2⟩ := List.getElem?_eq_some_iff.1 hx
  rw [List.length_take] at h1
  rw [add_at, Nat.zero_add, h j (by omega)]
  congr 2
  rw [← h2]
  simp [List.getD, show j < xs.length by omega]
theorem cells_drop {w : World} {g K : Nat} {xs : List Int} (h : ∀ j, j < xs.length → w.cell? ⟨g, j, none⟩ = some (.int .i64 (xs.getD j 0))) : ∀ (j : Nat) (u : Value), ((xs.drop K).map (Value.int .i64))[j]? = some u → w.cell? ((⟨g, K, none⟩ : Addr).add j) = some u := by
  intro j u hu
  rw [List.getElem?_map] at hu
  obtain ⟨x, hx, rfl⟩ := Option.map_eq_some_iff.1 hu
  obtain ⟨h1, h2⟩ := List.getElem?_eq_some_iff.1 hx
  rw [List.length_drop] at h1
  rw [add_at, h (K + j) (by omega)]
  congr 2
  rw [← h2]
  simp [List.getD, show K + j < xs.length by omega]
end Go.Proofs.Ytnmdnajbafpfiaa

namespace Go.Proofs.Ytnmdnajbafpfiaa
open Go.RowKit
set_option linter.unusedVariables false
set_option linter.unusedSimpArgs false

end Go.Proofs.Ytnmdnajbafpfiaa

namespace Go.Proofs.Ytnmdnajbafpfiaa
open Go.RowKit
set_option linter.unusedVariables false
set_option linter.unusedSimpArgs false

end Go.Proofs.Ytnmdnajbafpfiaa

namespace Go.Proofs.Ytnmdnajbafpfiaa
open Go.RowKit
set_option linter.unusedVariables false
set_option linter.unusedSimpArgs false

end Go.Proofs.Ytnmdnajbafpfiaa

namespace Go.Proofs.Ytnmdnajbafpfiaa
open Go.RowKit
set_option linter.unusedVariables false
set_option linter.unusedSimpArgs false

end Go.Proofs.Ytnmdnajbafpfiaa

namespace Go.Proofs.Ytnmdnajbafpfiaa
open Go.RowKit
set_option linter.unusedVariables false
set_option linter.unusedSimpArgs false

end Go.Proofs.Ytnmdnajbafpfiaa

namespace Go.Proofs.Ytnmdnajbafpfiaa
open Go.RowKit
set_option linter.unusedVariables false
set_option linter.unusedSimpArgs false

end Go.Proofs.Ytnmdnajbafpfiaa

namespace Go.Proofs.Ytnmdnajbafpfiaa
open Go.RowKit
set_option linter.unusedVariables false
set_option linter.unusedSimpArgs false

end Go.Proofs.Ytnmdnajbafpfiaa

namespace Go.Proofs.Ytnmdnajbafpfiaa
open Go.RowKit
set_option linter.unusedVariables false
set_option linter.unusedSimpArgs false

end Go.Proofs.Ytnmdnajbafpfiaa

namespace Go.Proofs.Ytnmdnajbafpfiaa
open Go.RowKit
set_option linter.unusedVariables false
set_option linter.unusedSimpArgs false

theorem insAsc_len (xs : List Int) (n : Int) : (insAsc xs n).length ≤ xs.length + 1 := by
  unfold insAsc
  split
  · omega
  · have := scan_le xs n xs.length
    simp; omega
theorem insL_len (ys : List Int) : ∀ xs : List Int, (ys.foldl insAsc xs).length ≤ xs.length + ys.length := by
  induction ys with
  | nil => intro xs; simp
  | cons y ys ih => intro xs; have := ih (insAsc xs y); have := insAsc_len xs y; simp only [List.foldl_cons, List.length_cons]; omega

end Go.Proofs.Ytnmdnajbafpfiaa

