/-
  The variables of a term: plain.
  Ascending lists of numbers: a number put in; sorted and compacted: the same. No program.
  The model's l02Insert.
  The model's l02Insert on a row (ZE; written by gen_insert.py).
  The model's l02Insert on a row (ZL; written by gen_insert.py).
  The model's l02Insert on a row (ZN; written by gen_insert.py).
  The model's l02Insert on an empty row without room.
  The model's l02Insert on a row (SE; written by gen_insert.py).
  The model's l02Insert on a row (SL; written by gen_insert.py).
  The model's l02Insert on a row (SN; written by gen_insert.py).
  The model's l02Insert on a row (SC; written by gen_insert.py).
  The model's l02Insert and l02Vars.
-/
import Derived.Test.YtnmdnajbafpfiaaGreatCmps
import Derived.Lib.SlicesCompact
import Derived.Test.YtnmdnajbafpfiaaGreatLaws
import Derived.Maps.AppendAt
import Derived.Laws.AppendOwnNone
namespace Go.Proofs.YtnmdnajbafpfiaaGreat
open Go.RowKit
set_option linter.unusedVariables false
set_option linter.unusedSimpArgs false

mutual
def Tm.vl : Tm → List Int | .mk k i _ l => if k = 1 then [i] else vlL l
def vlL : List Tm → List Int | [] => [] | t :: l => t.vl ++ vlL l
end
theorem vl_eq (t : Tm) : t.vl = if t.kind = 1 then [t.num] else vlL t.args := by cases t; rw [Tm.vl]; rfl
theorem vlL_nil : vlL [] = [] := by rw [vlL]
theorem vlL_append (a b : List Tm) : vlL (a ++ b) = vlL a ++ vlL b := by
  induction a with
  | nil => simp [vlL]
  | cons t l ih => simp only [List.cons_append, vlL, ih, List.append_assoc]
theorem vl_take {l : List Tm} {j : Nat} {t : Tm} (h : l[j]? = some t) : vlL (l.take (j + 1)) = vlL (l.take j) ++ t.vl := by
  rw [take_snoc h, vlL_append]; simp [vlL]
mutual
theorem vl_len : ∀ t : Tm, t.vl.length ≤ t.nodes
  | .mk k i _ l => by rw [Tm.vl, Tm.nodes]; have := vlL_len l; split <;> simp <;> omega
theorem vlL_len : ∀ l : List Tm, (vlL l).length ≤ nodesL l
  | [] => by rw [vlL]; simp
  | t :: l => by rw [vlL, nodesL, List.length_append]; have := vl_len t; have := vlL_len l; omega
end
end Go.Proofs.YtnmdnajbafpfiaaGreat

namespace Go.Proofs.YtnmdnajbafpfiaaGreat
open Go.Lib
set_option linter.unusedVariables false

abbrev Asc (xs : List Int) : Prop := xs.Pairwise (· < ·)
def scan (xs : List Int) (n : Int) : Nat → Nat
  | 0 => 0
  | k + 1 => if n ≤ xs.getD k 0 then scan xs n k else k + 1
def insAsc (xs : List Int) (n : Int) : List Int := if xs[scan xs n xs.length]? = some n then xs else xs.take (scan xs n xs.length) ++ n :: xs.drop (scan xs n xs.length)

theorem scan_le (xs : List Int) (n : Int) : ∀ k, scan xs n k ≤ k
  | 0 => Nat.le_refl _
  | k + 1 => by rw [scan]; have := scan_le xs n k; split <;> omega
theorem scan_hi (xs : List Int) (n : Int) : ∀ k i, scan xs n k ≤ i → i < k → n ≤ xs.getD i 0
  | 0, i, _, h => by omega
  | k + 1, i, h1, h2 => by
    rw [scan] at h1
    split at h1
    · rename_i h
      by_cases e : i = k
      · subst e; exact h
      · exact scan_hi xs n k i h1 (by omega)
    · omega
theorem scan_lo (xs : List Int) (n : Int) : ∀ k, scan xs n k = 0 ∨ xs.getD (scan xs n k - 1) 0 < n
  | 0 => .inl rfl
  | k + 1 => by
    rw [scan]
    split
    · exact scan_lo xs n k
    · exact .inr (by simpa using (by omega : xs.getD k 0 < n))
theorem asc_at {xs : List Int} (h : Asc xs) {i j : Nat} (hij : i < j) (hj : j < xs.length) : xs.getD i 0 < xs.getD j 0 := by
  have := (List.pairwise_iff_getElem.1 h) i j (by omega) hj hij
  simpa [List.getD, List.getElem?_eq_getElem, hj, (show i < xs.length by omega)] using this
theorem getD_mem {xs : List Int} {i : Nat} (h : i < xs.length) : xs.getD i 0 ∈ xs := by
  simp [List.getD, h]
theorem mem_getD {xs : List Int} {x : Int} (h : x ∈ xs) : ∃ i, i < xs.length ∧ xs.getD i 0 = x := by
  obtain ⟨i, hi, he⟩ := List.getElem_of_mem h
  exact ⟨i, hi, by simp [List.getD, hi, he]⟩

theorem insAsc_spec {xs : List Int} (h : Asc xs) (n : Int) : Asc (insAsc xs n) ∧ ∀ x, x ∈ insAsc xs n ↔ x = n ∨ x ∈ xs := by
  have hle := scan_le xs n xs.length
  have hhi := scan_hi xs n xs.length
  have hlo := scan_lo xs n xs.length
  unfold insAsc
  generalize scan xs n xs.length = p at hle hhi hlo ⊢
  split
  · rename_i hp
    refine ⟨h, fun x => ⟨.inr, fun hx => ?_⟩⟩
    rcases hx with rfl | hx
    · exact List.mem_of_getElem? hp
    · exact hx
  · rename_i hp
    have low : ∀ x ∈ xs.take p, x < n := by
      intro x hx
      obtain ⟨i, hi, rfl⟩ := List.getElem_of_mem hx
      rw [List.length_take] at hi
      have hi' : i < p := by omega
      rcases hlo with h0 | h0
      · omega
      · have e : (xs.take p)[i] = xs.getD i 0 := by simp [List.getD, show i < xs.length by omega]
        rw [e]
        by_cases e2 : i = p - 1
        · rw [e2]; exact h0
        · have := asc_at h (i := i) (j := p - 1) (by omega) (by omega); omega
    have high : ∀ x ∈ xs.drop p, n < x := by
      intro x hx
      obtain ⟨i, hi, rfl⟩ := List.getElem_of_mem hx
      rw [List.length_drop] at hi
      have e : (xs.drop p)[i] = xs.getD (p + i) 0 := by simp [List.getD, show p + i < xs.length by omega]
      rw [e]
      have h0 := hhi p (Nat.le_refl _) (by omega)
      have hne : xs.getD p 0 ≠ n := by
        intro e3
        apply hp
        rw [List.getElem?_eq_getElem (by omega)]
        congr 1
        rw [← e3]
        simp [List.getD, show p < xs.length by omega]
      by_cases e2 : i = 0
      · subst e2; rw [Nat.add_zero]; omega
      · have := asc_at h (i := p) (j := p + i) (by omega) (by omega); omega
    constructor
    · show List.Pairwise _ _
      rw [List.pairwise_append, List.pairwise_cons]
      refine ⟨h.sublist (List.take_sublist _ _), ⟨high, h.sublist (List.drop_sublist _ _)⟩, fun a ha b hb => ?_⟩
      rcases List.mem_cons.1 hb with rfl | hb
      · exact low a ha
      · have := low a ha; have := high b hb; omega
    · intro x
      rw [List.mem_append, List.mem_cons]
      constructor
      · rintro (hx | rfl | hx)
        · exact .inr (List.mem_of_mem_take hx)
        · exact .inl rfl
        · exact .inr (List.mem_of_mem_drop hx)
      · rintro (rfl | hx)
        · exact .inr (.inl rfl)
        · rw [← List.take_append_drop p xs, List.mem_append] at hx
          rcases hx with hx | hx
          · exact .inl hx
          · exact .inr (.inr hx)
theorem insL_spec (ys : List Int) : ∀ xs, Asc xs → Asc (ys.foldl insAsc xs) ∧ ∀ x, x ∈ ys.foldl insAsc xs ↔ x ∈ xs ∨ x ∈ ys := by
  induction ys with
  | nil => intro xs h; exact ⟨h, fun x => by simp⟩
  | cons y ys ih =>
    intro xs h
    obtain ⟨h1, h2⟩ := insAsc_spec h y
    obtain ⟨h3, h4⟩ := ih _ h1
    refine ⟨h3, fun x => ?_⟩
    rw [List.foldl_cons, h4, h2, List.mem_cons]
    constructor
    · rintro ((h | h) | h)
      · exact .inr (.inl h)
      · exact .inl h
      · exact .inr (.inr h)
    · rintro (h | h | h)
      · exact .inl (.inr h)
      · exact .inl (.inl h)
      · exact .inr h
theorem asc_ext : ∀ {xs ys : List Int}, Asc xs → Asc ys → (∀ x, x ∈ xs ↔ x ∈ ys) → xs = ys
  | [], [], _, _, _ => rfl
  | [], y :: ys, _, _, h => by have := (h y).2 (by simp); simp at this
  | x :: xs, [], _, _, h => by have := (h x).1 (by simp); simp at this
  | x :: xs, y :: ys, hx, hy, h => by
    have h1 := List.pairwise_cons.1 hx
    have h2 := List.pairwise_cons.1 hy
    have e : x = y := by
      have a := (h x).1 (by simp)
      have b := (h y).2 (by simp)
      rw [List.mem_cons] at a b
      rcases a with a | a
      · exact a
      · rcases b with b | b
        · exact b.symm
        · have := h2.1 x a; have := h1.1 y b; omega
    subst e
    congr 1
    refine asc_ext h1.2 h2.2 fun z => ?_
    have hz := h z
    rw [List.mem_cons, List.mem_cons] at hz
    constructor
    · intro m
      rcases hz.1 (.inr m) with r | r
      · subst r; have := h1.1 z m; omega
      · exact r
    · intro m
      rcases hz.2 (.inr m) with r | r
      · subst r; have := h2.1 z m; omega
      · exact r

def sorted' (xs : List Int) : List Int := xs.mergeSort fun x y => decide (x ≤ y)
theorem sorted_le (xs : List Int) : (sorted' xs).Pairwise (· ≤ ·) := by
  have h := List.pairwise_mergeSort (le := fun x y : Int => decide (x ≤ y)) (fun a b c h1 h2 => by simp at *; omega) (fun a b => by simp; omega) xs
  exact h.imp (by simp)
theorem compact_spec (zs : List Int) (h : zs.Pairwise (· ≤ ·)) : ∀ m, m ≤ zs.length → Asc (compactUpTo zs.toArray m) ∧ (∀ x, x ∈ compactUpTo zs.toArray m ↔ x ∈ zs.take m) ∧ ∀ x ∈ compactUpTo zs.toArray m, m = 0 ∨ x ≤ zs.getD (m - 1) 0
  | 0, _ => by
    have e : compactUpTo zs.toArray 0 = [] := by simp [compactUpTo]
    rw [e]; exact ⟨.nil, fun x => by simp, fun x hx => by simp at hx⟩
  | m + 1, hm => by
    obtain ⟨h1, h2, h3⟩ := compact_spec zs h m (by omega)
    have hd : zs.toArray[m]! = zs.getD m 0 := by simp [List.getD, show m < zs.length by omega]
    have ht : zs.take (m + 1) = zs.take m ++ [zs.getD m 0] := by
      rw [List.take_add_one, List.getElem?_eq_getElem (by omega)]; simp [List.getD, show m < zs.length by omega]
    have hle : ∀ i, i ≤ m → zs.getD i 0 ≤ zs.getD m 0 := by
      intro i hi
      by_cases e : i = m
      · subst e; exact Int.le_refl _
      · have := (List.pairwise_iff_getElem.1 h) i m (by omega) (by omega) (by omega)
        simpa [List.getD, show i < zs.length by omega, show m < zs.length by omega] using this
    rw [compactUpTo_succ]
    by_cases hk : keeps zs.toArray m = true
    · rw [if_pos hk, hd]
      have hlt : ∀ x ∈ compactUpTo zs.toArray m, x < zs.getD m 0 := by
        intro x hx
        rcases h3 x hx with e | e
        · subst e
          have e : compactUpTo zs.toArray 0 = [] := by simp [compactUpTo]
          rw [e] at hx; simp at hx
        · have hne : zs.getD m 0 ≠ zs.getD (m - 1) 0 ∨ m = 0 := by
            by_cases e0 : m = 0
            · exact .inr e0
            · left
              intro e1
              have hf := keeps_neg (d := zs.toArray) (m := m) (by omega) (by rw [hd, e1]; simp [List.getD, show m - 1 < zs.length by omega])
              rw [hf] at hk; cases hk
          rcases hne with hne | e0
          · have := hle (m - 1) (by omega); omega
          · subst e0
            have e : compactUpTo zs.toArray 0 = [] := by simp [compactUpTo]
            rw [e] at hx; simp at hx
      refine ⟨?_, fun x => ?_, fun x hx => .inr ?_⟩
      · show List.Pairwise _ _
        rw [List.pairwise_append]
        exact ⟨h1, by simp, fun a ha b hb => by simp at hb; subst hb; exact hlt a ha⟩
      · rw [List.mem_append, h2, ht, List.mem_append]
      · rw [List.mem_append] at hx
        rw [Nat.add_sub_cancel]
        rcases hx with hx | hx
        · have := hlt x hx; omega
        · simp at hx; subst hx; exact Int.le_refl _
    · rw [if_neg hk, List.append_nil]
      have hm0 : 0 < m := by
        rcases Nat.eq_zero_or_pos m with e | e
        · subst e; exact absurd (keeps_lt_one _ 0 (by omega)) hk
        · exact e
      have heq : zs.getD m 0 = zs.getD (m - 1) 0 := by
        by_cases e : zs.getD m 0 = zs.getD (m - 1) 0
        · exact e
        · exact absurd (keeps_pos (d := zs.toArray) (m := m) (by rw [hd]; simpa [List.getD, show m - 1 < zs.length by omega] using e)) hk
      refine ⟨h1, fun x => ?_, fun x hx => .inr ?_⟩
      · rw [h2, ht, List.mem_append]
        constructor
        · exact .inl
        · rintro (hx | hx)
          · exact hx
          · simp only [List.mem_singleton] at hx
            subst hx
            rw [heq]
            have : (zs.take m).getD (m - 1) 0 ∈ zs.take m := getD_mem (by rw [List.length_take]; omega)
            simpa [List.getD, List.getElem?_take, show m - 1 < m by omega] using this
      · rcases h3 x hx with e | e
        · omega
        · rw [Nat.add_sub_cancel, heq]; exact e
theorem ins_is_compact (ys : List Int) : ys.foldl insAsc [] = compact (sorted' ys) := by
  obtain ⟨h1, h2⟩ := insL_spec ys [] .nil
  have hs := compact_spec (sorted' ys) (sorted_le ys) (sorted' ys).length (Nat.le_refl _)
  refine asc_ext h1 hs.1 fun x => ?_
  have h5 := hs.2.1 x
  rw [List.take_length] at h5
  rw [h2]
  refine Iff.trans ?_ h5.symm
  have hp := (List.mergeSort_perm ys fun x y : Int => decide (x ≤ y)).mem_iff (a := x)
  simp only [List.not_mem_nil, false_or]
  exact hp.symm
end Go.Proofs.YtnmdnajbafpfiaaGreat

namespace Go.Proofs.YtnmdnajbafpfiaaGreat
open Go.RowKit
set_option linter.unusedVariables false
set_option linter.unusedSimpArgs false

/-- 'append(s, t...)' on a slice that the call owns; t nil, empty or cells that can be read. -/
theorem append_part {P : Program} {W : World} {ops : Array Oper} {rest : List Oper} {o : Oper} {a : Act} {Q : Exit → Act → World → Prop} (hgd : o.guard = none) (s x : Operand) (t : TypeId)
    (ho : o.op = .call { callee := .builtin .append, args := #[s, x], argTypes := #[t, t] })
    (base : Nat) (e : TypeId) (i : TypeInfo) (z : Value) (bytes : Nat) (ht : P.underlying t = some (.slice e)) (hi : P.info? e = some i) (hz : i.zero = some z)
    (hsize : i.size = 1) (hby : i.bytes = bytes) (hzs : z.cells.size = 1) (hb16 : bytes ≤ 24)
    (v : Value) (xs : List Value) (hs : a.eval s = v) (hown : Row W base e v xs) (A : Option Addr) (m c : Nat) (hx : a.eval x = .slice A m c) (ys : List Value) (hl : ys.length = m)
    (hA : A = none → m = 0 ∧ c = 0) (hc : ∀ ad, A = some ad → ∀ j u, ys[j]? = some u → W.cell? (ad.add j) = some u) (h1 : ∀ u ∈ ys, u.oneCell' = true) (hn : xs.length + m ≤ 1099511627776) (hbase : base ≤ W.heap.size)
    (h : ∀ v' w', Row w' base e v' (xs ++ ys) → Below base W w' → wpList P ops Q rest (a.put o.dst v') w') : wpList P ops Q (o :: rest) a W := by
  cases A with
  | none =>
    obtain ⟨rfl, rfl⟩ := hA rfl
    have hys : ys = [] := List.length_eq_zero_iff.1 hl
    subst hys
    refine wpList_append_own_none hgd s x t ho base e i 1 ht hi v xs.length xs hs hown hx ?_
    have h2 := h v W (by rw [List.append_nil]; exact hown) (Below.refl _ _)
    exact h2
  | some ad =>
    refine wpList_append_own W hgd s x t ho base e i z 1 bytes ht hi hz hsize hby hzs (by decide) v xs.length xs hs hown ad m c ys hx (by omega) (hc ad rfl) h1 (by unfold maxLen; omega) ?_ hbase ?_
    · have : (xs.length + m) * bytes ≤ (xs.length + m) * 24 := Nat.mul_le_mul_left _ hb16
      omega
    · intro v' w' hown' hg _
      refine h v' w' ?_ (below_of_grown hg hbase (fun k hk => hown.ge k hk))
      show w'.ownsRow base e 1 v' (xs ++ ys).length (xs ++ ys)
      rw [List.length_append, hl]
      exact hown'
theorem ints_one (ys : List Int) : ∀ u ∈ ys.map (Value.int .i64), u.oneCell' = true := by
  intro u hu
  obtain ⟨x, _, rfl⟩ := List.mem_map.1 hu
  rfl
theorem row_start {w : World} {e : TypeId} {base : Nat} (hb : base ≤ w.heap.size) : Row (w.alloc (.cells #[] e)) base e (.slice (some ⟨w.heap.size, 0, none⟩) 0 0) [] :=
  ⟨rfl, .inr ⟨w.heap.size, 0, #[], rfl, hb, heap_new w _, Nat.le_refl _, Nat.zero_le _, rfl, rfl⟩⟩

set_option maxRecDepth 100000 in
set_option maxHeartbeats 1600000 in
theorem insert_nil (n : Int) (w : World) :
    Calls Tryz.prog 91 #[.slice none 0 0, .int .i64 n] w fun e w' => ∃ u, e = .returned u ∧ Row w' w.heap.size 3 u [.int .i64 n] ∧ Below w.heap.size w w' := by
  obtain ⟨i0, hi, hz0, hz1, hz2⟩ := info_parts infoInt
  have HII := Lib.hid (And.intro hi (And.intro hz0 (And.intro hz1 hz2)))
  clear hi hz0 hz1 hz2
  have HS := Lib.hid (row_start (w := w) (e := 3) (Nat.le_refl _))
  have HB := Lib.hid ((Below.refl w.heap.size w).alloc (Nat.le_refl _) (.cells #[] 3))
  go_enter Tryz.func91, Tryz.ntmps91
  go_wp2
  refine wp_loop_rounds 1 ?_
  rw [rounds_succ]
  go_upto_region 6 with (fail)
  go_wp2_with (first
    | (at_builtin; refine append_part rfl _ _ 106 rfl w.heap.size 3 i0 _ 8 Tryz.underlying106 HII.out.1 HII.out.2.1 HII.out.2.2.1 HII.out.2.2.2 rfl (by decide) _ _ rfl HS.out none 0 0 rfl [] rfl (fun _ => ⟨rfl, rfl⟩) (fun ad h => by cases h) (fun u h => by simp at h) (by simp) (by simp) ?_; intro v1 w1 hown1 hb1; have HO1 := Lib.hid hown1; have HB1 := Lib.hid (HB.out.trans hb1); have hs1 := HB1.out.size; clear hown1 hb1 HS)
    | (at_builtin; refine append_one rfl _ _ 106 rfl w.heap.size 3 i0 _ 8 Tryz.underlying106 HII.out.1 HII.out.2.1 HII.out.2.2.1 HII.out.2.2.2 rfl (by decide) _ _ rfl HO1.out (.int .i64 n) rfl rfl (by simp) hs1 ?_; intro v2 w2 hown2 hb2; have HO2 := Lib.hid hown2; have HB2 := Lib.hid (HB1.out.trans hb2); have hs2 := HB2.out.size; clear hown2 hb2 HO1)
    | (at_builtin; refine append_part rfl _ _ 106 rfl w.heap.size 3 i0 _ 8 Tryz.underlying106 HII.out.1 HII.out.2.1 HII.out.2.2.1 HII.out.2.2.2 rfl (by decide) _ _ rfl HO2.out none 0 0 rfl [] rfl (fun _ => ⟨rfl, rfl⟩) (fun ad h => by cases h) (fun u h => by simp at h) (by simp) hs2 ?_; intro v3 w3 hown3 hb3; have HO3 := Lib.hid hown3; have HB3 := Lib.hid (HB2.out.trans hb3); clear hown3 hb3 HO2))
  go_ret
  exact ⟨_, rfl, by have h := HO3.out; simpa using h, HB3.out⟩

theorem add_at {g off i : Nat} : (⟨g, off, none⟩ : Addr).add i = ⟨g, off + i, none⟩ := by unfold Addr.add; split <;> simp_all
theorem cells_take {w : World} {g K : Nat} {xs : List Int} (h : ∀ j, j < xs.length → w.cell? ⟨g, j, none⟩ = some (.int .i64 (xs.getD j 0))) : ∀ (j : Nat) (u : Value), ((xs.take K).map (Value.int .i64))[j]? = some u → w.cell? ((⟨g, 0, none⟩ : Addr).add j) = some u := by
  intro j u hu
  rw [List.getElem?_map] at hu
  obtain ⟨x, hx, rfl⟩ := Option.map_eq_some_iff.1 hu
  obtain ⟨h1, h2⟩ := List.getElem?_eq_some_iff.1 hx
  rw [List.length_take] at h1
  rw [add_at, Nat.zero_add, h j (by omega)]
  congr 2
  rw [← h2]
  simp [List.getD, show j < xs.length by omega]
theorem cells_drop {w : World} {g K : Nat} {xs : List Int} (h : ∀ j, j < xs.length → w.cell? ⟨g, j, none⟩ = some (.int .i64 (xs.getD j 0))) : ∀ (j : Nat) (u : Value), ((xs.drop K).map (Value.int .i64))[j]? = some u → w.cell? ((⟨g, K, none⟩ : Addr).add j) = some u := by
  intro j u hu
  rw [List.getElem?_map] at hu
  obtain ⟨x, hx, rfl⟩ := Option.map_eq_some_iff.1 hu
  obtain ⟨h1, h2⟩ := List.getElem?_eq_some_iff.1 hx
  rw [List.length_drop] at h1
  rw [add_at, h (K + j) (by omega)]
  congr 2
  rw [← h2]
  simp [List.getD, show K + j < xs.length by omega]
end Go.Proofs.YtnmdnajbafpfiaaGreat

namespace Go.Proofs.YtnmdnajbafpfiaaGreat
open Go.RowKit
set_option linter.unusedVariables false
set_option linter.unusedSimpArgs false

set_option maxRecDepth 100000 in
set_option maxHeartbeats 3000000 in
theorem insert_ZE (b g cap : Nat) (xs : List Int) (n : Int) (w : World) (hrow : Row w b 3 (.slice (some ⟨g, 0, none⟩) xs.length cap) (xs.map (Value.int .i64))) (hl : xs.length ≤ 1048576) (hcap : xs.length ≤ cap) (hg : g < w.heap.size) (hcm : cap ≤ 9223372036854775807)
    (hK : scan xs n xs.length = 0) (hlt : 0 < xs.length) (hN0 : xs.getD 0 0 = n) :
    Calls Tryz.prog 91 #[.slice (some ⟨g, 0, none⟩) xs.length cap, .int .i64 n] w fun e w' => ∃ u, e = .returned u ∧ Row w' 0 3 u ((insAsc xs n).map (Value.int .i64)) ∧ Below w.heap.size w w' := by
  obtain ⟨i0, hi, hz0, hz1, hz2⟩ := info_parts infoInt
  have HII := Lib.hid (And.intro hi (And.intro hz0 (And.intro hz1 hz2)))
  clear hi hz0 hz1 hz2
  have HC : Hid (∀ W, Below w.heap.size w W → ∀ j, j < xs.length → W.cell? ⟨g, j, none⟩ = some (.int .i64 (xs.getD j 0))) := Lib.hid (fun W hW j hj => by
    refine (hW.cell (p := ⟨g, j, none⟩) hg).trans ?_
    have h := hrow
    unfold Row at h
    rw [List.length_map] at h
    rw [World.ownsRow.cellAt h j (by omega)]
    simp [List.getD, hj])
  have HROW := Lib.hid hrow
  have HS0 := Lib.hid (row_start (w := w) (e := 3) (Nat.le_refl _))
  have HB0 := Lib.hid ((Below.refl w.heap.size w).alloc (Nat.le_refl _) (.cells #[] 3))
  have HIN : Hid (insAsc xs n = xs) := Lib.hid (by unfold insAsc; rw [hK, if_pos]; rw [List.getElem?_eq_getElem hlt]; congr 1; rw [← hN0]; simp [List.getD, hlt])
  have HK := Lib.hid hK
  clear hrow hK
  have HN0 := Lib.hid hN0
  clear hN0
  go_enter Tryz.func91, Tryz.ntmps91
  go_wp2
  go_loop [5] (fun i => ∃ k : Nat, k ≤ xs.length ∧ i = .int .i64 k ∧ Hid (scan xs n xs.length = scan xs n k)) (fun i => (intOf i).toNat)
  case atStart => exact ⟨xs.length, Nat.le_refl _, rfl, Lib.hid rfl⟩
  case round =>
    obtain ⟨k, hk, rfl, HSC⟩ := hrel
    by_cases hk0 : k = 0
    · subst hk0
      have hP : scan xs n xs.length = 0 := by rw [HSC.out]; rfl
      clear hP HSC
      have hcell := HC.out w (Below.refl _ _) (0) hlt
      generalize hy : xs.getD (0) 0 = y at hcell
      have HY := Lib.hid hy
      clear hy
      have hyn : y = n := by rw [← HY.out]; exact HN0.out
      subst hyn
      go_wp2
      go_ret
      exact ⟨_, rfl, by rw [HIN.out]; exact HROW.out.base (Nat.zero_le _), Below.refl _ _⟩
    · obtain ⟨i, rfl⟩ : ∃ i, k = i + 1 := ⟨k - 1, by omega⟩
      have hcell1 := HC.out w (Below.refl _ _) i (by omega)
      generalize hx : xs.getD i 0 = x at hcell1
      have HX := Lib.hid hx
      clear hx
      by_cases hle : n ≤ x
      · have HN : Hid (scan xs n xs.length = scan xs n i) := Lib.hid (by rw [HSC.out, scan, if_pos (by rw [HX.out]; exact hle)])
        go_wp2
        go_round
        case rel => exact ⟨i, by omega, by go_num, HN⟩
        case measure => simp [intOf] <;> omega
      · have hP : scan xs n xs.length = i + 1 := by rw [HSC.out, scan, if_neg (by rw [HX.out]; exact hle)]
        exact absurd (hP.symm.trans HK.out) (by omega)
end Go.Proofs.YtnmdnajbafpfiaaGreat

namespace Go.Proofs.YtnmdnajbafpfiaaGreat
open Go.RowKit
set_option linter.unusedVariables false
set_option linter.unusedSimpArgs false

set_option maxRecDepth 100000 in
set_option maxHeartbeats 3000000 in
theorem insert_ZL (b g cap : Nat) (xs : List Int) (n : Int) (w : World) (hrow : Row w b 3 (.slice (some ⟨g, 0, none⟩) xs.length cap) (xs.map (Value.int .i64))) (hl : xs.length ≤ 1048576) (hcap : xs.length ≤ cap) (hg : g < w.heap.size) (hcm : cap ≤ 9223372036854775807)
    (hK : scan xs n xs.length = 0) (hlt : 0 < xs.length) (hN0 : ¬ xs.getD 0 0 = n) :
    Calls Tryz.prog 91 #[.slice (some ⟨g, 0, none⟩) xs.length cap, .int .i64 n] w fun e w' => ∃ u, e = .returned u ∧ Row w' 0 3 u ((insAsc xs n).map (Value.int .i64)) ∧ Below w.heap.size w w' := by
  obtain ⟨i0, hi, hz0, hz1, hz2⟩ := info_parts infoInt
  have HII := Lib.hid (And.intro hi (And.intro hz0 (And.intro hz1 hz2)))
  clear hi hz0 hz1 hz2
  have HC : Hid (∀ W, Below w.heap.size w W → ∀ j, j < xs.length → W.cell? ⟨g, j, none⟩ = some (.int .i64 (xs.getD j 0))) := Lib.hid (fun W hW j hj => by
    refine (hW.cell (p := ⟨g, j, none⟩) hg).trans ?_
    have h := hrow
    unfold Row at h
    rw [List.length_map] at h
    rw [World.ownsRow.cellAt h j (by omega)]
    simp [List.getD, hj])
  have HROW := Lib.hid hrow
  have HS0 := Lib.hid (row_start (w := w) (e := 3) (Nat.le_refl _))
  have HB0 := Lib.hid ((Below.refl w.heap.size w).alloc (Nat.le_refl _) (.cells #[] 3))
  have HIN : Hid (insAsc xs n = xs.take 0 ++ n :: xs.drop 0) := Lib.hid (by unfold insAsc; rw [hK, if_neg]; rw [List.getElem?_eq_getElem hlt]; intro h; apply hN0; simpa [List.getD, hlt] using h)
  have HK := Lib.hid hK
  clear hrow hK
  have HN0 := Lib.hid hN0
  clear hN0
  go_enter Tryz.func91, Tryz.ntmps91
  go_wp2
  go_loop [5] (fun i => ∃ k : Nat, k ≤ xs.length ∧ i = .int .i64 k ∧ Hid (scan xs n xs.length = scan xs n k)) (fun i => (intOf i).toNat)
  case atStart => exact ⟨xs.length, Nat.le_refl _, rfl, Lib.hid rfl⟩
  case round =>
    obtain ⟨k, hk, rfl, HSC⟩ := hrel
    by_cases hk0 : k = 0
    · subst hk0
      have hP : scan xs n xs.length = 0 := by rw [HSC.out]; rfl
      clear hP HSC
      have hcell := HC.out w (Below.refl _ _) (0) hlt
      generalize hy : xs.getD (0) 0 = y at hcell
      have HY := Lib.hid hy
      clear hy
      have heq : ¬ y = n := by rw [← HY.out]; exact HN0.out
      have HT1 := Lib.hid (fun (W : World) (hW : Below w.heap.size w W) => cells_take (K := 0) (HC.out W hW))
      have HT2 := Lib.hid (fun (W : World) (hW : Below w.heap.size w W) => cells_drop (K := 0) (HC.out W hW))
      have hkc2 : 0 < cap := by omega
      go_upto_region 6 with (fail)
      go_wp2_with (first
        | (at_builtin; refine append_part rfl _ _ 106 rfl w.heap.size 3 i0 _ 8 Tryz.underlying106 HII.out.1 HII.out.2.1 HII.out.2.2.1 HII.out.2.2.2 rfl (by decide) _ _ rfl HS0.out _ _ _ rfl ((xs.take (0)).map (Value.int .i64)) (by simp <;> omega) (fun h => by cases h) (fun ad h => by cases h; exact HT1.out _ HB0.out) (ints_one _) (by simp <;> omega) (by simp) ?_; intro v1 w1 hown1 hb1; have HO1 := Lib.hid hown1; have HB1 := Lib.hid (HB0.out.trans hb1); have hs1 := HB1.out.size; clear hown1 hb1 HS0)
        | (at_builtin; refine append_one rfl _ _ 106 rfl w.heap.size 3 i0 _ 8 Tryz.underlying106 HII.out.1 HII.out.2.1 HII.out.2.2.1 HII.out.2.2.2 rfl (by decide) _ _ rfl HO1.out (.int .i64 n) rfl rfl (by simp <;> omega) hs1 ?_; intro v2 w2 hown2 hb2; have HO2 := Lib.hid hown2; have HB2 := Lib.hid (HB1.out.trans hb2); have hs2 := HB2.out.size; clear hown2 hb2 HO1)
        | (at_builtin; refine append_part rfl _ _ 106 rfl w.heap.size 3 i0 _ 8 Tryz.underlying106 HII.out.1 HII.out.2.1 HII.out.2.2.1 HII.out.2.2.2 rfl (by decide) _ _ rfl HO2.out _ _ _ rfl ((xs.drop (0)).map (Value.int .i64)) (by simp <;> omega) (fun h => by cases h) (fun ad h => by cases h; exact HT2.out _ HB2.out) (ints_one _) (by simp <;> omega) hs2 ?_; intro v3 w3 hown3 hb3; have HO3 := Lib.hid hown3; have HB3 := Lib.hid (HB2.out.trans hb3); clear hown3 hb3 HO2))
      go_ret
      exact ⟨_, rfl, by have h := HO3.out.base (Nat.zero_le _); rw [HIN.out]; simpa using h, HB3.out⟩
    · obtain ⟨i, rfl⟩ : ∃ i, k = i + 1 := ⟨k - 1, by omega⟩
      have hcell1 := HC.out w (Below.refl _ _) i (by omega)
      generalize hx : xs.getD i 0 = x at hcell1
      have HX := Lib.hid hx
      clear hx
      by_cases hle : n ≤ x
      · have HN : Hid (scan xs n xs.length = scan xs n i) := Lib.hid (by rw [HSC.out, scan, if_pos (by rw [HX.out]; exact hle)])
        go_wp2
        go_round
        case rel => exact ⟨i, by omega, by go_num, HN⟩
        case measure => simp [intOf] <;> omega
      · have hP : scan xs n xs.length = i + 1 := by rw [HSC.out, scan, if_neg (by rw [HX.out]; exact hle)]
        exact absurd (hP.symm.trans HK.out) (by omega)
end Go.Proofs.YtnmdnajbafpfiaaGreat

namespace Go.Proofs.YtnmdnajbafpfiaaGreat
open Go.RowKit
set_option linter.unusedVariables false
set_option linter.unusedSimpArgs false

set_option maxRecDepth 100000 in
set_option maxHeartbeats 3000000 in
theorem insert_ZN (b g cap : Nat) (xs : List Int) (n : Int) (w : World) (hrow : Row w b 3 (.slice (some ⟨g, 0, none⟩) xs.length cap) (xs.map (Value.int .i64))) (hl : xs.length ≤ 1048576) (hcap : xs.length ≤ cap) (hg : g < w.heap.size) (hcm : cap ≤ 9223372036854775807)
    (hK : scan xs n xs.length = 0) (hkl : 0 = xs.length) (hkc : 0 < cap) :
    Calls Tryz.prog 91 #[.slice (some ⟨g, 0, none⟩) xs.length cap, .int .i64 n] w fun e w' => ∃ u, e = .returned u ∧ Row w' 0 3 u ((insAsc xs n).map (Value.int .i64)) ∧ Below w.heap.size w w' := by
  obtain ⟨i0, hi, hz0, hz1, hz2⟩ := info_parts infoInt
  have HII := Lib.hid (And.intro hi (And.intro hz0 (And.intro hz1 hz2)))
  clear hi hz0 hz1 hz2
  have HC : Hid (∀ W, Below w.heap.size w W → ∀ j, j < xs.length → W.cell? ⟨g, j, none⟩ = some (.int .i64 (xs.getD j 0))) := Lib.hid (fun W hW j hj => by
    refine (hW.cell (p := ⟨g, j, none⟩) hg).trans ?_
    have h := hrow
    unfold Row at h
    rw [List.length_map] at h
    rw [World.ownsRow.cellAt h j (by omega)]
    simp [List.getD, hj])
  have HROW := Lib.hid hrow
  have HS0 := Lib.hid (row_start (w := w) (e := 3) (Nat.le_refl _))
  have HB0 := Lib.hid ((Below.refl w.heap.size w).alloc (Nat.le_refl _) (.cells #[] 3))
  have HIN : Hid (insAsc xs n = xs.take 0 ++ n :: xs.drop 0) := Lib.hid (by unfold insAsc; rw [hK, if_neg]; rw [List.getElem?_eq_none (by omega)]; simp)
  have HK := Lib.hid hK
  clear hrow hK
  have hnl : ¬ 0 < xs.length := by omega
  have HKL := Lib.hid hkl
  clear hkl
  go_enter Tryz.func91, Tryz.ntmps91
  go_wp2
  go_loop [5] (fun i => ∃ k : Nat, k ≤ xs.length ∧ i = .int .i64 k ∧ Hid (scan xs n xs.length = scan xs n k)) (fun i => (intOf i).toNat)
  case atStart => exact ⟨xs.length, Nat.le_refl _, rfl, Lib.hid rfl⟩
  case round =>
    obtain ⟨k, hk, rfl, HSC⟩ := hrel
    by_cases hk0 : k = 0
    · subst hk0
      have hP : scan xs n xs.length = 0 := by rw [HSC.out]; rfl
      clear hP HSC
      have HT1 := Lib.hid (fun (W : World) (hW : Below w.heap.size w W) => cells_take (K := 0) (HC.out W hW))
      have HT2 := Lib.hid (fun (W : World) (hW : Below w.heap.size w W) => cells_drop (K := 0) (HC.out W hW))
      have hkc2 : 0 < cap := by omega
      go_upto_region 6 with (fail)
      go_wp2_with (first
        | (at_builtin; refine append_part rfl _ _ 106 rfl w.heap.size 3 i0 _ 8 Tryz.underlying106 HII.out.1 HII.out.2.1 HII.out.2.2.1 HII.out.2.2.2 rfl (by decide) _ _ rfl HS0.out _ _ _ rfl ((xs.take (0)).map (Value.int .i64)) (by simp <;> omega) (fun h => by cases h) (fun ad h => by cases h; exact HT1.out _ HB0.out) (ints_one _) (by simp <;> omega) (by simp) ?_; intro v1 w1 hown1 hb1; have HO1 := Lib.hid hown1; have HB1 := Lib.hid (HB0.out.trans hb1); have hs1 := HB1.out.size; clear hown1 hb1 HS0)
        | (at_builtin; refine append_one rfl _ _ 106 rfl w.heap.size 3 i0 _ 8 Tryz.underlying106 HII.out.1 HII.out.2.1 HII.out.2.2.1 HII.out.2.2.2 rfl (by decide) _ _ rfl HO1.out (.int .i64 n) rfl rfl (by simp <;> omega) hs1 ?_; intro v2 w2 hown2 hb2; have HO2 := Lib.hid hown2; have HB2 := Lib.hid (HB1.out.trans hb2); have hs2 := HB2.out.size; clear hown2 hb2 HO1)
        | (at_builtin; refine append_part rfl _ _ 106 rfl w.heap.size 3 i0 _ 8 Tryz.underlying106 HII.out.1 HII.out.2.1 HII.out.2.2.1 HII.out.2.2.2 rfl (by decide) _ _ rfl HO2.out _ _ _ rfl ((xs.drop (0)).map (Value.int .i64)) (by simp <;> omega) (fun h => by cases h) (fun ad h => by cases h; exact HT2.out _ HB2.out) (ints_one _) (by simp <;> omega) hs2 ?_; intro v3 w3 hown3 hb3; have HO3 := Lib.hid hown3; have HB3 := Lib.hid (HB2.out.trans hb3); clear hown3 hb3 HO2))
      go_ret
      exact ⟨_, rfl, by have h := HO3.out.base (Nat.zero_le _); rw [HIN.out]; simpa using h, HB3.out⟩
    · obtain ⟨i, rfl⟩ : ∃ i, k = i + 1 := ⟨k - 1, by omega⟩
      have hcell1 := HC.out w (Below.refl _ _) i (by omega)
      generalize hx : xs.getD i 0 = x at hcell1
      have HX := Lib.hid hx
      clear hx
      by_cases hle : n ≤ x
      · have HN : Hid (scan xs n xs.length = scan xs n i) := Lib.hid (by rw [HSC.out, scan, if_pos (by rw [HX.out]; exact hle)])
        go_wp2
        go_round
        case rel => exact ⟨i, by omega, by go_num, HN⟩
        case measure => simp [intOf] <;> omega
      · have hP : scan xs n xs.length = i + 1 := by rw [HSC.out, scan, if_neg (by rw [HX.out]; exact hle)]
        exact absurd (hP.symm.trans HK.out) (by omega)
end Go.Proofs.YtnmdnajbafpfiaaGreat

namespace Go.Proofs.YtnmdnajbafpfiaaGreat
open Go.RowKit
set_option linter.unusedVariables false
set_option linter.unusedSimpArgs false

set_option maxRecDepth 100000 in
set_option maxHeartbeats 1600000 in
theorem insert_ZC (g : Nat) (n : Int) (w : World) :
    Calls Tryz.prog 91 #[.slice (some ⟨g, 0, none⟩) 0 0, .int .i64 n] w fun e w' => ∃ u, e = .returned u ∧ Row w' w.heap.size 3 u [.int .i64 n] ∧ Below w.heap.size w w' := by
  obtain ⟨i0, hi, hz0, hz1, hz2⟩ := info_parts infoInt
  have HII := Lib.hid (And.intro hi (And.intro hz0 (And.intro hz1 hz2)))
  clear hi hz0 hz1 hz2
  have HS := Lib.hid (row_start (w := w) (e := 3) (Nat.le_refl _))
  have HB := Lib.hid ((Below.refl w.heap.size w).alloc (Nat.le_refl _) (.cells #[] 3))
  go_enter Tryz.func91, Tryz.ntmps91
  go_wp2
  refine wp_loop_rounds 1 ?_
  rw [rounds_succ]
  go_upto_region 6 with (fail)
  go_wp2_with (first
    | (at_builtin; refine append_part rfl _ _ 106 rfl w.heap.size 3 i0 _ 8 Tryz.underlying106 HII.out.1 HII.out.2.1 HII.out.2.2.1 HII.out.2.2.2 rfl (by decide) _ _ rfl HS.out (some ⟨g, 0, none⟩) 0 0 rfl [] rfl (fun h => by cases h) (fun ad h j u hu => by simp at hu) (fun u h => by simp at h) (by simp) (by simp) ?_; intro v1 w1 hown1 hb1; have HO1 := Lib.hid hown1; have HB1 := Lib.hid (HB.out.trans hb1); have hs1 := HB1.out.size; clear hown1 hb1 HS)
    | (at_builtin; refine append_one rfl _ _ 106 rfl w.heap.size 3 i0 _ 8 Tryz.underlying106 HII.out.1 HII.out.2.1 HII.out.2.2.1 HII.out.2.2.2 rfl (by decide) _ _ rfl HO1.out (.int .i64 n) rfl rfl (by simp) hs1 ?_; intro v2 w2 hown2 hb2; have HO2 := Lib.hid hown2; have HB2 := Lib.hid (HB1.out.trans hb2); have hs2 := HB2.out.size; clear hown2 hb2 HO1)
    | (at_builtin; refine append_part rfl _ _ 106 rfl w.heap.size 3 i0 _ 8 Tryz.underlying106 HII.out.1 HII.out.2.1 HII.out.2.2.1 HII.out.2.2.2 rfl (by decide) _ _ rfl HO2.out (some ⟨g, 0, none⟩) 0 0 rfl [] rfl (fun h => by cases h) (fun ad h j u hu => by simp at hu) (fun u h => by simp at h) (by simp) hs2 ?_; intro v3 w3 hown3 hb3; have HO3 := Lib.hid hown3; have HB3 := Lib.hid (HB2.out.trans hb3); clear hown3 hb3 HO2))
  go_ret
  exact ⟨_, rfl, by have h := HO3.out; simpa using h, HB3.out⟩
end Go.Proofs.YtnmdnajbafpfiaaGreat

namespace Go.Proofs.YtnmdnajbafpfiaaGreat
open Go.RowKit
set_option linter.unusedVariables false
set_option linter.unusedSimpArgs false

set_option maxRecDepth 100000 in
set_option maxHeartbeats 3000000 in
theorem insert_SE (b g cap : Nat) (xs : List Int) (n : Int) (w : World) (j : Nat) (hrow : Row w b 3 (.slice (some ⟨g, 0, none⟩) xs.length cap) (xs.map (Value.int .i64))) (hl : xs.length ≤ 1048576) (hcap : xs.length ≤ cap) (hg : g < w.heap.size) (hcm : cap ≤ 9223372036854775807)
    (hK : scan xs n xs.length = (j + 1)) (hlt : (j + 1) < xs.length) (hN0 : xs.getD (j + 1) 0 = n) :
    Calls Tryz.prog 91 #[.slice (some ⟨g, 0, none⟩) xs.length cap, .int .i64 n] w fun e w' => ∃ u, e = .returned u ∧ Row w' 0 3 u ((insAsc xs n).map (Value.int .i64)) ∧ Below w.heap.size w w' := by
  obtain ⟨i0, hi, hz0, hz1, hz2⟩ := info_parts infoInt
  have HII := Lib.hid (And.intro hi (And.intro hz0 (And.intro hz1 hz2)))
  clear hi hz0 hz1 hz2
  have HC : Hid (∀ W, Below w.heap.size w W → ∀ j, j < xs.length → W.cell? ⟨g, j, none⟩ = some (.int .i64 (xs.getD j 0))) := Lib.hid (fun W hW j hj => by
    refine (hW.cell (p := ⟨g, j, none⟩) hg).trans ?_
    have h := hrow
    unfold Row at h
    rw [List.length_map] at h
    rw [World.ownsRow.cellAt h j (by omega)]
    simp [List.getD, hj])
  have HROW := Lib.hid hrow
  have HS0 := Lib.hid (row_start (w := w) (e := 3) (Nat.le_refl _))
  have HB0 := Lib.hid ((Below.refl w.heap.size w).alloc (Nat.le_refl _) (.cells #[] 3))
  have HIN : Hid (insAsc xs n = xs) := Lib.hid (by unfold insAsc; rw [hK, if_pos]; rw [List.getElem?_eq_getElem hlt]; congr 1; rw [← hN0]; simp [List.getD, hlt])
  have HK := Lib.hid hK
  clear hrow hK
  have HN0 := Lib.hid hN0
  clear hN0
  go_enter Tryz.func91, Tryz.ntmps91
  go_wp2
  go_loop [5] (fun i => ∃ k : Nat, k ≤ xs.length ∧ i = .int .i64 k ∧ Hid (scan xs n xs.length = scan xs n k)) (fun i => (intOf i).toNat)
  case atStart => exact ⟨xs.length, Nat.le_refl _, rfl, Lib.hid rfl⟩
  case round =>
    obtain ⟨k, hk, rfl, HSC⟩ := hrel
    by_cases hk0 : k = 0
    · subst hk0
      have hP : scan xs n xs.length = 0 := by rw [HSC.out]; rfl
      exact absurd (hP.symm.trans HK.out) (by omega)
    · obtain ⟨i, rfl⟩ : ∃ i, k = i + 1 := ⟨k - 1, by omega⟩
      have hcell1 := HC.out w (Below.refl _ _) i (by omega)
      generalize hx : xs.getD i 0 = x at hcell1
      have HX := Lib.hid hx
      clear hx
      by_cases hle : n ≤ x
      · have HN : Hid (scan xs n xs.length = scan xs n i) := Lib.hid (by rw [HSC.out, scan, if_pos (by rw [HX.out]; exact hle)])
        go_wp2
        go_round
        case rel => exact ⟨i, by omega, by go_num, HN⟩
        case measure => simp [intOf] <;> omega
      · have hP : scan xs n xs.length = i + 1 := by rw [HSC.out, scan, if_neg (by rw [HX.out]; exact hle)]
        obtain rfl : j = i := by have := hP.symm.trans HK.out; omega
        clear hP HSC
        have hcell := HC.out w (Below.refl _ _) (j + 1) hlt
        generalize hy : xs.getD (j + 1) 0 = y at hcell
        have HY := Lib.hid hy
        clear hy
        have hyn : y = n := by rw [← HY.out]; exact HN0.out
        subst hyn
        go_wp2
        go_ret
        exact ⟨_, rfl, by rw [HIN.out]; exact HROW.out.base (Nat.zero_le _), Below.refl _ _⟩
end Go.Proofs.YtnmdnajbafpfiaaGreat

namespace Go.Proofs.YtnmdnajbafpfiaaGreat
open Go.RowKit
set_option linter.unusedVariables false
set_option linter.unusedSimpArgs false

set_option maxRecDepth 100000 in
set_option maxHeartbeats 3000000 in
theorem insert_SL (b g cap : Nat) (xs : List Int) (n : Int) (w : World) (j : Nat) (hrow : Row w b 3 (.slice (some ⟨g, 0, none⟩) xs.length cap) (xs.map (Value.int .i64))) (hl : xs.length ≤ 1048576) (hcap : xs.length ≤ cap) (hg : g < w.heap.size) (hcm : cap ≤ 9223372036854775807)
    (hK : scan xs n xs.length = (j + 1)) (hlt : (j + 1) < xs.length) (hN0 : ¬ xs.getD (j + 1) 0 = n) :
    Calls Tryz.prog 91 #[.slice (some ⟨g, 0, none⟩) xs.length cap, .int .i64 n] w fun e w' => ∃ u, e = .returned u ∧ Row w' 0 3 u ((insAsc xs n).map (Value.int .i64)) ∧ Below w.heap.size w w' := by
  obtain ⟨i0, hi, hz0, hz1, hz2⟩ := info_parts infoInt
  have HII := Lib.hid (And.intro hi (And.intro hz0 (And.intro hz1 hz2)))
  clear hi hz0 hz1 hz2
  have HC : Hid (∀ W, Below w.heap.size w W → ∀ j, j < xs.length → W.cell? ⟨g, j, none⟩ = some (.int .i64 (xs.getD j 0))) := Lib.hid (fun W hW j hj => by
    refine (hW.cell (p := ⟨g, j, none⟩) hg).trans ?_
    have h := hrow
    unfold Row at h
    rw [List.length_map] at h
    rw [World.ownsRow.cellAt h j (by omega)]
    simp [List.getD, hj])
  have HROW := Lib.hid hrow
  have HS0 := Lib.hid (row_start (w := w) (e := 3) (Nat.le_refl _))
  have HB0 := Lib.hid ((Below.refl w.heap.size w).alloc (Nat.le_refl _) (.cells #[] 3))
  have HIN : Hid (insAsc xs n = xs.take (j + 1) ++ n :: xs.drop (j + 1)) := Lib.hid (by unfold insAsc; rw [hK, if_neg]; rw [List.getElem?_eq_getElem hlt]; intro h; apply hN0; simpa [List.getD, hlt] using h)
  have HK := Lib.hid hK
  clear hrow hK
  have HN0 := Lib.hid hN0
  clear hN0
  go_enter Tryz.func91, Tryz.ntmps91
  go_wp2
  go_loop [5] (fun i => ∃ k : Nat, k ≤ xs.length ∧ i = .int .i64 k ∧ Hid (scan xs n xs.length = scan xs n k)) (fun i => (intOf i).toNat)
  case atStart => exact ⟨xs.length, Nat.le_refl _, rfl, Lib.hid rfl⟩
  case round =>
    obtain ⟨k, hk, rfl, HSC⟩ := hrel
    by_cases hk0 : k = 0
    · subst hk0
      have hP : scan xs n xs.length = 0 := by rw [HSC.out]; rfl
      exact absurd (hP.symm.trans HK.out) (by omega)
    · obtain ⟨i, rfl⟩ : ∃ i, k = i + 1 := ⟨k - 1, by omega⟩
      have hcell1 := HC.out w (Below.refl _ _) i (by omega)
      generalize hx : xs.getD i 0 = x at hcell1
      have HX := Lib.hid hx
      clear hx
      by_cases hle : n ≤ x
      · have HN : Hid (scan xs n xs.length = scan xs n i) := Lib.hid (by rw [HSC.out, scan, if_pos (by rw [HX.out]; exact hle)])
        go_wp2
        go_round
        case rel => exact ⟨i, by omega, by go_num, HN⟩
        case measure => simp [intOf] <;> omega
      · have hP : scan xs n xs.length = i + 1 := by rw [HSC.out, scan, if_neg (by rw [HX.out]; exact hle)]
        obtain rfl : j = i := by have := hP.symm.trans HK.out; omega
        clear hP HSC
        have hcell := HC.out w (Below.refl _ _) (j + 1) hlt
        generalize hy : xs.getD (j + 1) 0 = y at hcell
        have HY := Lib.hid hy
        clear hy
        have heq : ¬ y = n := by rw [← HY.out]; exact HN0.out
        have HT1 := Lib.hid (fun (W : World) (hW : Below w.heap.size w W) => cells_take (K := j + 1) (HC.out W hW))
        have HT2 := Lib.hid (fun (W : World) (hW : Below w.heap.size w W) => cells_drop (K := j + 1) (HC.out W hW))
        have hkc2 : j + 1 < cap := by omega
        go_upto_region 6 with (fail)
        go_wp2_with (first
          | (at_builtin; refine append_part rfl _ _ 106 rfl w.heap.size 3 i0 _ 8 Tryz.underlying106 HII.out.1 HII.out.2.1 HII.out.2.2.1 HII.out.2.2.2 rfl (by decide) _ _ rfl HS0.out _ _ _ rfl ((xs.take (j + 1)).map (Value.int .i64)) (by simp <;> omega) (fun h => by cases h) (fun ad h => by cases h; exact HT1.out _ HB0.out) (ints_one _) (by simp <;> omega) (by simp) ?_; intro v1 w1 hown1 hb1; have HO1 := Lib.hid hown1; have HB1 := Lib.hid (HB0.out.trans hb1); have hs1 := HB1.out.size; clear hown1 hb1 HS0)
          | (at_builtin; refine append_one rfl _ _ 106 rfl w.heap.size 3 i0 _ 8 Tryz.underlying106 HII.out.1 HII.out.2.1 HII.out.2.2.1 HII.out.2.2.2 rfl (by decide) _ _ rfl HO1.out (.int .i64 n) rfl rfl (by simp <;> omega) hs1 ?_; intro v2 w2 hown2 hb2; have HO2 := Lib.hid hown2; have HB2 := Lib.hid (HB1.out.trans hb2); have hs2 := HB2.out.size; clear hown2 hb2 HO1)
          | (at_builtin; refine append_part rfl _ _ 106 rfl w.heap.size 3 i0 _ 8 Tryz.underlying106 HII.out.1 HII.out.2.1 HII.out.2.2.1 HII.out.2.2.2 rfl (by decide) _ _ rfl HO2.out _ _ _ rfl ((xs.drop (j + 1)).map (Value.int .i64)) (by simp <;> omega) (fun h => by cases h) (fun ad h => by cases h; exact HT2.out _ HB2.out) (ints_one _) (by simp <;> omega) hs2 ?_; intro v3 w3 hown3 hb3; have HO3 := Lib.hid hown3; have HB3 := Lib.hid (HB2.out.trans hb3); clear hown3 hb3 HO2))
        go_ret
        exact ⟨_, rfl, by have h := HO3.out.base (Nat.zero_le _); rw [HIN.out]; simpa using h, HB3.out⟩
end Go.Proofs.YtnmdnajbafpfiaaGreat

namespace Go.Proofs.YtnmdnajbafpfiaaGreat
open Go.RowKit
set_option linter.unusedVariables false
set_option linter.unusedSimpArgs false

set_option maxRecDepth 100000 in
set_option maxHeartbeats 3000000 in
theorem insert_SN (b g cap : Nat) (xs : List Int) (n : Int) (w : World) (j : Nat) (hrow : Row w b 3 (.slice (some ⟨g, 0, none⟩) xs.length cap) (xs.map (Value.int .i64))) (hl : xs.length ≤ 1048576) (hcap : xs.length ≤ cap) (hg : g < w.heap.size) (hcm : cap ≤ 9223372036854775807)
    (hK : scan xs n xs.length = (j + 1)) (hkl : (j + 1) = xs.length) (hkc : (j + 1) < cap) :
    Calls Tryz.prog 91 #[.slice (some ⟨g, 0, none⟩) xs.length cap, .int .i64 n] w fun e w' => ∃ u, e = .returned u ∧ Row w' 0 3 u ((insAsc xs n).map (Value.int .i64)) ∧ Below w.heap.size w w' := by
  obtain ⟨i0, hi, hz0, hz1, hz2⟩ := info_parts infoInt
  have HII := Lib.hid (And.intro hi (And.intro hz0 (And.intro hz1 hz2)))
  clear hi hz0 hz1 hz2
  have HC : Hid (∀ W, Below w.heap.size w W → ∀ j, j < xs.length → W.cell? ⟨g, j, none⟩ = some (.int .i64 (xs.getD j 0))) := Lib.hid (fun W hW j hj => by
    refine (hW.cell (p := ⟨g, j, none⟩) hg).trans ?_
    have h := hrow
    unfold Row at h
    rw [List.length_map] at h
    rw [World.ownsRow.cellAt h j (by omega)]
    simp [List.getD, hj])
  have HROW := Lib.hid hrow
  have HS0 := Lib.hid (row_start (w := w) (e := 3) (Nat.le_refl _))
  have HB0 := Lib.hid ((Below.refl w.heap.size w).alloc (Nat.le_refl _) (.cells #[] 3))
  have HIN : Hid (insAsc xs n = xs.take (j + 1) ++ n :: xs.drop (j + 1)) := Lib.hid (by unfold insAsc; rw [hK, if_neg]; rw [List.getElem?_eq_none (by omega)]; simp)
  have HK := Lib.hid hK
  clear hrow hK
  have hnl : ¬ (j + 1) < xs.length := by omega
  have HKL := Lib.hid hkl
  clear hkl
  go_enter Tryz.func91, Tryz.ntmps91
  go_wp2
  go_loop [5] (fun i => ∃ k : Nat, k ≤ xs.length ∧ i = .int .i64 k ∧ Hid (scan xs n xs.length = scan xs n k)) (fun i => (intOf i).toNat)
  case atStart => exact ⟨xs.length, Nat.le_refl _, rfl, Lib.hid rfl⟩
  case round =>
    obtain ⟨k, hk, rfl, HSC⟩ := hrel
    by_cases hk0 : k = 0
    · subst hk0
      have hP : scan xs n xs.length = 0 := by rw [HSC.out]; rfl
      exact absurd (hP.symm.trans HK.out) (by omega)
    · obtain ⟨i, rfl⟩ : ∃ i, k = i + 1 := ⟨k - 1, by omega⟩
      have hcell1 := HC.out w (Below.refl _ _) i (by omega)
      generalize hx : xs.getD i 0 = x at hcell1
      have HX := Lib.hid hx
      clear hx
      by_cases hle : n ≤ x
      · have HN : Hid (scan xs n xs.length = scan xs n i) := Lib.hid (by rw [HSC.out, scan, if_pos (by rw [HX.out]; exact hle)])
        go_wp2
        go_round
        case rel => exact ⟨i, by omega, by go_num, HN⟩
        case measure => simp [intOf] <;> omega
      · have hP : scan xs n xs.length = i + 1 := by rw [HSC.out, scan, if_neg (by rw [HX.out]; exact hle)]
        obtain rfl : j = i := by have := hP.symm.trans HK.out; omega
        clear hP HSC
        have HT1 := Lib.hid (fun (W : World) (hW : Below w.heap.size w W) => cells_take (K := j + 1) (HC.out W hW))
        have HT2 := Lib.hid (fun (W : World) (hW : Below w.heap.size w W) => cells_drop (K := j + 1) (HC.out W hW))
        have hkc2 : j + 1 < cap := by omega
        go_upto_region 6 with (fail)
        go_wp2_with (first
          | (at_builtin; refine append_part rfl _ _ 106 rfl w.heap.size 3 i0 _ 8 Tryz.underlying106 HII.out.1 HII.out.2.1 HII.out.2.2.1 HII.out.2.2.2 rfl (by decide) _ _ rfl HS0.out _ _ _ rfl ((xs.take (j + 1)).map (Value.int .i64)) (by simp <;> omega) (fun h => by cases h) (fun ad h => by cases h; exact HT1.out _ HB0.out) (ints_one _) (by simp <;> omega) (by simp) ?_; intro v1 w1 hown1 hb1; have HO1 := Lib.hid hown1; have HB1 := Lib.hid (HB0.out.trans hb1); have hs1 := HB1.out.size; clear hown1 hb1 HS0)
          | (at_builtin; refine append_one rfl _ _ 106 rfl w.heap.size 3 i0 _ 8 Tryz.underlying106 HII.out.1 HII.out.2.1 HII.out.2.2.1 HII.out.2.2.2 rfl (by decide) _ _ rfl HO1.out (.int .i64 n) rfl rfl (by simp <;> omega) hs1 ?_; intro v2 w2 hown2 hb2; have HO2 := Lib.hid hown2; have HB2 := Lib.hid (HB1.out.trans hb2); have hs2 := HB2.out.size; clear hown2 hb2 HO1)
          | (at_builtin; refine append_part rfl _ _ 106 rfl w.heap.size 3 i0 _ 8 Tryz.underlying106 HII.out.1 HII.out.2.1 HII.out.2.2.1 HII.out.2.2.2 rfl (by decide) _ _ rfl HO2.out _ _ _ rfl ((xs.drop (j + 1)).map (Value.int .i64)) (by simp <;> omega) (fun h => by cases h) (fun ad h => by cases h; exact HT2.out _ HB2.out) (ints_one _) (by simp <;> omega) hs2 ?_; intro v3 w3 hown3 hb3; have HO3 := Lib.hid hown3; have HB3 := Lib.hid (HB2.out.trans hb3); clear hown3 hb3 HO2))
        go_ret
        exact ⟨_, rfl, by have h := HO3.out.base (Nat.zero_le _); rw [HIN.out]; simpa using h, HB3.out⟩
end Go.Proofs.YtnmdnajbafpfiaaGreat

namespace Go.Proofs.YtnmdnajbafpfiaaGreat
open Go.RowKit
set_option linter.unusedVariables false
set_option linter.unusedSimpArgs false

set_option maxRecDepth 100000 in
set_option maxHeartbeats 3000000 in
theorem insert_SC (b g cap : Nat) (xs : List Int) (n : Int) (w : World) (j : Nat) (hrow : Row w b 3 (.slice (some ⟨g, 0, none⟩) xs.length cap) (xs.map (Value.int .i64))) (hl : xs.length ≤ 1048576) (hcap : xs.length ≤ cap) (hg : g < w.heap.size) (hcm : cap ≤ 9223372036854775807)
    (hK : scan xs n xs.length = (j + 1)) (hkl : (j + 1) = xs.length) (hkc : (j + 1) = cap) :
    Calls Tryz.prog 91 #[.slice (some ⟨g, 0, none⟩) xs.length cap, .int .i64 n] w fun e w' => ∃ u, e = .returned u ∧ Row w' 0 3 u ((insAsc xs n).map (Value.int .i64)) ∧ Below w.heap.size w w' := by
  subst hkc
  obtain ⟨i0, hi, hz0, hz1, hz2⟩ := info_parts infoInt
  have HII := Lib.hid (And.intro hi (And.intro hz0 (And.intro hz1 hz2)))
  clear hi hz0 hz1 hz2
  have HC : Hid (∀ W, Below w.heap.size w W → ∀ j, j < xs.length → W.cell? ⟨g, j, none⟩ = some (.int .i64 (xs.getD j 0))) := Lib.hid (fun W hW j hj => by
    refine (hW.cell (p := ⟨g, j, none⟩) hg).trans ?_
    have h := hrow
    unfold Row at h
    rw [List.length_map] at h
    rw [World.ownsRow.cellAt h j (by omega)]
    simp [List.getD, hj])
  have HROW := Lib.hid hrow
  have HS0 := Lib.hid (row_start (w := w) (e := 3) (Nat.le_refl _))
  have HB0 := Lib.hid ((Below.refl w.heap.size w).alloc (Nat.le_refl _) (.cells #[] 3))
  have HIN : Hid (insAsc xs n = xs.take (j + 1) ++ n :: xs.drop (j + 1)) := Lib.hid (by unfold insAsc; rw [hK, if_neg]; rw [List.getElem?_eq_none (by omega)]; simp)
  have HK := Lib.hid hK
  clear hrow hK
  have hnl : ¬ (j + 1) < xs.length := by omega
  have HKL := Lib.hid hkl
  clear hkl
  go_enter Tryz.func91, Tryz.ntmps91
  go_wp2
  go_loop [5] (fun i => ∃ k : Nat, k ≤ xs.length ∧ i = .int .i64 k ∧ Hid (scan xs n xs.length = scan xs n k)) (fun i => (intOf i).toNat)
  case atStart => exact ⟨xs.length, Nat.le_refl _, rfl, Lib.hid rfl⟩
  case round =>
    obtain ⟨k, hk, rfl, HSC⟩ := hrel
    by_cases hk0 : k = 0
    · subst hk0
      have hP : scan xs n xs.length = 0 := by rw [HSC.out]; rfl
      exact absurd (hP.symm.trans HK.out) (by omega)
    · obtain ⟨i, rfl⟩ : ∃ i, k = i + 1 := ⟨k - 1, by omega⟩
      have hcell1 := HC.out w (Below.refl _ _) i (by omega)
      generalize hx : xs.getD i 0 = x at hcell1
      have HX := Lib.hid hx
      clear hx
      by_cases hle : n ≤ x
      · have HN : Hid (scan xs n xs.length = scan xs n i) := Lib.hid (by rw [HSC.out, scan, if_pos (by rw [HX.out]; exact hle)])
        go_wp2
        go_round
        case rel => exact ⟨i, by omega, by go_num, HN⟩
        case measure => simp [intOf] <;> omega
      · have hP : scan xs n xs.length = i + 1 := by rw [HSC.out, scan, if_neg (by rw [HX.out]; exact hle)]
        obtain rfl : j = i := by have := hP.symm.trans HK.out; omega
        clear hP HSC
        have HT1 := Lib.hid (fun (W : World) (hW : Below w.heap.size w W) => cells_take (K := j + 1) (HC.out W hW))
        have HT2 : Hid (∀ (W : World), Below w.heap.size w W → ∀ (i : Nat) (u : Value), ((xs.drop (j + 1)).map (Value.int .i64))[i]? = some u → W.cell? ((⟨g, 0, none⟩ : Addr).add i) = some u) := Lib.hid (fun W hW i u hu => by rw [HKL.out, List.drop_length] at hu; simp at hu)
        go_upto_region 6 with (fail)
        go_wp2_with (first
          | (at_builtin; refine append_part rfl _ _ 106 rfl w.heap.size 3 i0 _ 8 Tryz.underlying106 HII.out.1 HII.out.2.1 HII.out.2.2.1 HII.out.2.2.2 rfl (by decide) _ _ rfl HS0.out _ _ _ rfl ((xs.take (j + 1)).map (Value.int .i64)) (by simp <;> omega) (fun h => by cases h) (fun ad h => by cases h; exact HT1.out _ HB0.out) (ints_one _) (by simp <;> omega) (by simp) ?_; intro v1 w1 hown1 hb1; have HO1 := Lib.hid hown1; have HB1 := Lib.hid (HB0.out.trans hb1); have hs1 := HB1.out.size; clear hown1 hb1 HS0)
          | (at_builtin; refine append_one rfl _ _ 106 rfl w.heap.size 3 i0 _ 8 Tryz.underlying106 HII.out.1 HII.out.2.1 HII.out.2.2.1 HII.out.2.2.2 rfl (by decide) _ _ rfl HO1.out (.int .i64 n) rfl rfl (by simp <;> omega) hs1 ?_; intro v2 w2 hown2 hb2; have HO2 := Lib.hid hown2; have HB2 := Lib.hid (HB1.out.trans hb2); have hs2 := HB2.out.size; clear hown2 hb2 HO1)
          | (at_builtin; refine append_part rfl _ _ 106 rfl w.heap.size 3 i0 _ 8 Tryz.underlying106 HII.out.1 HII.out.2.1 HII.out.2.2.1 HII.out.2.2.2 rfl (by decide) _ _ rfl HO2.out _ _ _ rfl ((xs.drop (j + 1)).map (Value.int .i64)) (by simp <;> omega) (fun h => by cases h) (fun ad h => by cases h; exact HT2.out _ HB2.out) (ints_one _) (by simp <;> omega) hs2 ?_; intro v3 w3 hown3 hb3; have HO3 := Lib.hid hown3; have HB3 := Lib.hid (HB2.out.trans hb3); clear hown3 hb3 HO2))
        go_ret
        exact ⟨_, rfl, by have h := HO3.out.base (Nat.zero_le _); rw [HIN.out]; simpa using h, HB3.out⟩
end Go.Proofs.YtnmdnajbafpfiaaGreat

namespace Go.Proofs.YtnmdnajbafpfiaaGreat
open Go.RowKit
set_option linter.unusedVariables false
set_option linter.unusedSimpArgs false

theorem insert_any (b : Nat) (v : Value) (xs : List Int) (n : Int) (w : World) (hrow : Row w b 3 v (xs.map (Value.int .i64))) (hl : xs.length ≤ 1048576) :
    Calls Tryz.prog 91 #[v, .int .i64 n] w fun e w' => ∃ u, e = .returned u ∧ Row w' 0 3 u ((insAsc xs n).map (Value.int .i64)) ∧ Below w.heap.size w w' := by
  have hn0 : insAsc [] n = [n] := by simp [insAsc, scan]
  rcases hrow.shape with ⟨rfl, hx⟩ | ⟨g, cap, rfl, hg, hgl, hc, hcm, _, _⟩
  · have hx' : xs = [] := by simpa using hx
    subst hx'
    refine (insert_nil n w).mono ?_
    rintro e w' ⟨u, rfl, hr, hb⟩
    exact ⟨u, rfl, by rw [hn0]; exact hr.base (Nat.zero_le _), hb⟩
  · rw [List.length_map] at hrow hc ⊢
    have hcm' : cap ≤ 9223372036854775807 := by simpa [maxLen] using hcm
    have hle := scan_le xs n xs.length
    rcases hK : scan xs n xs.length with _ | j
    · by_cases hlt : 0 < xs.length
      · by_cases hN : xs.getD 0 0 = n
        · exact insert_ZE b g cap xs n w hrow hl hc hgl hcm' hK hlt hN
        · exact insert_ZL b g cap xs n w hrow hl hc hgl hcm' hK hlt hN
      · by_cases hkc : 0 < cap
        · exact insert_ZN b g cap xs n w hrow hl hc hgl hcm' hK (by omega) hkc
        · obtain rfl : xs = [] := List.length_eq_zero_iff.1 (by omega)
          obtain rfl : cap = 0 := by omega
          refine (insert_ZC g n w).mono ?_
          rintro e w' ⟨u, rfl, hr, hb⟩
          exact ⟨u, rfl, by rw [hn0]; exact hr.base (Nat.zero_le _), hb⟩
    · rw [hK] at hle
      by_cases hlt : j + 1 < xs.length
      · by_cases hN : xs.getD (j + 1) 0 = n
        · exact insert_SE b g cap xs n w j hrow hl hc hgl hcm' hK hlt hN
        · exact insert_SL b g cap xs n w j hrow hl hc hgl hcm' hK hlt hN
      · by_cases hkc : j + 1 < cap
        · exact insert_SN b g cap xs n w j hrow hl hc hgl hcm' hK (by omega) hkc
        · exact insert_SC b g cap xs n w j hrow hl hc hgl hcm' hK (by omega) (by omega)

theorem insAsc_len (xs : List Int) (n : Int) : (insAsc xs n).length ≤ xs.length + 1 := by
  unfold insAsc
  split
  · omega
  · have := scan_le xs n xs.length
    simp; omega
theorem insL_len (ys : List Int) : ∀ xs : List Int, (ys.foldl insAsc xs).length ≤ xs.length + ys.length := by
  induction ys with
  | nil => intro xs; simp
  | cons y ys ih => intro xs; have := ih (insAsc xs y); have := insAsc_len xs y; simp only [List.foldl_cons, List.length_cons]; omega

set_option maxRecDepth 100000 in
set_option maxHeartbeats 1600000 in
theorem specVars_any (N : Nat) : ∀ (t : Tm) (V : Value) (w0 : World) (v : Value) (xs : List Int) (w : World), t.nodes < N → ArgsAt w0 V t.args → Below w0.heap.size w0 w → Row w 0 3 v (xs.map (Value.int .i64)) → xs.length + t.nodes ≤ 1048576 → t.sz ≤ 1048576 →
    Calls Tryz.prog 68 #[.agg #[.int .i64 t.kind, .int .i64 t.num, .string t.name, V], v] w fun e w' => ∃ u, e = .returned u ∧ Row w' 0 3 u ((t.vl.foldl insAsc xs).map (Value.int .i64)) ∧ Below w.heap.size w w' := by
  induction N with
  | zero => intro t V w0 v xs w hN; omega
  | succ N ih =>
    intro t V w0 v xs w hN hA hBw hrow hxl hZ
    obtain ⟨a, cap, rfl⟩ := hA.slice
    have HI := Lib.hid ih
    have HA := Lib.hid hA
    have HSE := Lib.hid (sz_eq t)
    have hL : t.args.length ≤ 1048576 := by have := length_szL t.args; have := HSE.out; omega
    have HNE := Lib.hid (nodes_eq t)
    have HVE := Lib.hid (vl_eq t)
    have htn := nodes_pos t
    have HBW := Lib.hid hBw
    have hsl : ∃ sa sn sc, v = .slice sa sn sc := by
      rcases hrow.shape with ⟨h, _⟩ | ⟨g, c, h, _⟩
      · exact ⟨_, _, _, h⟩
      · exact ⟨_, _, _, h⟩
    obtain ⟨sa, sn, sc, rfl⟩ := hsl
    have B0 := Lib.hid ((Below.refl w.heap.size w).alloc (Nat.le_refl _) (.cells #[.int .i64 t.kind, .int .i64 t.num, .string t.name, .slice a t.args.length cap] 38))
    have HR0 := Lib.hid (hrow.kept B0.out)
    clear hA ih hBw hrow
    by_cases hv : t.kind = 1
    · have HV : Hid (t.vl = [t.num]) := Lib.hid (by rw [HVE.out, if_pos hv])
      rw [hv] at B0 HR0 ⊢
      clear hv
      have HX := Lib.hid (at_box w #[.int .i64 1, .int .i64 t.num, .string t.name, .slice a t.args.length cap] 38)
      have HINS := Lib.hid (insert_any 0 _ xs t.num _ HR0.out (by omega))
      go_enter Tryz.func68, Tryz.ntmps68
      go_wp2_with fail
      refine HINS.out.mono ?_
      rintro e w2 ⟨u, rfl, hr2, hb2⟩
      have HO2 := Lib.hid hr2
      have HB2 := Lib.hid (B0.out.trans (hb2.mono B0.out.size))
      clear hr2 hb2
      go_wp2
      go_ret
      refine ⟨_, rfl, ?_, HB2.out⟩
      rw [HV.out]
      exact HO2.out
    · have HV : Hid (t.vl = vlL t.args) := Lib.hid (by rw [HVE.out, if_neg hv])
      have hkb : (t.kind == 1) = false := by simp [hv]
      go_enter Tryz.func68, Tryz.ntmps68
      go_wp2
      go_loopw [1, 17] (fun vv i wr => ∃ (k : Nat), k ≤ t.args.length ∧ i = .int .i64 k ∧ Row wr 0 3 vv (((vlL (t.args.take k)).foldl insAsc xs).map (Value.int .i64)) ∧ Below w.heap.size w wr)
          (fun _ i _ => t.args.length - (intOf i).toNat)
      case atStart => exact ⟨0, Nat.zero_le _, rfl, by rw [List.take_zero, vlL_nil, List.foldl_nil]; exact HR0.out, B0.out⟩
      case round =>
        obtain ⟨k, hk, rfl, hr, hb⟩ := hrel
        obtain ⟨sa', sn', sc', rfl⟩ : ∃ sa sn sc, u1 = .slice sa sn sc := by
          rcases hr.shape with ⟨h, _⟩ | ⟨g, c, h, _⟩
          · exact ⟨_, _, _, h⟩
          · exact ⟨_, _, _, h⟩
        have HRR := Lib.hid hr
        have HB := Lib.hid hb
        have HW0 := Lib.hid (HBW.out.trans (hb.mono HBW.out.size))
        clear hr hb HR0
        by_cases hlt : k < t.args.length
        · obtain ⟨x, hx⟩ : ∃ x, t.args[k]? = some x := ⟨_, List.getElem?_eq_getElem hlt⟩
          obtain ⟨g, off, u1', u2', rfl, hg, hq, hc, hch⟩ := HA.out.elem hx
          clear hq
          obtain ⟨d0, d1, d2, d3⟩ := hc _ HW0.out
          have hgw : g < wr.heap.size := Nat.lt_of_lt_of_le hg HW0.out.size
          have HCH := Lib.hid hch
          have HVT := Lib.hid (vl_take hx)
          have hbnd : x.nodes < N ∧ x.sz ≤ 1048576 ∧ ((vlL (t.args.take k)).foldl insAsc xs).length + x.nodes ≤ 1048576 := by
            have h1 := nodes_take_at hx
            have h2 := HNE.out
            have h3 := sz_at hx
            have h4 := HSE.out
            have h5 := vlL_len (t.args.take k)
            have h6 := insL_len (vlL (t.args.take k)) xs
            omega
          have HBD := Lib.hid hbnd
          clear hc hch hx hbnd
          have hal : Below wr.heap.size wr (wr.alloc (.cells #[.int .i64 x.kind, .int .i64 x.num, .string x.name, .slice u1' x.args.length u2'] 38)) := (Below.refl _ _).alloc (Nat.le_refl _) _
          have HCALL := Lib.hid (HI.out x _ w0 _ _ _ HBD.out.1 HCH.out (belowOn HW0.out (Nat.le_refl _) hal) (HRR.out.kept hal) HBD.out.2.2 HBD.out.2.1)
          have HAL := Lib.hid hal
          clear hal
          go_wp2_with fail
          refine HCALL.out.mono ?_
          rintro e w2 ⟨u, rfl, hr2, hb2⟩
          have HB2 := Lib.hid (HB.out.trans ((HAL.out.trans (hb2.mono HAL.out.size)).mono HB.out.size))
          have hsz2 := hb2.size
          have HR2 := Lib.hid hr2
          clear hb2 hr2 HCALL d0 d1 d2 d3
          simp only [World.size_alloc] at hsz2
          go_wp2
          go_roundw
          case rel => exact ⟨k + 1, by omega, by go_num, by rw [HVT.out, List.foldl_append]; exact HR2.out, HB2.out⟩
          case measure => simp [intOf]; omega
        · go_wp2
          go_ret
          obtain rfl : k = t.args.length := by omega
          have h1 := HRR.out
          rw [List.take_length] at h1
          exact ⟨_, rfl, by rw [HV.out]; exact h1, HB.out⟩
end Go.Proofs.YtnmdnajbafpfiaaGreat

