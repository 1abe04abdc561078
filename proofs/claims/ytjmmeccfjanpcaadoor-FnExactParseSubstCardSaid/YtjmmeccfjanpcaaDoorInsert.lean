/-
  The model's l02Insert.
-/
import Derived.Test.YtjmmeccfjanpcaaDoorVarsPlain
import Derived.Test.YtjmmeccfjanpcaaDoorLaws
import Derived.Test.YtjmmeccfjanpcaaDoorAsc
import Derived.Maps.AppendAt
import Derived.Laws.AppendOwnNone
namespace Go.Proofs.YtjmmeccfjanpcaaDoor
open Go.RowKit
set_option linter.unusedVariables false
set_option linter.unusedSimpArgs false

/-- 'append(s, t...)' on a slice that the call owns; t nil, empty or cells that can be read. -/
theorem append_part {P : Program} {W : World} {ops : Array Oper} {rest : List Oper} {o : Oper} {a : Act} {Q : Exit → Act → World → Prop} (hgd : o.guard = none) (s x : Operand) (t : TypeId)
    (ho : o.op = .call { callee := .builtin .append, args := #[s, x], argTypes := #[t, t] })
    (base : Nat) (e : TypeId) (i : TypeInfo) (z : Value) (bytes : Nat) (ht : P.underlying t = some (.slice e)) (hi : P.info? e = some i) (hz : i.zero = some z)
    (hsize : i.size = 1) (hby : i.bytes = bytes) (hzs : z.cells.size = 1) (hb16 : bytes ≤ 24)
    (v : Value) (xs : List Value) (hs : a.eval s = v) (hown : Row W base e v xs) (A : Option Addr) (m c : Nat) (hx : a.eval x = .slice A m c) (ys : List Value) (hl : ys.length = m)
    (hA : A = none → m = 0 ∧ c = 0) (hc : ∀ ad, A = some ad → ∀ j u, ys[j]? = some u → W.cell? (ad.add j) = some u) (h1 : ∀ u ∈ ys, u.oneCell' = true) (hn : xs.length + m ≤ 1099511627776) (hbase : base ≤ W.heap.size)
    (h : ∀ v' w', Row w' base e v' (xs ++ ys) → Below base W w' → wpList P ops Q rest (a.put o.dst v') w') : wpList P ops Q (o :: rest) a W := by
  cases A with
  | none =>
    obtain ⟨rfl, rfl⟩ := hA rfl
    have hys : ys = [] := List.length_eq_zero_iff.1 hl
    subst hys
    refine wpList_append_own_none hgd s x t ho base e i 1 ht hi v xs.length xs hs hown hx ?_
    have h2 := h v W (by rw [List.append_nil]; exact hown) (Below.refl _ _)
    exact h2
  | some ad =>
    refine wpList_append_own W hgd s x t ho base e i z 1 bytes ht hi hz hsize hby hzs (by decide) v xs.length xs hs hown ad m c ys hx (by omega) (hc ad rfl) h1 (by unfold maxLen; omega) ?_ hbase ?_
    · have : (xs.length + m) * bytes ≤ (xs.length + m) * 24 := Nat.mul_le_mul_left _ hb16
      omega
    · intro v' w' hown' hg _
      refine h v' w' ?_ (below_of_grown hg hbase (fun k hk => hown.ge k hk))
      show w'.ownsRow base e 1 v' (xs ++ ys).length (xs ++ ys)
      rw [List.length_append, hl]
      exact hown'
theorem ints_one (ys : List Int) : ∀ u ∈ ys.map (Value.int .i64), u.oneCell' = true := by
  intro u hu
  obtain ⟨x, _, rfl⟩ := List.mem_map.1 hu
  rfl
theorem row_start {w : World} {e : TypeId} {base : Nat} (hb : base ≤ w.heap.size) : Row (w.alloc (.cells #[] e)) base e (.slice (some ⟨w.heap.size, 0, none⟩) 0 0) [] :=
  ⟨rfl, .inr ⟨w.heap.size, 0, #[], rfl, hb, heap_new w _, Nat.le_refl _, Nat.zero_le _, rfl, rfl⟩⟩

set_option maxRecDepth 100000 in
set_option maxHeartbeats 1600000 in
theorem insert_nil (n : Int) (w : World) :
    Calls Tryd.prog 54 #[.slice none 0 0, .int .i64 n] w fun e w' => ∃ u, e = .returned u ∧ Row w' w.heap.size 3 u [.int .i64 n] ∧ Below w.heap.size w w' := by
  obtain ⟨i0, hi, hz0, hz1, hz2⟩ := info_parts infoInt
  have HII := Lib.hid (And.intro hi (And.intro hz0 (And.intro hz1 hz2)))
  clear hi hz0 hz1 hz2
  have HS := Lib.hid (row_start (w := w) (e := 3) (Nat.le_refl _))
  have HB := Lib.hid ((Below.refl w.heap.size w).alloc (Nat.le_refl _) (.cells #[] 3))
  go_enter Tryd.func54, Tryd.ntmps54
  go_wp2
  refine wp_loop_rounds 1 ?_
  rw [rounds_succ]
  go_upto_region 6 with (fail)
  go_wp2_with (first
    | (at_builtin; refine append_part rfl _ _ 64 rfl w.heap.size 3 i0 _ 8 Tryd.underlying64 HII.out.1 HII.out.2.1 HII.out.2.2.1 HII.out.2.2.2 rfl (by decide) _ _ rfl HS.out none 0 0 rfl [] rfl (fun _ => ⟨rfl, rfl⟩) (fun ad h => by cases h) (fun u h => by simp at h) (by simp) (by simp) ?_; intro v1 w1 hown1 hb1; have HO1 := Lib.hid hown1; have HB1 := Lib.hid (HB.out.trans hb1); have hs1 := HB1.out.size; clear hown1 hb1 HS)
    | (at_builtin; refine append_one rfl _ _ 64 rfl w.heap.size 3 i0 _ 8 Tryd.underlying64 HII.out.1 HII.out.2.1 HII.out.2.2.1 HII.out.2.2.2 rfl (by decide) _ _ rfl HO1.out (.int .i64 n) rfl rfl (by simp) hs1 ?_; intro v2 w2 hown2 hb2; have HO2 := Lib.hid hown2; have HB2 := Lib.hid (HB1.out.trans hb2); have hs2 := HB2.out.size; clear hown2 hb2 HO1)
    | (at_builtin; refine append_part rfl _ _ 64 rfl w.heap.size 3 i0 _ 8 Tryd.underlying64 HII.out.1 HII.out.2.1 HII.out.2.2.1 HII.out.2.2.2 rfl (by decide) _ _ rfl HO2.out none 0 0 rfl [] rfl (fun _ => ⟨rfl, rfl⟩) (fun ad h => by cases h) (fun u h => by simp at h) (by simp) hs2 ?_; intro v3 w3 hown3 hb3; have HO3 := Lib.hid hown3; have HB3 := Lib.hid (HB2.out.trans hb3); clear hown3 hb3 HO2))
  go_ret
  exact ⟨_, rfl, by have h := HO3.out; simpa using h, HB3.out⟩

theorem add_at {g off i : Nat} : (⟨g, off, none⟩ : Addr).add i = ⟨g, off + i, none⟩ := by unfold Addr.add; split <;> simp_all
theorem cells_take {w : World} {g K : Nat} {xs : List Int} (h : ∀ j, j < xs.length → w.cell? ⟨g, j, none⟩ = some (.int .i64 (xs.getD j 0))) : ∀ (j : Nat) (u : Value), ((xs.take K).map (Value.int .i64))[j]? = some u → w.cell? ((⟨g, 0, none⟩ : Addr).add j) = some u := by
  intro j u hu
  rw [List.getElem?_map] at hu
  obtain ⟨x, hx, rfl⟩ := Option.map_eq_some_iff.1 hu
  obtain ⟨h1, h2⟩ := List.getElem?_eq_some_iff.1 hx
  rw [List.length_take] at h1
  rw [add_at, Nat.zero_add, h j (by omega)]
  congr 2
  rw [← h2]
  simp [List.getD, show j < xs.length by omega]
theorem cells_drop {w : World} {g K : Nat} {xs : List Int} (h : ∀ j, j < xs.length → w.cell? ⟨g, j, none⟩ = some (.int .i64 (xs.getD j 0))) : ∀ (j : Nat) (u : Value), ((xs.drop K).map (Value.int .i64))[j]? = some u → w.cell? ((⟨g, K, none⟩ : Addr).add j) = some u := by
  intro j u hu
  rw [List.getElem?_map] at hu
  obtain ⟨x, hx, rfl⟩ := Option.map_eq_some_iff.1 hu
  obtain ⟨h1, h2⟩ := List.getElem?_eq_some_iff.1 hx
  rw [List.length_drop] at h1
  rw [add_at, h (K + j) (by omega)]
  congr 2
  rw [← h2]
  simp [List.getD, show K + j < xs.length by omega]
end Go.Proofs.YtjmmeccfjanpcaaDoor

