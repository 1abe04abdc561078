/-
  The program's generalizer: slices.ContainsFunc over its two closures; eachOf over head and tail. (Written by wip/tools/gen_overa.py.)
-/
import Derived.Test.YtoihimdfmncdoaaVarFor
import Derived.Test.YtoihimdfmncdoaaPuts
import Derived.Test.YtoihimdfmncdoaaUnifT
namespace Go.Proofs.Ytoihimdfmncdoaa
open Go.RowKit
set_option linter.unusedVariables false
set_option linter.unusedSimpArgs false

def PartP (p : Tm → Bool) (l : List Tm) (w : World) : Prop := ∀ (j : Nat) (x : Tm), l[j]? = some x → ∀ (U : Value) (W : World), Below w.heap.size w W → ArgsAt W U x.args →
  Calls Try.prog 91 #[.agg #[.int .i64 x.kind, .int .i64 x.num, .string x.name, U]] W fun e w' => e = .returned (.bool (p x)) ∧ Below W.heap.size W w'
def PartQ (nb : Nat) (p : Tm → Bool) (l : List Tm) (w : World) : Prop := ∀ (j : Nat) (x : Tm), l[j]? = some x → ∀ (U : Value) (W : World), Below w.heap.size w W → ArgsAt W U x.args →
  Calls Try.prog 96 #[.agg #[.int .i64 x.kind, .int .i64 x.num, .string x.name, U], .pointer (some ⟨nb, 0, none⟩)] W fun e w' => e = .returned (.bool (p x)) ∧ Below W.heap.size W w'

theorem rowE_movedF {e : TypeId} {size base : Nat} {w w' : World} {v : Value} {n : Nat} {xs : List Value} (h : w.ownsRow base e size v n xs) (hb : ∀ k, v.ownBlock = some k → w'.heap[k]? = w.heap[k]?) : w'.ownsRow base e size v n xs := by
  refine ⟨h.1, ?_⟩
  rcases h.2 with hn | ⟨g', cap', cur, rfl, h1, h2, h3⟩
  · exact .inl hn
  · exact .inr ⟨g', cap', cur, rfl, h1, (hb g' rfl).trans h2, h3⟩
theorem take_snocF {α : Type} {l : List α} {j : Nat} {t : α} (h : l[j]? = some t) : l.take (j + 1) = l.take j ++ [t] := by
  rw [List.take_add_one, h]; rfl
set_option maxRecDepth 100000 in
set_option maxHeartbeats 1000000 in
theorem indexP_any (p : Tm → Bool) (l : List Tm) (V : Value) (w : World) (hA : ArgsAt w V l) (hL : l.length ≤ 1048576) (hp : PartP p l w) :
    Calls Try.prog 131 #[V, .func (.func 91) #[] #[]] w (IdxP p l w) := by
  obtain ⟨a, cap, rfl⟩ := hA.slice
  have HA := Lib.hid hA
  have HP := Lib.hid hp
  have HYES : Hid (∀ (k : Nat) (x : Tm), l[k]? = some x → p x = true → l.any p = true) := Lib.hid fun k x hk hx => List.any_eq_true.2 ⟨x, List.mem_of_getElem? hk, hx⟩
  have HNO : Hid ((∀ (i : Nat) (y : Tm), i < l.length → l[i]? = some y → p y = false) → l.any p = false) := Lib.hid fun h => List.any_eq_false.2 fun x hx => by
    obtain ⟨i, hi⟩ := List.getElem?_of_mem hx
    rw [h i x (List.getElem?_eq_some_iff.1 hi).1 hi]; simp
  unfold IdxP
  generalize l.any p = r at HYES HNO ⊢
  clear hA hp
  go_enter Try.func131, Try.ntmps131
  go_wp2
  go_loopw [8] (fun iv wr => ∃ k : Nat, k ≤ l.length ∧ iv = .int .i64 k ∧ Hid (∀ (i : Nat) (y : Tm), i < k → l[i]? = some y → p y = false) ∧ Hid (Below w.heap.size w wr)) (fun iv _ => l.length - (intOf iv).toNat)
  case atStart => exact ⟨0, Nat.zero_le _, rfl, Lib.hid (fun i y hi => absurd hi (Nat.not_lt_zero _)), Lib.hid (Below.refl _ _)⟩
  case round =>
    obtain ⟨k, hk, rfl, HN, HB⟩ := hrel
    by_cases hlt : k < l.length
    · have hltI : (k : Int) < (l.length : Int) := by omega
      obtain ⟨x, hx⟩ : ∃ x, l[k]? = some x := ⟨_, List.getElem?_eq_getElem hlt⟩
      obtain ⟨g, off, u1, u2, rfl, hg, hq, hc, hu⟩ := HA.out.elem hx
      obtain ⟨d0, d1, d2, d3⟩ := hc wr HB.out
      have HC := Lib.hid (HP.out k x hx (.slice u1 x.args.length u2) wr HB.out (hu.kept HB.out))
      have HX := Lib.hid hx
      clear hc hu hx hq
      go_wp2_with fail
      refine HC.out.mono ?_
      rintro e w2 ⟨rfl, hb⟩
      have HB2 := Lib.hid (belowOn HB.out (Nat.le_refl _) hb)
      clear hb HC d0 d1 d2 d3
      cases hq : p x with
      | true =>
        have HR := Lib.hid (HYES.out k x HX.out hq)
        clear hq
        go_wp2
        go_ret
        exact ⟨.inl ⟨HR.out, k, rfl⟩, HB2.out⟩
      | false =>
        have HQ := Lib.hid hq
        clear hq
        go_wp2
        go_roundw
        case rel =>
          refine ⟨k + 1, by omega, by go_num, Lib.hid fun i y hi hy => ?_, HB2⟩
          by_cases e : i = k
          · subst e
            cases hy.symm.trans HX.out
            exact HQ.out
          · exact HN.out i y (by omega) hy
        case measure => simp [intOf]; omega
    · obtain rfl : k = l.length := by omega
      have HR := Lib.hid (HNO.out HN.out)
      go_wp2
      go_ret
      exact ⟨.inr ⟨HR.out, rfl⟩, HB.out⟩

set_option maxHeartbeats 400000 in
theorem containsP_any (p : Tm → Bool) (l : List Tm) (V : Value) (w : World) (hA : ArgsAt w V l) (hL : l.length ≤ 1048576) (hp : PartP p l w) :
    Calls Try.prog 89 #[V, .func (.func 91) #[] #[]] w fun e w' => e = .returned (.bool (l.any p)) ∧ Below w.heap.size w w' := by
  obtain ⟨a, cap, rfl⟩ := hA.slice
  have HC := Lib.hid (indexP_any p l _ w hA hL hp)
  clear hA hp
  unfold IdxP at HC
  generalize l.any p = r at HC ⊢
  go_enter Try.func89, Try.ntmps89
  go_wp2_with fail
  refine HC.out.mono ?_
  rintro e w1 ⟨⟨rfl, k, rfl⟩ | ⟨rfl, rfl⟩, hb⟩
  · have HB := Lib.hid hb
    have hk0 : (0 : Int) ≤ (k : Int) := by omega
    have d : decide ((0 : Int) ≤ (k : Int)) = true := decide_eq_true hk0
    clear hb HC
    go_wp2
    go_ret
    exact ⟨by simp, HB.out⟩
  · have HB := Lib.hid hb
    clear hb HC
    go_wp2
    go_ret
    exact ⟨rfl, HB.out⟩

set_option maxRecDepth 100000 in
set_option maxHeartbeats 1000000 in
theorem indexQ_any (nb : Nat) (p : Tm → Bool) (l : List Tm) (V : Value) (w : World) (hA : ArgsAt w V l) (hL : l.length ≤ 1048576) (hp : PartQ nb p l w) :
    Calls Try.prog 131 #[V, .func (.func 96) #[] #[.pointer (some ⟨nb, 0, none⟩)]] w (IdxP p l w) := by
  obtain ⟨a, cap, rfl⟩ := hA.slice
  have HA := Lib.hid hA
  have HP := Lib.hid hp
  have HYES : Hid (∀ (k : Nat) (x : Tm), l[k]? = some x → p x = true → l.any p = true) := Lib.hid fun k x hk hx => List.any_eq_true.2 ⟨x, List.mem_of_getElem? hk, hx⟩
  have HNO : Hid ((∀ (i : Nat) (y : Tm), i < l.length → l[i]? = some y → p y = false) → l.any p = false) := Lib.hid fun h => List.any_eq_false.2 fun x hx => by
    obtain ⟨i, hi⟩ := List.getElem?_of_mem hx
    rw [h i x (List.getElem?_eq_some_iff.1 hi).1 hi]; simp
  unfold IdxP
  generalize l.any p = r at HYES HNO ⊢
  clear hA hp
  go_enter Try.func131, Try.ntmps131
  go_wp2
  go_loopw [8] (fun iv wr => ∃ k : Nat, k ≤ l.length ∧ iv = .int .i64 k ∧ Hid (∀ (i : Nat) (y : Tm), i < k → l[i]? = some y → p y = false) ∧ Hid (Below w.heap.size w wr)) (fun iv _ => l.length - (intOf iv).toNat)
  case atStart => exact ⟨0, Nat.zero_le _, rfl, Lib.hid (fun i y hi => absurd hi (Nat.not_lt_zero _)), Lib.hid (Below.refl _ _)⟩
  case round =>
    obtain ⟨k, hk, rfl, HN, HB⟩ := hrel
    by_cases hlt : k < l.length
    · have hltI : (k : Int) < (l.length : Int) := by omega
      obtain ⟨x, hx⟩ : ∃ x, l[k]? = some x := ⟨_, List.getElem?_eq_getElem hlt⟩
      obtain ⟨g, off, u1, u2, rfl, hg, hq, hc, hu⟩ := HA.out.elem hx
      obtain ⟨d0, d1, d2, d3⟩ := hc wr HB.out
      have HC := Lib.hid (HP.out k x hx (.slice u1 x.args.length u2) wr HB.out (hu.kept HB.out))
      have HX := Lib.hid hx
      clear hc hu hx hq
      go_wp2_with fail
      refine HC.out.mono ?_
      rintro e w2 ⟨rfl, hb⟩
      have HB2 := Lib.hid (belowOn HB.out (Nat.le_refl _) hb)
      clear hb HC d0 d1 d2 d3
      cases hq : p x with
      | true =>
        have HR := Lib.hid (HYES.out k x HX.out hq)
        clear hq
        go_wp2
        go_ret
        exact ⟨.inl ⟨HR.out, k, rfl⟩, HB2.out⟩
      | false =>
        have HQ := Lib.hid hq
        clear hq
        go_wp2
        go_roundw
        case rel =>
          refine ⟨k + 1, by omega, by go_num, Lib.hid fun i y hi hy => ?_, HB2⟩
          by_cases e : i = k
          · subst e
            cases hy.symm.trans HX.out
            exact HQ.out
          · exact HN.out i y (by omega) hy
        case measure => simp [intOf]; omega
    · obtain rfl : k = l.length := by omega
      have HR := Lib.hid (HNO.out HN.out)
      go_wp2
      go_ret
      exact ⟨.inr ⟨HR.out, rfl⟩, HB.out⟩

set_option maxHeartbeats 400000 in
theorem containsQ_any (nb : Nat) (p : Tm → Bool) (l : List Tm) (V : Value) (w : World) (hA : ArgsAt w V l) (hL : l.length ≤ 1048576) (hp : PartQ nb p l w) :
    Calls Try.prog 89 #[V, .func (.func 96) #[] #[.pointer (some ⟨nb, 0, none⟩)]] w fun e w' => e = .returned (.bool (l.any p)) ∧ Below w.heap.size w w' := by
  obtain ⟨a, cap, rfl⟩ := hA.slice
  have HC := Lib.hid (indexQ_any nb p l _ w hA hL hp)
  clear hA hp
  unfold IdxP at HC
  generalize l.any p = r at HC ⊢
  go_enter Try.func89, Try.ntmps89
  go_wp2_with fail
  refine HC.out.mono ?_
  rintro e w1 ⟨⟨rfl, k, rfl⟩ | ⟨rfl, rfl⟩, hb⟩
  · have HB := Lib.hid hb
    have hk0 : (0 : Int) ≤ (k : Int) := by omega
    have d : decide ((0 : Int) ≤ (k : Int)) = true := decide_eq_true hk0
    clear hb HC
    go_wp2
    go_ret
    exact ⟨by simp, HB.out⟩
  · have HB := Lib.hid hb
    clear hb HC
    go_wp2
    go_ret
    exact ⟨rfl, HB.out⟩


set_option maxHeartbeats 400000 in
theorem notPair_any (x : Tm) (U : Value) (w : World) (hA : ArgsAt w U x.args) :
    Calls Try.prog 91 #[.agg #[.int .i64 x.kind, .int .i64 x.num, .string x.name, U]] w fun e w' => e = .returned (.bool (!decide (x.kind = 4))) ∧ Below w.heap.size w w' := by
  obtain ⟨aa, ca, rfl⟩ := hA.slice
  have HB := Lib.hid (belowAlloc (Below.refl w.heap.size w) (.cells #[.int .i64 x.kind, .int .i64 x.num, .string x.name, .slice aa x.args.length ca] 25))
  have HC := Lib.hid (isPair_any x.kind x.num x.name (.slice aa x.args.length ca) (w.alloc (.cells #[.int .i64 x.kind, .int .i64 x.num, .string x.name, .slice aa x.args.length ca] 25)))
  generalize decide (x.kind = 4) = r at HC ⊢
  clear hA
  go_enter Try.func91, Try.ntmps91
  go_wp2_with fail
  refine HC.out.mono ?_
  rintro e w1 ⟨rfl, hb⟩
  have HB2 := Lib.hid (belowOn HB.out (Nat.le_refl _) hb)
  clear hb HC
  go_wp2
  go_ret
  exact ⟨rfl, HB2.out⟩
set_option maxRecDepth 100000 in
set_option maxHeartbeats 1000000 in
theorem notFirst_any (nb : Nat) (f : Tm) (FV : Value) (x : Tm) (U : Value) (w : World) (hA : ArgsAt w U x.args) (hF : ArgsAt w FV f.args) (hb : w.heap[nb]? = some (.cells #[.int .i64 f.kind, .int .i64 f.num, .string f.name, FV] 25)) (hx : Good x) (hf : Good f) (hZx : x.sz ≤ 1048576) (hZf : f.sz ≤ 1048576) :
    Calls Try.prog 96 #[.agg #[.int .i64 x.kind, .int .i64 x.num, .string x.name, U], .pointer (some ⟨nb, 0, none⟩)] w fun e w' => e = .returned (.bool (x.cmp f != 0)) ∧ Below w.heap.size w w' := by
  obtain ⟨aa, ca, rfl⟩ := hA.slice
  obtain ⟨ab, cb, rfl⟩ := hF.slice
  have hB := belowAlloc (Below.refl w.heap.size w) (.cells #[.int .i64 x.kind, .int .i64 x.num, .string x.name, .slice aa x.args.length ca] 25)
  have HN := Lib.hid ((hB.block _ (Array.getElem?_eq_some_iff.1 hb).1).trans hb)
  have HC := Lib.hid (compare_any (x.nodes + 1) x f _ _ _ (Nat.lt_succ_self _) (hA.kept hB) (hF.kept hB) hZx hZf hx hf)
  have HB := Lib.hid hB
  have HXB := Lib.hid (heap_new w (.cells #[.int .i64 x.kind, .int .i64 x.num, .string x.name, .slice aa x.args.length ca] 25))
  clear hA hF hb hB hx hf hZx hZf
  go_enter Try.func96, Try.ntmps96
  go_upto_region 1 with (fail)
  generalize hw0 : w.alloc (.cells #[.int .i64 x.kind, .int .i64 x.num, .string x.name, .slice aa x.args.length ca] 25) = w0 at HN HC HB HXB ⊢
  clear hw0
  obtain ⟨c0, c1, c2, c3, _⟩ := box_cells HN.out
  obtain ⟨d0, d1, d2, d3, _⟩ := box_cells HXB.out
  have z0 := (Array.getElem?_eq_some_iff.1 HN.out).1
  have z1 := (Array.getElem?_eq_some_iff.1 HXB.out).1
  go_wp2_with fail
  refine HC.out.mono ?_
  rintro e w1 ⟨rfl, hb⟩
  have HB2 := Lib.hid (belowOn HB.out (Nat.le_refl _) hb)
  clear hb HC c0 c1 c2 c3 d0 d1 d2 d3 z0 z1 HN HXB
  go_wp2
  go_ret
  exact ⟨rfl, HB2.out⟩

/-! ### A row filled in place -/
theorem cells_put {L : List (Tm × Value)} {j : Nat} {p : Tm × Value} (hj : L[j]? = some p) (t : Tm) (u : Value) :
    ((((cellsL L).set (j * 4) (.int .i64 t.kind)).set (j * 4 + 1) (.int .i64 t.num)).set (j * 4 + 2) (.string t.name)).set (j * 4 + 3) u = cellsL (L.set j (t, u)) := by
  have hl : j < L.length := (List.getElem?_eq_some_iff.1 hj).1
  have e0 := cellsL_set hj (i := 0) (by omega) (q := (.mk t.kind p.1.num p.1.name [], p.2)) (u := .int .i64 t.kind) rfl
  have e1 := cellsL_set (L := L.set j (.mk t.kind p.1.num p.1.name [], p.2)) (j := j) (List.getElem?_set_self hl) (i := 1) (by omega) (q := (.mk t.kind t.num p.1.name [], p.2)) (u := .int .i64 t.num) rfl
  have e2 := cellsL_set (L := L.set j (.mk t.kind t.num p.1.name [], p.2)) (j := j) (List.getElem?_set_self hl) (i := 2) (by omega) (q := (.mk t.kind t.num t.name [], p.2)) (u := .string t.name) rfl
  have e3 := cellsL_set (L := L.set j (.mk t.kind t.num t.name [], p.2)) (j := j) (List.getElem?_set_self hl) (i := 3) (by omega) (q := (t, u)) (u := u) rfl
  rw [List.set_set] at e1 e2 e3
  rw [Nat.add_zero] at e0
  rw [e0, e1, e2, e3]
/-- A row of terms that the call owns, their arguments in S. -/
def RowF (S : Nat → Prop) (w : World) (lo g : Nat) (xs : List Tm) : Prop :=
  ∃ L : List (Tm × Value), L.map Prod.fst = xs ∧ w.ownsRow lo 25 4 (.slice (some ⟨g, 0, none⟩) L.length L.length) L.length (cellsL L) ∧ ∀ (j : Nat) (p : Tm × Value), L[j]? = some p → ArgsS w S p.2 p.1.args
theorem RowF.put {S : Nat → Prop} {w : World} {lo g : Nat} {xs : List Tm} (h : RowF S w lo g xs) (hS : ∀ k, S k → ¬ k = g) {j : Nat} (hj : j < xs.length) {t : Tm} {u : Value} (hu : ArgsS w S u t.args) :
    RowF S ((((w.setCell ⟨g, j * 4, none⟩ (.int .i64 t.kind)).setCell ⟨g, j * 4 + 1, none⟩ (.int .i64 t.num)).setCell ⟨g, j * 4 + 2, none⟩ (.string t.name)).setCell ⟨g, j * 4 + 3, none⟩ u) lo g (xs.set j t) ∧
      Only (fun k => k = g) w ((((w.setCell ⟨g, j * 4, none⟩ (.int .i64 t.kind)).setCell ⟨g, j * 4 + 1, none⟩ (.int .i64 t.num)).setCell ⟨g, j * 4 + 2, none⟩ (.string t.name)).setCell ⟨g, j * 4 + 3, none⟩ u) := by
  obtain ⟨L, rfl, hrow, hch⟩ := h
  have hjl : j < L.length := by simpa using hj
  obtain ⟨p, hp⟩ : ∃ p, L[j]? = some p := ⟨_, List.getElem?_eq_getElem hjl⟩
  have one : ∀ (W : World) (i : Nat) (v : Value), Only (fun k => k = g) W (W.setCell ⟨g, i, none⟩ v) := fun W i v => ⟨rfl, rfl, rfl, by simp, fun k _ hk => Below.heap_setCell _ _ _ _ hk⟩
  have ho := (((one w (j * 4) (.int .i64 t.kind)).trans (one _ (j * 4 + 1) (.int .i64 t.num))).trans (one _ (j * 4 + 2) (.string t.name))).trans (one _ (j * 4 + 3) u)
  have r0 := (World.ownsRow.stored hrow (j * 4) (.int .i64 t.kind)).1
  have r1 := (World.ownsRow.stored r0 (j * 4 + 1) (.int .i64 t.num)).1
  have r2 := (World.ownsRow.stored r1 (j * 4 + 2) (.string t.name)).1
  have r3 := (World.ownsRow.stored r2 (j * 4 + 3) u).1
  rw [cells_put hp t u] at r3
  refine ⟨⟨L.set j (t, u), by rw [List.map_set], by rw [List.length_set]; exact r3, fun i q hq => ?_⟩, ho⟩
  have keep : ∀ (U : Value) (l : List Tm), ArgsS w S U l → ArgsS _ S U l := fun U l hU => hU.frame ho.size fun k hk hks => ho.block k hks (hS k hk)
  by_cases e : i = j
  · subst e
    rw [List.getElem?_set_self hjl] at hq
    cases hq
    exact keep _ _ hu
  · rw [List.getElem?_set_ne fun h => e h.symm] at hq
    exact keep _ _ (hch i q hq)
theorem RowF.kept {S : Nat → Prop} {w w' : World} {lo g : Nat} {xs : List Tm} (h : RowF S w lo g xs) (hb : Below w.heap.size w w') : RowF S w' lo g xs := by
  obtain ⟨L, h1, h2, h3⟩ := h
  exact ⟨L, h1, rowE_movedF h2 fun k hk => hb.block k (World.ownsRow.lt h2 k hk).2, fun j p hj => (h3 j p hj).kept hb⟩
theorem RowF.args {S : Nat → Prop} {w : World} {lo g : Nat} {xs : List Tm} (h : RowF S w lo g xs) : ArgsAt w (.slice (some ⟨g, 0, none⟩) xs.length xs.length) xs := by
  obtain ⟨L, rfl, hrow, hch⟩ := h
  have := (argsS_row (S := fun _ => True) hrow (fun _ _ => trivial) fun j p hj => (hch j p hj).sub fun _ _ => trivial).at
  rw [List.length_map]
  exact this
theorem RowF.cells {S : Nat → Prop} {w : World} {lo g : Nat} {xs : List Tm} (h : RowF S w lo g xs) {j : Nat} (hj : j < xs.length) : g < w.heap.size ∧ (∀ i, w.frozen? ⟨g, i, none⟩ = false) ∧ (∃ v, w.cell? ⟨g, j * 4, none⟩ = some v) ∧ (∃ v, w.cell? ⟨g, j * 4 + 1, none⟩ = some v) ∧ (∃ v, w.cell? ⟨g, j * 4 + 2, none⟩ = some v) ∧ ∃ v, w.cell? ⟨g, j * 4 + 3, none⟩ = some v := by
  obtain ⟨L, rfl, hrow, hch⟩ := h
  have hjl : j < L.length := by simpa using hj
  have hlen : (cellsL L).length = L.length * 4 := cellsL_length L
  have at' : ∀ i, i < 4 → ∃ v, w.cell? ⟨g, j * 4 + i, none⟩ = some v := fun i hi => by
    have hlt : j * 4 + i < (cellsL L).length := by omega
    exact ⟨_, by rw [World.ownsRow.cellAt hrow _ (by omega)]; exact List.getElem?_eq_getElem hlt⟩
  exact ⟨(World.ownsRow.lt hrow g rfl).2, fun i => World.ownsRow.frozenAt hrow i, at' 0 (by omega), at' 1 (by omega), at' 2 (by omega), at' 3 (by omega)⟩

set_option maxRecDepth 100000 in
set_option maxHeartbeats 4000000 in
theorem eachHead_any (l : List Tm) (V : Value) (w : World) (hA : ArgsAt w V l) (hP : AllPair l) (hg : ∀ t ∈ l, Good t) (hL : l.length ≤ 1048576) :
    Calls Try.prog 74 #[V, .func (.func 93) #[] #[]] w fun e w' => ∃ u, e = .returned u ∧ ArgsAt w' u (l.map headT) ∧ Below w.heap.size w w' := by
  obtain ⟨i0, hi, hz0, hz1, hz2⟩ := info_parts infoTerm
  obtain ⟨aa, ac, rfl⟩ := hA.slice
  have HA := Lib.hid hA.inS
  have HP := Lib.hid (And.intro hP hg)
  clear hA hP hg
  go_enter Try.func74, Try.ntmps74
  go_wp2_with (at_make; refine wpList_make_full _ rfl _ _ 23 rfl 0 25 i0 _ 4 Try.underlying23 hi hz0 hz1 _ _ _ _ l.length rfl rfl rfl rfl (by rw [hz2]; omega) (by unfold maxLen; omega) (Nat.zero_le _) ?_; intro w1 hown hg; have HO1 := Lib.hid hown; have HG1 := Lib.hid hg; clear hown hg)
  have HB1 := Lib.hid (below_of_grown (B := w.heap.size) HG1.out (Nat.le_refl _) (fun k hk => by cases hk))
  have HF1 : Hid (RowF (fun k => k < w.heap.size) w1 0 w.heap.size (List.replicate l.length tm0.1)) := Lib.hid (by
    have h := HO1.out
    rw [zeros_cells] at h
    refine ⟨List.replicate l.length tm0, by rw [List.map_replicate], by rw [List.length_replicate]; exact h, fun j p hj => ?_⟩
    have : p = tm0 := by
      rw [List.getElem?_replicate] at hj
      split at hj
      · simpa using hj.symm
      · cases hj
    subst this
    exact .nil _ _)
  clear HO1 HG1 hi hz0 hz1 hz2
  go_loopw [13] (fun iv wr => ∃ (j : Nat) (xs : List Tm), j ≤ l.length ∧ iv = .int .i64 j ∧ xs.length = l.length ∧ Hid (xs.take j = (l.take j).map headT) ∧ Hid (RowF (fun k => k < w.heap.size) wr 0 w.heap.size xs) ∧ Hid (Below w.heap.size w wr)) (fun iv _ => l.length - (intOf iv).toNat)
  case atStart => exact ⟨0, _, Nat.zero_le _, rfl, by simp, Lib.hid rfl, HF1, HB1⟩
  case round =>
    clear HF1 HB1
    obtain ⟨j, xs, hj, rfl, hxl, HX, HF, HB⟩ := hrel
    have HXL := Lib.hid hxl
    clear hxl
    by_cases hlt : j < l.length
    · have hltI : (j : Int) < (l.length : Int) := by omega
      obtain ⟨x, hx⟩ : ∃ x, l[j]? = some x := ⟨_, List.getElem?_eq_getElem hlt⟩
      obtain ⟨y, z, hxe, hgy, hgz⟩ := good_pair (HP.out.2 x (List.mem_of_getElem? hx)) (HP.out.1 x (List.mem_of_getElem? hx))
      have hyz : x.args = [y, z] := by rw [hxe]; rfl
      obtain ⟨hhy, htz⟩ := head_args hyz
      obtain ⟨g, off, v1, v2, rfl, hgs, _, hc, hu⟩ := HA.out.elem hx
      obtain ⟨d0, d1, d2, d3⟩ := hc wr HB.out
      obtain ⟨ga, offa, y1, y2, z1, z2, rfl, hga, hn2, hcy, hcz, hay, haz⟩ := hu.two hyz
      have hxl2 : x.args.length = 2 := hn2
      rw [hxl2] at d3
      have HCS := Lib.hid hcy
      have HAS := Lib.hid hay
      have HGA := Lib.hid hga
      have HSN := Lib.hid (And.intro (take_snoc hx) (hhy : headT x = y))
      have hgw : g < wr.heap.size := Nat.lt_of_lt_of_le hgs HB.out.size
      clear hc hu hx hxe hgy hgz hyz hhy htz hcy hcz hay haz hn2 hxl2 hga hgs
      go_upto_region 5 with (fail)
      have hal : Below wr.heap.size wr (wr.alloc (.cells #[.int .i64 x.kind, .int .i64 x.num, .string x.name, .slice (some ⟨ga, offa, none⟩) 2 v2] 25)) := belowAlloc (Below.refl _ _) _
      have HXB := Lib.hid (heap_new wr (.cells #[.int .i64 x.kind, .int .i64 x.num, .string x.name, .slice (some ⟨ga, offa, none⟩) 2 v2] 25))
      have HF5 := Lib.hid (HF.out.kept hal)
      have HB5 := Lib.hid (belowOn HB.out (Nat.le_refl _) hal)
      clear hal d0 d1 d2 d3 HF HB hgw
      generalize hw5 : wr.alloc (.cells #[.int .i64 x.kind, .int .i64 x.num, .string x.name, .slice (some ⟨ga, offa, none⟩) 2 v2] 25) = w5 at HXB HF5 HB5 ⊢
      clear hw5
      generalize wr.heap.size = nx at HXB ⊢
      obtain ⟨e0, e1, e2, e3, _⟩ := box_cells HXB.out
      have z1' := (Array.getElem?_eq_some_iff.1 HXB.out).1
      obtain ⟨q0, q1, q2, q3⟩ := HCS.out w5 HB5.out
      have HC := Lib.hid (head_any x.kind x.num x.name ga offa 2 v2 _ _ _ _ _ _ w5 (Nat.lt_of_lt_of_le HGA.out HB5.out.size) (by omega) (by omega) q0 q1 q2 q3)
      clear q0 q1 q2 q3
      go_wp2_with fail
      refine HC.out.mono ?_
      rintro e w6 ⟨rfl, hb⟩
      have HF6 := Lib.hid (HF5.out.kept hb)
      have HB6 := Lib.hid (belowOn HB5.out (Nat.le_refl _) hb)
      clear hb HC e0 e1 e2 e3 z1' HXB HF5 HB5
      have hjx : j < xs.length := by have := HXL.out; omega
      obtain ⟨hg6, hf6, ⟨o0, t0⟩, ⟨o1, t1⟩, ⟨o2, t2⟩, ⟨o3, t3⟩⟩ := HF6.out.cells hjx
      have HPUT := Lib.hid (HF6.out.put (fun k hk => by have h : k < w.heap.size := hk; omega) hjx (t := y) (HAS.out.kept HB6.out))
      clear hjx
      go_wp2
      go_roundw
      case rel =>
        have hbl : Below w.heap.size w _ := HB6.out.trans ⟨HPUT.out.2.os, HPUT.out.2.tape, HPUT.out.2.output, by have := HPUT.out.2.size; exact this, fun k hk => HPUT.out.2.block k (by have := HB6.out.size; omega) (by omega)⟩
        refine ⟨j + 1, xs.set j y, by omega, by go_num, by rw [List.length_set]; exact HXL.out, Lib.hid ?_, Lib.hid HPUT.out.1, Lib.hid hbl⟩
        have hjl : j < (xs.set j y).length := by rw [List.length_set]; have := HXL.out; omega
        rw [take_snocF (List.getElem?_set_self (by have := HXL.out; omega)), HSN.out.1, List.map_append, List.take_set_of_le (Nat.le_refl _), HX.out, List.map_cons, List.map_nil, HSN.out.2]
      case measure => simp [intOf]; omega
    · obtain rfl : j = l.length := by omega
      have HE : Hid (xs = l.map headT) := Lib.hid (by
        have h := HX.out
        rw [List.take_length, List.take_of_length_le (by have := HXL.out; omega)] at h
        exact h)
      have HR := Lib.hid HF.out.args
      rw [HE.out, List.length_map] at HR
      go_wp2
      go_ret
      exact ⟨_, rfl, HR.out, HB.out⟩

set_option maxRecDepth 100000 in
set_option maxHeartbeats 4000000 in
theorem eachTail_any (l : List Tm) (V : Value) (w : World) (hA : ArgsAt w V l) (hP : AllPair l) (hg : ∀ t ∈ l, Good t) (hL : l.length ≤ 1048576) :
    Calls Try.prog 74 #[V, .func (.func 95) #[] #[]] w fun e w' => ∃ u, e = .returned u ∧ ArgsAt w' u (l.map tailT) ∧ Below w.heap.size w w' := by
  obtain ⟨i0, hi, hz0, hz1, hz2⟩ := info_parts infoTerm
  obtain ⟨aa, ac, rfl⟩ := hA.slice
  have HA := Lib.hid hA.inS
  have HP := Lib.hid (And.intro hP hg)
  clear hA hP hg
  go_enter Try.func74, Try.ntmps74
  go_wp2_with (at_make; refine wpList_make_full _ rfl _ _ 23 rfl 0 25 i0 _ 4 Try.underlying23 hi hz0 hz1 _ _ _ _ l.length rfl rfl rfl rfl (by rw [hz2]; omega) (by unfold maxLen; omega) (Nat.zero_le _) ?_; intro w1 hown hg; have HO1 := Lib.hid hown; have HG1 := Lib.hid hg; clear hown hg)
  have HB1 := Lib.hid (below_of_grown (B := w.heap.size) HG1.out (Nat.le_refl _) (fun k hk => by cases hk))
  have HF1 : Hid (RowF (fun k => k < w.heap.size) w1 0 w.heap.size (List.replicate l.length tm0.1)) := Lib.hid (by
    have h := HO1.out
    rw [zeros_cells] at h
    refine ⟨List.replicate l.length tm0, by rw [List.map_replicate], by rw [List.length_replicate]; exact h, fun j p hj => ?_⟩
    have : p = tm0 := by
      rw [List.getElem?_replicate] at hj
      split at hj
      · simpa using hj.symm
      · cases hj
    subst this
    exact .nil _ _)
  clear HO1 HG1 hi hz0 hz1 hz2
  go_loopw [13] (fun iv wr => ∃ (j : Nat) (xs : List Tm), j ≤ l.length ∧ iv = .int .i64 j ∧ xs.length = l.length ∧ Hid (xs.take j = (l.take j).map tailT) ∧ Hid (RowF (fun k => k < w.heap.size) wr 0 w.heap.size xs) ∧ Hid (Below w.heap.size w wr)) (fun iv _ => l.length - (intOf iv).toNat)
  case atStart => exact ⟨0, _, Nat.zero_le _, rfl, by simp, Lib.hid rfl, HF1, HB1⟩
  case round =>
    clear HF1 HB1
    obtain ⟨j, xs, hj, rfl, hxl, HX, HF, HB⟩ := hrel
    have HXL := Lib.hid hxl
    clear hxl
    by_cases hlt : j < l.length
    · have hltI : (j : Int) < (l.length : Int) := by omega
      obtain ⟨x, hx⟩ : ∃ x, l[j]? = some x := ⟨_, List.getElem?_eq_getElem hlt⟩
      obtain ⟨y, z, hxe, hgy, hgz⟩ := good_pair (HP.out.2 x (List.mem_of_getElem? hx)) (HP.out.1 x (List.mem_of_getElem? hx))
      have hyz : x.args = [y, z] := by rw [hxe]; rfl
      obtain ⟨hhy, htz⟩ := head_args hyz
      obtain ⟨g, off, v1, v2, rfl, hgs, _, hc, hu⟩ := HA.out.elem hx
      obtain ⟨d0, d1, d2, d3⟩ := hc wr HB.out
      obtain ⟨ga, offa, y1, y2, z1, z2, rfl, hga, hn2, hcy, hcz, hay, haz⟩ := hu.two hyz
      have hxl2 : x.args.length = 2 := hn2
      rw [hxl2] at d3
      have HCS := Lib.hid hcz
      have HAS := Lib.hid haz
      have HGA := Lib.hid hga
      have HSN := Lib.hid (And.intro (take_snoc hx) (htz : tailT x = z))
      have hgw : g < wr.heap.size := Nat.lt_of_lt_of_le hgs HB.out.size
      clear hc hu hx hxe hgy hgz hyz hhy htz hcy hcz hay haz hn2 hxl2 hga hgs
      go_upto_region 5 with (fail)
      have hal : Below wr.heap.size wr (wr.alloc (.cells #[.int .i64 x.kind, .int .i64 x.num, .string x.name, .slice (some ⟨ga, offa, none⟩) 2 v2] 25)) := belowAlloc (Below.refl _ _) _
      have HXB := Lib.hid (heap_new wr (.cells #[.int .i64 x.kind, .int .i64 x.num, .string x.name, .slice (some ⟨ga, offa, none⟩) 2 v2] 25))
      have HF5 := Lib.hid (HF.out.kept hal)
      have HB5 := Lib.hid (belowOn HB.out (Nat.le_refl _) hal)
      clear hal d0 d1 d2 d3 HF HB hgw
      generalize hw5 : wr.alloc (.cells #[.int .i64 x.kind, .int .i64 x.num, .string x.name, .slice (some ⟨ga, offa, none⟩) 2 v2] 25) = w5 at HXB HF5 HB5 ⊢
      clear hw5
      generalize wr.heap.size = nx at HXB ⊢
      obtain ⟨e0, e1, e2, e3, _⟩ := box_cells HXB.out
      have z1' := (Array.getElem?_eq_some_iff.1 HXB.out).1
      obtain ⟨q0, q1, q2, q3⟩ := HCS.out w5 HB5.out
      have HC := Lib.hid (tail_any x.kind x.num x.name ga offa 2 v2 _ _ _ _ _ _ w5 (Nat.lt_of_lt_of_le HGA.out HB5.out.size) (by omega) (by omega) q0 q1 q2 q3)
      clear q0 q1 q2 q3
      go_wp2_with fail
      refine HC.out.mono ?_
      rintro e w6 ⟨rfl, hb⟩
      have HF6 := Lib.hid (HF5.out.kept hb)
      have HB6 := Lib.hid (belowOn HB5.out (Nat.le_refl _) hb)
      clear hb HC e0 e1 e2 e3 z1' HXB HF5 HB5
      have hjx : j < xs.length := by have := HXL.out; omega
      obtain ⟨hg6, hf6, ⟨o0, t0⟩, ⟨o1, t1⟩, ⟨o2, t2⟩, ⟨o3, t3⟩⟩ := HF6.out.cells hjx
      have HPUT := Lib.hid (HF6.out.put (fun k hk => by have h : k < w.heap.size := hk; omega) hjx (t := z) (HAS.out.kept HB6.out))
      clear hjx
      go_wp2
      go_roundw
      case rel =>
        have hbl : Below w.heap.size w _ := HB6.out.trans ⟨HPUT.out.2.os, HPUT.out.2.tape, HPUT.out.2.output, by have := HPUT.out.2.size; exact this, fun k hk => HPUT.out.2.block k (by have := HB6.out.size; omega) (by omega)⟩
        refine ⟨j + 1, xs.set j z, by omega, by go_num, by rw [List.length_set]; exact HXL.out, Lib.hid ?_, Lib.hid HPUT.out.1, Lib.hid hbl⟩
        have hjl : j < (xs.set j z).length := by rw [List.length_set]; have := HXL.out; omega
        rw [take_snocF (List.getElem?_set_self (by have := HXL.out; omega)), HSN.out.1, List.map_append, List.take_set_of_le (Nat.le_refl _), HX.out, List.map_cons, List.map_nil, HSN.out.2]
      case measure => simp [intOf]; omega
    · obtain rfl : j = l.length := by omega
      have HE : Hid (xs = l.map tailT) := Lib.hid (by
        have h := HX.out
        rw [List.take_length, List.take_of_length_le (by have := HXL.out; omega)] at h
        exact h)
      have HR := Lib.hid HF.out.args
      rw [HE.out, List.length_map] at HR
      go_wp2
      go_ret
      exact ⟨_, rfl, HR.out, HB.out⟩
end Go.Proofs.Ytoihimdfmncdoaa

