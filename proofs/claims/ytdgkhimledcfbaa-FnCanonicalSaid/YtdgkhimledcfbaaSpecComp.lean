/-
  The model's l04Insert. (Written by wip/tools/gen_insertb.py.)
  The model's ComposeSubst.
  The model's l02Same, MoreGeneral.
-/
import Derived.Test.YtdgkhimledcfbaaSubstT
import Derived.Laws.AppendOwnNone
import Derived.Deep.RegionHeld3
import Derived.IntWalk
namespace Go.Proofs.Ytdgkhimledcfbaa
open Go.RowKit
set_option linter.unusedVariables false
set_option linter.unusedSimpArgs false

/-! ### A row of the call's own whose elements hold what lies below it -/
def RowB {α : Type} (E : El α) (e : TypeId) (w : World) (lo : Nat) (v : Value) (xs : List α) : Prop :=
  ∃ L : List (α × Value), xs = L.map Prod.fst ∧ w.ownsRow lo e E.n v L.length (cellsE E L) ∧ ∀ (j : Nat) (p : α × Value), L[j]? = some p → E.kid w (fun b => b < lo) p.2 p.1
theorem RowB.kept {α : Type} {E : El α} {e : TypeId} {w w' : World} {lo : Nat} {v : Value} {xs : List α} (h : RowB E e w lo v xs) (hb : Below w.heap.size w w') : RowB E e w' lo v xs := by
  obtain ⟨L, hL, hrow, hch⟩ := h
  exact ⟨L, hL, rowE_moved hrow fun k hk => hb.block k (World.ownsRow.lt hrow k hk).2, fun j p hj => E.kidFrame (hch j p hj) hb.size fun k _ hk => hb.block k hk⟩
theorem RowB.rowK {α : Type} {E : El α} {e : TypeId} {w : World} {lo lo' : Nat} {v : Value} {xs : List α} (h : RowB E e w lo' v xs) (hl : lo ≤ lo') (hs : lo' ≤ w.heap.size) : RowK E e w lo v xs := by
  obtain ⟨L, hL, hrow, hch⟩ := h
  refine ⟨L, hL, ?_, fun j p hj => ⟨_, hch j p hj, fun b hb => ⟨Nat.lt_of_lt_of_le hb hs, fun e => by have := (World.ownsRow.lt hrow b e).1; omega⟩⟩⟩
  refine ⟨hrow.1, ?_⟩
  rcases hrow.2 with hn | ⟨g', cap', cur, he, h1, h2⟩
  · exact .inl hn
  · exact .inr ⟨g', cap', cur, he, Nat.le_trans hl h1, h2⟩
theorem RowB.some {α : Type} {E : El α} {e : TypeId} {w : World} {lo : Nat} {v : Value} {xs : List α} (h : RowB E e w lo v xs) (hp : 0 < xs.length) : ∃ g cap, v = .slice (some ⟨g, 0, none⟩) xs.length cap := by
  obtain ⟨L, rfl, hrow, hch⟩ := h
  rw [List.length_map] at hp ⊢
  rcases hrow.2 with ⟨_, hn⟩ | ⟨g', cap', cur, he, h1, h2⟩
  · omega
  · exact ⟨g', cap', he⟩
theorem rowB_start {α : Type} {E : El α} {e : TypeId} {w : World} {lo : Nat} (hl : lo ≤ w.heap.size) : RowB E e (w.alloc (.cells #[] e)) lo (.slice (some ⟨w.heap.size, 0, none⟩) 0 0) [] :=
  ⟨[], rfl, ⟨by simp [cellsE], .inr ⟨w.heap.size, 0, #[], rfl, hl, heap_new w _, Nat.le_refl _, Nat.zero_le _, by simp, by simp [cellsE]⟩⟩, fun j p hj => by simp at hj⟩
/-- 'append(v, t...)' on such a row: t nil, empty or structs that can be read. -/
theorem append_rowB {P : Program} {W : World} {ops : Array Oper} {rest : List Oper} {o : Oper} {a : Act} {Q : Exit → Act → World → Prop} (hgd : o.guard = none) (s x : Operand) (t : TypeId)
    (ho : o.op = .call { callee := .builtin .append, args := #[s, x], argTypes := #[t, t] }) {α : Type} (E : El α)
    (lo : Nat) (e : TypeId) (i : TypeInfo) (z : Value) (bytes : Nat) (ht : P.underlying t = some (.slice e)) (hi : P.info? e = some i) (hz : i.zero = some z)
    (hsize : i.size = E.n) (hby : i.bytes = bytes) (hzs : z.cells.size = E.n) (hb128 : bytes ≤ 128)
    (v : Value) (xs : List α) (hs : a.eval s = v) (hown : RowB E e W lo v xs) (A : Option Addr) (m c : Nat) (hx : a.eval x = .slice A m c) (M : List (α × Value)) (hl : M.length = m)
    (hA : A = none → m = 0 ∧ c = 0) (hc : ∀ ad, A = some ad → ∀ j u, (cellsE E M)[j]? = some u → W.cell? (ad.add j) = some u) (h1 : ∀ u ∈ cellsE E M, u.oneCell' = true)
    (hk : ∀ (j : Nat) (p : α × Value), M[j]? = some p → E.kid W (fun b => b < lo) p.2 p.1) (hn : xs.length + m ≤ 1073741824) (hbase : lo ≤ W.heap.size)
    (h : ∀ v' w', RowB E e w' lo v' (xs ++ M.map Prod.fst) → Below lo W w' → wpList P ops Q rest (a.put o.dst v') w') : wpList P ops Q (o :: rest) a W := by
  obtain ⟨L, hL, hrow, hch⟩ := hown
  have hxl : xs.length = L.length := by rw [hL, List.length_map]
  cases A with
  | none =>
    obtain ⟨rfl, rfl⟩ := hA rfl
    have hM : M = [] := List.length_eq_zero_iff.1 hl
    subst hM
    refine wpList_append_own_none hgd s x t ho lo e i E.n ht hi v L.length _ hs hrow hx ?_
    exact h v W (by rw [List.map_nil, List.append_nil]; exact ⟨L, hL, hrow, hch⟩) (Below.refl _ _)
  | some ad =>
    refine wpList_append_own W hgd s x t ho lo e i z E.n bytes ht hi hz hsize hby hzs E.pos v L.length _ hs hrow ad m c (cellsE E M) hx (by rw [cellsE_length, hl]) (hc ad rfl) h1 (by unfold maxLen; omega) ?_ hbase ?_
    · have : (L.length + m) * bytes ≤ (L.length + m) * 128 := Nat.mul_le_mul_left _ hb128
      omega
    · intro v' w' hown' hg _
      have hB : Below lo W w' := below_of_grown hg hbase (fun k hk => (World.ownsRow.lt hrow k hk).1)
      refine h v' w' ⟨L ++ M, by rw [hL, List.map_append], by rw [List.length_append, hl, cellsE_append]; exact hown', fun j p hj => ?_⟩ hB
      have hW : E.kid W (fun b => b < lo) p.2 p.1 := by
        by_cases hjl : j < L.length
        · rw [List.getElem?_append_left hjl] at hj
          exact hch j p hj
        · rw [List.getElem?_append_right (by omega)] at hj
          exact hk _ p hj
      exact E.kidFrame hW hB.size fun k hk _ => hB.block k hk

/-! ### Where a binding goes -/
def scanB (s : List Bd) (v : Int) : Nat → Nat
  | 0 => 0
  | k + 1 => if v < ((s[k]?).map Bd.v).getD 0 then scanB s v k else k + 1
theorem scanB_le (s : List Bd) (v : Int) : ∀ k, scanB s v k ≤ k
  | 0 => Nat.le_refl _
  | k + 1 => by
    rw [scanB]
    split
    · have := scanB_le s v k; omega
    · exact Nat.le_refl _
def insB (s : List Bd) (b : Bd) : List Bd := s.take (scanB s b.v s.length) ++ b :: s.drop (scanB s b.v s.length)
theorem insB_length (s : List Bd) (b : Bd) : (insB s b).length = s.length + 1 := by
  have := scanB_le s b.v s.length
  unfold insB
  rw [List.length_append, List.length_cons, List.length_take, List.length_drop]
  omega
theorem bd_one {L : List (Bd × Value)} (h : ∀ (j : Nat) (p : Bd × Value), L[j]? = some p → p.2.oneCell' = true) : ∀ u ∈ cellsE bdE L, u.oneCell' = true := by
  intro u hu
  obtain ⟨p, hp, hu⟩ := List.mem_flatMap.1 hu
  obtain ⟨j, hj⟩ := List.getElem?_of_mem hp
  have h2 := h j p hj
  simp only [bdE, List.mem_cons, List.not_mem_nil, or_false] at hu
  rcases hu with rfl | rfl | rfl | rfl | rfl
  · rfl
  · rfl
  · rfl
  · rfl
  · exact h2
theorem add_at5 {g off i : Nat} : (⟨g, off, none⟩ : Addr).add i = ⟨g, off + i, none⟩ := by unfold Addr.add; split <;> simp_all
theorem argsS_one {w : World} {S : Nat → Prop} {v : Value} {l : List Tm} (h : ArgsS w S v l) : v.oneCell' = true := by
  obtain ⟨a, c, rfl⟩ := h.at.slice
  rfl

set_option maxRecDepth 100000 in
set_option maxHeartbeats 8000000 in
theorem specInsert_any (s : List Bd) (g cap lo : Nat) (b : Bd) (V : Value) (S : Nat → Prop) (w : World) (h : RowK bdE 40 w lo (.slice (some ⟨g, 0, none⟩) s.length cap) s) (hb : ArgsS w S V b.t.args) (hl : s.length ≤ 1048576) :
    Calls Try.prog 123 #[.slice (some ⟨g, 0, none⟩) s.length cap, .agg #[.int .i64 b.v, .int .i64 b.t.kind, .int .i64 b.t.num, .string b.t.name, V]] w fun e w' => ∃ v, e = .returned v ∧ RowB bdE 40 w' (w.heap.size + 1) v (insB s b) ∧ Below w.heap.size w w' := by
  obtain ⟨i0, hi, hz0, hz1, hz2⟩ := info_parts infoBinding
  have HII := Lib.hid (And.intro hi (And.intro hz0 (And.intro hz1 hz2)))
  obtain ⟨ba, bc, rfl⟩ := hb.at.slice
  obtain ⟨L, hL, hrow, hch⟩ := h
  have hLn : s.length = L.length := by have := congrArg List.length hL; rwa [List.length_map] at this
  have hcp : s.length ≤ cap ∧ cap ≤ 9223372036854775807 := by
    rcases hrow.2 with ⟨h, _⟩ | ⟨g', cap', cur, he, _, _, h1, h2, _⟩
    · cases h
    · simp only [Value.slice.injEq] at he
      obtain ⟨_, _, rfl⟩ := he
      unfold maxLen at h2
      exact ⟨by omega, h2⟩
  obtain ⟨hcap, hcm⟩ := hcp
  have hgl : g < w.heap.size := (World.ownsRow.lt hrow g rfl).2
  have hrow' : w.ownsRow lo 40 5 (.slice (some ⟨g, 0, none⟩) s.length cap) s.length (cellsE bdE L) := by have := hrow; rw [← hLn] at this; exact this
  have HCELL : Hid (∀ W, Below w.heap.size w W → ∀ (j : Nat) (u : Value), (cellsE bdE L)[j]? = some u → W.cell? ⟨g, j, none⟩ = some u) := Lib.hid fun W hW j u hj => by
    have hjl := (List.getElem?_eq_some_iff.1 hj).1
    rw [cellsE_length, ← hLn] at hjl
    refine (hW.cell (p := ⟨g, j, none⟩) hgl).trans ?_
    rw [World.ownsRow.cellAt hrow' j hjl]
    exact hj
  have HKID : Hid (∀ (j : Nat) (p : Bd × Value), L[j]? = some p → ArgsS w (fun k => k < w.heap.size) p.2 p.1.t.args) := Lib.hid fun j p hj => by
    obtain ⟨C, c1, c2⟩ := hch j p hj
    exact (show ArgsS w C p.2 p.1.t.args from c1).low.sub fun k hk => hk.2
  have HSL := Lib.hid hL
  have HLN := Lib.hid hLn
  have HBK := Lib.hid (hb.low.sub (S' := fun k => k < w.heap.size) fun k hk => hk.2)
  have HINS : Hid (∀ K, scanB s b.v s.length = K → insB s b = (L.take K).map Prod.fst ++ b :: (L.drop K).map Prod.fst) := Lib.hid fun K hK => by
    unfold insB
    rw [hK, List.map_take, List.map_drop, ← hL]
  have HSC0 : Hid (∀ j p, L[j]? = some p → scanB s b.v (j + 1) = if b.v < p.1.v then scanB s b.v j else j + 1) := Lib.hid fun j p hp => by
    rw [scanB, hL, List.getElem?_map, hp]
    rfl
  have hal : Below w.heap.size w (w.alloc (.cells #[.int .i64 b.v, .int .i64 b.t.kind, .int .i64 b.t.num, .string b.t.name, .slice ba b.t.args.length bc] 40)) := belowAlloc (Below.refl _ _) _
  have HBX := Lib.hid (at_box_of w #[.int .i64 b.v, .int .i64 b.t.kind, .int .i64 b.t.num, .string b.t.name, .slice ba b.t.args.length bc] 40 w.heap.size rfl)
  have HW := Lib.hid hal
  generalize insB s b = r at HINS ⊢
  clear hi hz0 hz1 hz2 hrow hrow' hch hL hLn hb hal
  go_enter Try.func123, Try.ntmps123
  go_upto_region 1 with (fail)
  generalize hw1 : w.alloc (.cells #[.int .i64 b.v, .int .i64 b.t.kind, .int .i64 b.t.num, .string b.t.name, .slice ba b.t.args.length bc] 40) = w1 at HBX HW ⊢
  clear hw1
  go_wp2
  go_loopw [5] (fun iv wr => ∃ k : Nat, k ≤ s.length ∧ iv = .int .i64 k ∧ Hid (scanB s b.v s.length = scanB s b.v k) ∧ Hid (Below w1.heap.size w1 wr)) (fun iv _ => (intOf iv).toNat)
  case atStart => exact ⟨s.length, Nat.le_refl _, rfl, Lib.hid rfl, Lib.hid (Below.refl _ _)⟩
  case round =>
    obtain ⟨k, hk, rfl, HSC, HB⟩ := hrel
    have HWR : Hid (Below w.heap.size w wr) := Lib.hid (belowOn HW.out (Nat.le_refl _) HB.out)
    have HBR := Lib.hid (HBX.out.read HB.out)
    obtain ⟨e0, e1, e2, e3, e4, ef⟩ := box_cells5 HBR.out.now
    have hself : Below wr.heap.size wr wr := Below.refl _ _
    have hdrew : Below wr.heap.size wr wr.drew := hself.drew
    have HEND : Hid (∀ W, Below wr.heap.size wr W → Below w1.heap.size w1 W) := Lib.hid fun W hW => belowOn HB.out (Nat.le_refl _) hW
    go_upto_region 2 with (fail)
    by_cases hkz : k = 0
    · have g0 : decide ((0 : Int) < (k : Int)) = false := decide_eq_false (by omega)
      have g0n : decide (0 < k) = false := decide_eq_false (by omega)
      have HKQ : Hid (scanB s b.v s.length = k) := Lib.hid (by rw [HSC.out, hkz, scanB])
      clear hkz e1 e2 e3 e4 ef
      refine wp_region_held_drew (S := (fun w' => Below wr.heap.size wr w' ∧ w'.cell? ⟨w.heap.size, 0, none⟩ = some (.int .i64 b.v))) (by kernel_rfl) (by (try dsimp only); go_keep) (fun hHeld => ?_)
      (refine wpAnyH_take (i := 0) (oi := ⟨_, _, _, _, _, _⟩) (v := ?_) rfl (by kernel_rfl) (by kernel_rfl) (by kernel_rfl) (fun _ _ _ h => h) (Or.inl ⟨by rfl, ?_⟩) (by assumption) ?_; rotate_left; focus ((intro w' hSw; (try dsimp only at hSw); go_simp; (try with_reducible rfl)))); (try simp only [Act.put, List.setIfInBounds_toArray, List.set_cons_zero, List.set_cons_succ])
      (refine wpAnyH_take (i := 1) (oi := ⟨_, _, _, _, _, _⟩) (v := ?_) rfl (by kernel_rfl) (by kernel_rfl) (by kernel_rfl) (fun _ _ _ h => h) (Or.inl ⟨by rfl, ?_⟩) (by assumption) ?_; rotate_left; focus ((intro w' hSw; (try dsimp only at hSw); go_simp; (try with_reducible rfl)))); (try simp only [Act.put, List.setIfInBounds_toArray, List.set_cons_zero, List.set_cons_succ])
      (refine wpAnyH_take (i := 2) (oi := ⟨_, _, _, _, _, _⟩) (v := ?_) rfl (by kernel_rfl) (by kernel_rfl) (by kernel_rfl) (fun _ _ _ h => h) (Or.inl ⟨by rfl, ?_⟩) (by assumption) ?_; rotate_left; focus ((intro w' hSw; (try dsimp only at hSw); go_simp; (try with_reducible rfl)))); (try simp only [Act.put, List.setIfInBounds_toArray, List.set_cons_zero, List.set_cons_succ])
      (refine wpAnyH_take (i := 3) (oi := ⟨_, _, _, _, _, _⟩) (v := undef) rfl (by kernel_rfl) (by kernel_rfl) (by kernel_rfl) (fun _ _ _ h => h) (Or.inr ⟨by rfl, rfl⟩) (by assumption) ?_); (try simp only [Act.put, List.setIfInBounds_toArray, List.set_cons_zero, List.set_cons_succ])
      (refine wpAnyH_take (i := 4) (oi := ⟨_, _, _, _, _, _⟩) (v := undef) rfl (by kernel_rfl) (by kernel_rfl) (by kernel_rfl) (fun _ _ _ h => h) (Or.inr ⟨by rfl, rfl⟩) (by assumption) ?_); (try simp only [Act.put, List.setIfInBounds_toArray, List.set_cons_zero, List.set_cons_succ])
      (refine wpAnyH_take (i := 5) (oi := ⟨_, _, _, _, _, _⟩) (v := undef) rfl (by kernel_rfl) (by kernel_rfl) (by kernel_rfl) (fun _ _ _ h => h) (Or.inr ⟨by rfl, rfl⟩) (by assumption) ?_); (try simp only [Act.put, List.setIfInBounds_toArray, List.set_cons_zero, List.set_cons_succ])
      (refine wpAnyH_take (i := 6) (oi := ⟨_, _, _, _, _, _⟩) (v := undef) rfl (by kernel_rfl) (by kernel_rfl) (by kernel_rfl) (fun _ _ _ h => h) (Or.inr ⟨by rfl, rfl⟩) (by assumption) ?_); (try simp only [Act.put, List.setIfInBounds_toArray, List.set_cons_zero, List.set_cons_succ])
      (refine wpAnyH_take (i := 7) (oi := ⟨_, _, _, _, _, _⟩) (v := undef) rfl (by kernel_rfl) (by kernel_rfl) (by kernel_rfl) (fun _ _ _ h => h) (Or.inr ⟨by rfl, rfl⟩) (by assumption) ?_); (try simp only [Act.put, List.setIfInBounds_toArray, List.set_cons_zero, List.set_cons_succ])
      (refine wpAnyH_take (i := 8) (oi := ⟨_, _, _, _, _, _⟩) (v := undef) rfl (by kernel_rfl) (by kernel_rfl) (by kernel_rfl) (fun _ _ _ h => h) (Or.inr ⟨by rfl, rfl⟩) (by assumption) ?_); (try simp only [Act.put, List.setIfInBounds_toArray, List.set_cons_zero, List.set_cons_succ])
      (refine wpAnyH_take (i := 9) (oi := ⟨_, _, _, _, _, _⟩) (v := undef) rfl (by kernel_rfl) (by kernel_rfl) (by kernel_rfl) (fun _ _ _ h => h) (Or.inr ⟨by rfl, rfl⟩) (by assumption) ?_); (try simp only [Act.put, List.setIfInBounds_toArray, List.set_cons_zero, List.set_cons_succ])
      (refine wpAnyH_take (i := 10) (oi := ⟨_, _, _, _, _, _⟩) (v := undef) rfl (by kernel_rfl) (by kernel_rfl) (by kernel_rfl) (fun _ _ _ h => h) (Or.inr ⟨by rfl, rfl⟩) (by assumption) ?_); (try simp only [Act.put, List.setIfInBounds_toArray, List.set_cons_zero, List.set_cons_succ])
      (refine wpAnyH_take (i := 11) (oi := ⟨_, _, _, _, _, _⟩) (v := undef) rfl (by kernel_rfl) (by kernel_rfl) (by kernel_rfl) (fun _ _ _ h => h) (Or.inr ⟨by rfl, rfl⟩) (by assumption) ?_); (try simp only [Act.put, List.setIfInBounds_toArray, List.set_cons_zero, List.set_cons_succ])
      (refine wpAnyH_take (i := 12) (oi := ⟨_, _, _, _, _, _⟩) (v := ?_) rfl (by kernel_rfl) (by kernel_rfl) (by kernel_rfl) (fun _ _ _ h => h) (Or.inl ⟨by rfl, ?_⟩) (by assumption) ?_; rotate_left; focus ((intro w' hSw; (try dsimp only at hSw); go_simp; (try with_reducible rfl)))); (try simp only [Act.put, List.setIfInBounds_toArray, List.set_cons_zero, List.set_cons_succ])
      refine wpAnyH_done (by kernel_rfl) ?_ _
      have HWQ := Lib.hid HWR.out.drew
      have HBQ := Lib.hid (HBR.out.read hdrew)
      clear g0 g0n hHeld
      clear HSC HB HWR HBR hself hdrew HEND e0 HW HBX
      go_upto_region 4 with (fail)
      generalize wr.drew = wq at HWQ HBQ ⊢
      have HRES := Lib.hid (HINS.out k HKQ.out)
      have HLK : Hid (L.length = s.length) := Lib.hid HLN.out.symm
      have hz1 : w.heap.size + 1 ≤ wq.heap.size := HBQ.out.le
      have HZQ := Lib.hid hz1
      have HRS := Lib.hid (rowB_start (E := bdE) (e := 40) (w := wq) (lo := w.heap.size + 1) hz1)
      have HWA : Hid (Below w.heap.size w (wq.alloc (.cells #[] 40))) := Lib.hid (HWQ.out.alloc (by omega) _)
      have HBA := Lib.hid (HBQ.out.read (belowAlloc (Below.refl _ _) (.cells #[] 40)))
      have HONE : Hid (∀ (M : List (Bd × Value)), (∀ p ∈ M, p ∈ L) → ∀ u ∈ cellsE bdE M, u.oneCell' = true) := Lib.hid fun M hM => bd_one fun j p hj => by
        obtain ⟨i, hi⟩ := List.getElem?_of_mem (hM p (List.mem_of_getElem? hj))
        exact argsS_one (HKID.out i p hi)
      have HKM : Hid (∀ (W : World), Below w.heap.size w W → ∀ (M : List (Bd × Value)), (∀ p ∈ M, p ∈ L) → ∀ (j : Nat) (p : Bd × Value), M[j]? = some p → bdE.kid W (fun b => b < w.heap.size + 1) p.2 p.1) := Lib.hid fun W hW M hM j p hj => by
        obtain ⟨i, hi⟩ := List.getElem?_of_mem (hM p (List.mem_of_getElem? hj))
        exact ((HKID.out i p hi).frame hW.size fun k hk _ => hW.block k hk).sub fun k hk => Nat.lt_succ_of_lt hk
      have HTC : Hid (∀ (W : World), Below w.heap.size w W → ∀ (j : Nat) (u : Value), (cellsE bdE (L.take k))[j]? = some u → W.cell? ((⟨g, 0, none⟩ : Addr).add j) = some u) := Lib.hid fun W hW j u hj => by
        rw [add_at5, Nat.zero_add]
        refine HCELL.out W hW j u ?_
        rw [← List.take_append_drop k L, cellsE_append, List.getElem?_append_left (List.getElem?_eq_some_iff.1 hj).1]
        exact hj
      have HDC : Hid (∀ (W : World), Below w.heap.size w W → ∀ (j : Nat) (u : Value), (cellsE bdE (L.drop k))[j]? = some u → W.cell? ((⟨g, k * 5, none⟩ : Addr).add j) = some u) := Lib.hid fun W hW j u hj => by
        rw [add_at5]
        refine HCELL.out W hW _ u ?_
        have hlk : (cellsE bdE (L.take k)).length = k * 5 := by rw [cellsE_length, List.length_take, show min k L.length = k from by have := HLK.out; omega]; rfl
        rw [← List.take_append_drop k L, cellsE_append, List.getElem?_append_right (by rw [hlk]; omega), hlk, Nat.add_sub_cancel_left]
        exact hj
      have HEND2 : Hid (∀ v W, RowB bdE 40 W (w.heap.size + 1) v ((([] ++ (L.take k).map Prod.fst) ++ [(b, Value.slice ba b.t.args.length bc)].map Prod.fst) ++ (L.drop k).map Prod.fst) → RowB bdE 40 W (w.heap.size + 1) v r) := Lib.hid fun v W h => by
        rw [HRES.out]
        have e : (L.take k).map Prod.fst ++ b :: (L.drop k).map Prod.fst = (([] ++ (L.take k).map Prod.fst) ++ [(b, Value.slice ba b.t.args.length bc)].map Prod.fst) ++ (L.drop k).map Prod.fst := by simp
        rw [e]; exact h
      have hKI : (k : Int) ≤ (s.length : Int) := by omega
      have hKC : (k : Int) ≤ (cap : Int) := by omega
      have hK0 : (0 : Int) ≤ (k : Int) := by omega
      have hcI : (0 : Int) ≤ (cap : Int) := by omega
      clear hz1 HINS HSC0 HRES
      go_upto_region 5 with (at_builtin; refine append_rowB rfl _ _ 28 rfl bdE (w.heap.size + 1) 40 i0 _ 64 Try.underlying28 HII.out.1 HII.out.2.1 HII.out.2.2.1 HII.out.2.2.2 rfl (by omega) _ _ rfl HRS.out (some ⟨g, 0, none⟩) k cap rfl (L.take k) (by have := HLK.out; rw [List.length_take]; omega) (fun h => by cases h) (fun ad h j u hj => by cases h; exact HTC.out _ HWA.out j u hj) (HONE.out _ fun p hp => List.mem_of_mem_take hp) (HKM.out _ HWA.out _ fun p hp => List.mem_of_mem_take hp) (by simp; omega) (by have := HBA.out.le; simp at this ⊢; omega) ?_; intro v21 w21 hown21 hb21; have HO21 := Lib.hid hown21; have HX21 := Lib.hid hb21; clear hown21 hb21)
      have HW21 : Hid (Below w.heap.size w w21) := Lib.hid (HWA.out.trans (HX21.out.mono (Nat.le_succ _)))
      have HB21 := Lib.hid (HBA.out.of_below HX21.out (Nat.le_refl _))
      obtain ⟨q0, q1, q2, q3, q4, qf⟩ := box_cells5 HB21.out.now
      have HR21 := Lib.hid (HO21.out.kept (belowAlloc (Below.refl _ _) (.cells #[.int .i64 b.v, .int .i64 b.t.kind, .int .i64 b.t.num, .string b.t.name, .slice ba b.t.args.length bc] 40)))
      have HWB : Hid (Below w.heap.size w (w21.alloc (.cells #[.int .i64 b.v, .int .i64 b.t.kind, .int .i64 b.t.num, .string b.t.name, .slice ba b.t.args.length bc] 40))) := Lib.hid (HW21.out.alloc HW21.out.size _)
      have HBB := Lib.hid (HB21.out.read (belowAlloc (Below.refl _ _) (.cells #[.int .i64 b.v, .int .i64 b.t.kind, .int .i64 b.t.num, .string b.t.name, .slice ba b.t.args.length bc] 40)))
      have HL21 : Hid (([] ++ (L.take k).map Prod.fst : List Bd).length ≤ 1048576) := Lib.hid (by rw [List.nil_append, List.length_map, List.length_take]; omega)
      clear HRS HX21 HWA HBA HTC
      go_upto_region 6 with (at_builtin; refine append_rowB rfl _ _ 28 rfl bdE (w.heap.size + 1) 40 i0 _ 64 Try.underlying28 HII.out.1 HII.out.2.1 HII.out.2.2.1 HII.out.2.2.2 rfl (by omega) v21 _ rfl HR21.out (some ⟨w21.heap.size, 0, none⟩) 1 1 rfl [(b, Value.slice ba b.t.args.length bc)] rfl (fun h => by cases h) (fun ad h j u hj => by cases h; rw [cellsE_one] at hj; exact World.news_of_block (heap_alloc_new w21 _) j u hj) (bd_one fun j p hj => by (match j, hj with | 0, hj => (simp at hj; subst hj; rfl))) (fun j p hj => by (match j, hj with | 0, hj => (simp at hj; subst hj; exact (HBK.out.frame HWB.out.size fun k hk _ => HWB.out.block k hk).sub fun k hk => Nat.lt_succ_of_lt hk))) (by have := HL21.out; omega) (by have := HBB.out.le; exact this) ?_; intro v22 w22 hown22 hb22; have HO22 := Lib.hid hown22; have HX22 := Lib.hid hb22; clear hown22 hb22)
      have HW22 : Hid (Below w.heap.size w w22) := Lib.hid (HWB.out.trans (HX22.out.mono (Nat.le_succ _)))
      have HB22 := Lib.hid (HBB.out.of_below HX22.out (Nat.le_refl _))
      have HL22 : Hid ((([] ++ (L.take k).map Prod.fst) ++ [(b, Value.slice ba b.t.args.length bc)].map Prod.fst : List Bd).length ≤ 1048577) := Lib.hid (by have := HL21.out; rw [List.length_append]; exact Nat.succ_le_succ this)
      clear HR21 HX22 HWB HBB q0 q1 q2 q3 q4 qf
      by_cases hck : cap = k
      · have hks : k = s.length := by omega
        have HKS := Lib.hid hks
        have HCK := Lib.hid hck
        clear hks
        subst hck
        go_wp2_with (at_builtin; refine append_rowB rfl _ _ 28 rfl bdE (w.heap.size + 1) 40 i0 _ 64 Try.underlying28 HII.out.1 HII.out.2.1 HII.out.2.2.1 HII.out.2.2.2 rfl (by omega) v22 _ rfl HO22.out _ _ _ rfl (L.drop cap) (by have := HLK.out; rw [List.length_drop]; omega) (fun h => by cases h) (fun ad h j u hj => by rw [List.drop_of_length_le (by have h1 := HLK.out; have h2 := HKS.out; omega)] at hj; simp [cellsE] at hj) (HONE.out _ fun p hp => List.mem_of_mem_drop hp) (HKM.out _ HW22.out _ fun p hp => List.mem_of_mem_drop hp) (by have h1 := HL22.out; omega) (by have := HB22.out.le; exact this) ?_; intro v23 w23 hown23 hb23; have HO23 := Lib.hid hown23; have HX23 := Lib.hid hb23; clear hown23 hb23)
        go_wp2
        go_ret
        exact ⟨_, rfl, HEND2.out _ _ HO23.out, HW22.out.trans (HX23.out.mono (Nat.le_succ _))⟩
      · have hck2 : ¬ k = cap := fun e => hck e.symm
        have hck3 : ¬ (k : Int) = (cap : Int) := by omega
        go_wp2_with (at_builtin; refine append_rowB rfl _ _ 28 rfl bdE (w.heap.size + 1) 40 i0 _ 64 Try.underlying28 HII.out.1 HII.out.2.1 HII.out.2.2.1 HII.out.2.2.2 rfl (by omega) v22 _ rfl HO22.out _ _ _ rfl (L.drop k) (by have := HLK.out; rw [List.length_drop]; omega) (fun h => by cases h) (fun ad h j u hj => by cases h; exact HDC.out _ HW22.out j u hj) (HONE.out _ fun p hp => List.mem_of_mem_drop hp) (HKM.out _ HW22.out _ fun p hp => List.mem_of_mem_drop hp) (by have h1 := HL22.out; omega) (by have := HB22.out.le; exact this) ?_; intro v23 w23 hown23 hb23; have HO23 := Lib.hid hown23; have HX23 := Lib.hid hb23; clear hown23 hb23)
        go_wp2
        go_ret
        exact ⟨_, rfl, HEND2.out _ _ HO23.out, HW22.out.trans (HX23.out.mono (Nat.le_succ _))⟩
    · obtain ⟨j, hj⟩ : ∃ j, k = j + 1 := ⟨k - 1, by omega⟩
      have g0 : decide ((0 : Int) < (k : Int)) = true := decide_eq_true (by omega)
      have g0n : decide (0 < k) = true := decide_eq_true (by omega)
      obtain ⟨p, hp⟩ : ∃ p, L[j]? = some p := ⟨_, List.getElem?_eq_getElem (by have := HLN.out; omega)⟩
      have c0 : wr.cell? ⟨g, j * 5, none⟩ = some (.int .i64 p.1.v) := HCELL.out wr HWR.out (j * 5) _ (by have := cellsE_at (E := bdE) hp (i := 0) (v := .int .i64 p.1.v) rfl; exact this)
      have HSJ : Hid (scanB s b.v s.length = if b.v < p.1.v then scanB s b.v j else k) := Lib.hid (by rw [HSC.out, hj, HSC0.out j p hp])
      have m0 : (0 : Int) ≤ (j : Int) := by omega
      have m1 : (j : Int) < (s.length : Int) := by omega
      have m2 : IntKind.i64.wrap ((k : Int) - 1) = (j : Int) := by rw [IntWalk.i64_in _ (by omega)]; omega
      have HKJ := Lib.hid hj
      have hjk : j ≤ s.length := by omega
      clear hkz hp hj e1 e2 e3 e4 ef
      by_cases hd : b.v < p.1.v
      · have g1 : decide (b.v < p.1.v) = true := decide_eq_true hd
        have HSN : Hid (scanB s b.v s.length = scanB s b.v j) := Lib.hid (by rw [HSJ.out, if_pos hd])
        clear hd
        refine wp_region_held_drew (S := (fun w' => Below wr.heap.size wr w' ∧ w'.cell? ⟨w.heap.size, 0, none⟩ = some (.int .i64 b.v) ∧ w'.cell? ⟨g, j * 5, none⟩ = some (.int .i64 p.1.v))) (by kernel_rfl) (by (try dsimp only); go_keep) (fun hHeld => ?_)
        (refine wpAnyH_take (i := 0) (oi := ⟨_, _, _, _, _, _⟩) (v := ?_) rfl (by kernel_rfl) (by kernel_rfl) (by kernel_rfl) (fun _ _ _ h => h) (Or.inl ⟨by rfl, ?_⟩) (by assumption) ?_; rotate_left; focus ((intro w' hSw; (try dsimp only at hSw); go_simp; (try with_reducible rfl)))); (try simp only [Act.put, List.setIfInBounds_toArray, List.set_cons_zero, List.set_cons_succ])
        (refine wpAnyH_take (i := 1) (oi := ⟨_, _, _, _, _, _⟩) (v := ?_) rfl (by kernel_rfl) (by kernel_rfl) (by kernel_rfl) (fun _ _ _ h => h) (Or.inl ⟨by rfl, ?_⟩) (by assumption) ?_; rotate_left; focus ((intro w' hSw; (try dsimp only at hSw); go_simp; (try with_reducible rfl)))); (try simp only [Act.put, List.setIfInBounds_toArray, List.set_cons_zero, List.set_cons_succ])
        (refine wpAnyH_take (i := 2) (oi := ⟨_, _, _, _, _, _⟩) (v := ?_) rfl (by kernel_rfl) (by kernel_rfl) (by kernel_rfl) (fun _ _ _ h => h) (Or.inl ⟨by rfl, ?_⟩) (by assumption) ?_; rotate_left; focus ((intro w' hSw; (try dsimp only at hSw); go_simp; (try with_reducible rfl)))); (try simp only [Act.put, List.setIfInBounds_toArray, List.set_cons_zero, List.set_cons_succ])
        (refine wpAnyH_take (i := 3) (oi := ⟨_, _, _, _, _, _⟩) (v := ?_) rfl (by kernel_rfl) (by kernel_rfl) (by kernel_rfl) (fun _ _ _ h => h) (Or.inl ⟨by rfl, ?_⟩) (by assumption) ?_; rotate_left; focus ((intro w' hSw; (try dsimp only at hSw); go_simp; (try with_reducible rfl)))); (try simp only [Act.put, List.setIfInBounds_toArray, List.set_cons_zero, List.set_cons_succ])
        (refine wpAnyH_take (i := 4) (oi := ⟨_, _, _, _, _, _⟩) (v := ?_) rfl (by kernel_rfl) (by kernel_rfl) (by kernel_rfl) (fun _ _ _ h => h) (Or.inl ⟨by rfl, ?_⟩) (by assumption) ?_; rotate_left; focus ((intro w' hSw; (try dsimp only at hSw); go_simp; (try with_reducible rfl)))); (try simp only [Act.put, List.setIfInBounds_toArray, List.set_cons_zero, List.set_cons_succ])
        (refine wpAnyH_take (i := 5) (oi := ⟨_, _, _, _, _, _⟩) (v := ?_) rfl (by kernel_rfl) (by kernel_rfl) (by kernel_rfl) (fun _ _ _ h => h) (Or.inl ⟨by rfl, ?_⟩) (by assumption) ?_; rotate_left; focus ((intro w' hSw; (try dsimp only at hSw); go_simp; (try with_reducible rfl)))); (try simp only [Act.put, List.setIfInBounds_toArray, List.set_cons_zero, List.set_cons_succ])
        (refine wpAnyH_take (i := 6) (oi := ⟨_, _, _, _, _, _⟩) (v := ?_) rfl (by kernel_rfl) (by kernel_rfl) (by kernel_rfl) (fun _ _ _ h => h) (Or.inl ⟨by rfl, ?_⟩) (by assumption) ?_; rotate_left; focus ((intro w' hSw; (try dsimp only at hSw); go_simp; (try with_reducible rfl)))); (try simp only [Act.put, List.setIfInBounds_toArray, List.set_cons_zero, List.set_cons_succ])
        (refine wpAnyH_take (i := 7) (oi := ⟨_, _, _, _, _, _⟩) (v := ?_) rfl (by kernel_rfl) (by kernel_rfl) (by kernel_rfl) (fun _ _ _ h => h) (Or.inl ⟨by rfl, ?_⟩) (by assumption) ?_; rotate_left; focus ((intro w' hSw; (try dsimp only at hSw); go_simp; (try with_reducible rfl)))); (try simp only [Act.put, List.setIfInBounds_toArray, List.set_cons_zero, List.set_cons_succ])
        (refine wpAnyH_take (i := 8) (oi := ⟨_, _, _, _, _, _⟩) (v := ?_) rfl (by kernel_rfl) (by kernel_rfl) (by kernel_rfl) (fun _ _ _ h => h) (Or.inl ⟨by rfl, ?_⟩) (by assumption) ?_; rotate_left; focus ((intro w' hSw; (try dsimp only at hSw); go_simp; (try with_reducible rfl)))); (try simp only [Act.put, List.setIfInBounds_toArray, List.set_cons_zero, List.set_cons_succ])
        (refine wpAnyH_take (i := 9) (oi := ⟨_, _, _, _, _, _⟩) (v := ?_) rfl (by kernel_rfl) (by kernel_rfl) (by kernel_rfl) (fun _ _ _ h => h) (Or.inl ⟨by rfl, ?_⟩) (by assumption) ?_; rotate_left; focus ((intro w' hSw; (try dsimp only at hSw); go_simp; (try with_reducible rfl)))); (try simp only [Act.put, List.setIfInBounds_toArray, List.set_cons_zero, List.set_cons_succ])
        (refine wpAnyH_take (i := 10) (oi := ⟨_, _, _, _, _, _⟩) (v := ?_) rfl (by kernel_rfl) (by kernel_rfl) (by kernel_rfl) (fun _ _ _ h => h) (Or.inl ⟨by rfl, ?_⟩) (by assumption) ?_; rotate_left; focus ((intro w' hSw; (try dsimp only at hSw); go_simp; (try with_reducible rfl)))); (try simp only [Act.put, List.setIfInBounds_toArray, List.set_cons_zero, List.set_cons_succ])
        (refine wpAnyH_take (i := 11) (oi := ⟨_, _, _, _, _, _⟩) (v := ?_) rfl (by kernel_rfl) (by kernel_rfl) (by kernel_rfl) (fun _ _ _ h => h) (Or.inl ⟨by rfl, ?_⟩) (by assumption) ?_; rotate_left; focus ((intro w' hSw; (try dsimp only at hSw); go_simp; (try with_reducible rfl)))); (try simp only [Act.put, List.setIfInBounds_toArray, List.set_cons_zero, List.set_cons_succ])
        (refine wpAnyH_take (i := 12) (oi := ⟨_, _, _, _, _, _⟩) (v := ?_) rfl (by kernel_rfl) (by kernel_rfl) (by kernel_rfl) (fun _ _ _ h => h) (Or.inl ⟨by rfl, ?_⟩) (by assumption) ?_; rotate_left; focus ((intro w' hSw; (try dsimp only at hSw); go_simp; (try with_reducible rfl)))); (try simp only [Act.put, List.setIfInBounds_toArray, List.set_cons_zero, List.set_cons_succ])
        refine wpAnyH_done (by kernel_rfl) ?_ _
        have HWF := Lib.hid (HEND.out _ hdrew)
        clear g0 g0n g1 m1 m2
        have hkj : (k : Int) = (j : Int) + 1 := by have := HKJ.out; omega
        have HKI := Lib.hid hkj
        clear hkj
        go_wp2
        go_roundw
        case rel => exact ⟨j, hjk, by have := HKI.out; go_num, HSN, HWF⟩
        case measure => have := HKI.out; simp [intOf]; omega
      · have g1 : decide (b.v < p.1.v) = false := decide_eq_false hd
        have HKQ : Hid (scanB s b.v s.length = k) := Lib.hid (by rw [HSJ.out, if_neg hd])
        clear hd
        refine wp_region_held_drew (S := (fun w' => Below wr.heap.size wr w' ∧ w'.cell? ⟨w.heap.size, 0, none⟩ = some (.int .i64 b.v) ∧ w'.cell? ⟨g, j * 5, none⟩ = some (.int .i64 p.1.v))) (by kernel_rfl) (by (try dsimp only); go_keep) (fun hHeld => ?_)
        (refine wpAnyH_take (i := 0) (oi := ⟨_, _, _, _, _, _⟩) (v := ?_) rfl (by kernel_rfl) (by kernel_rfl) (by kernel_rfl) (fun _ _ _ h => h) (Or.inl ⟨by rfl, ?_⟩) (by assumption) ?_; rotate_left; focus ((intro w' hSw; (try dsimp only at hSw); go_simp; (try with_reducible rfl)))); (try simp only [Act.put, List.setIfInBounds_toArray, List.set_cons_zero, List.set_cons_succ])
        (refine wpAnyH_take (i := 1) (oi := ⟨_, _, _, _, _, _⟩) (v := ?_) rfl (by kernel_rfl) (by kernel_rfl) (by kernel_rfl) (fun _ _ _ h => h) (Or.inl ⟨by rfl, ?_⟩) (by assumption) ?_; rotate_left; focus ((intro w' hSw; (try dsimp only at hSw); go_simp; (try with_reducible rfl)))); (try simp only [Act.put, List.setIfInBounds_toArray, List.set_cons_zero, List.set_cons_succ])
        (refine wpAnyH_take (i := 2) (oi := ⟨_, _, _, _, _, _⟩) (v := ?_) rfl (by kernel_rfl) (by kernel_rfl) (by kernel_rfl) (fun _ _ _ h => h) (Or.inl ⟨by rfl, ?_⟩) (by assumption) ?_; rotate_left; focus ((intro w' hSw; (try dsimp only at hSw); go_simp; (try with_reducible rfl)))); (try simp only [Act.put, List.setIfInBounds_toArray, List.set_cons_zero, List.set_cons_succ])
        (refine wpAnyH_take (i := 3) (oi := ⟨_, _, _, _, _, _⟩) (v := ?_) rfl (by kernel_rfl) (by kernel_rfl) (by kernel_rfl) (fun _ _ _ h => h) (Or.inl ⟨by rfl, ?_⟩) (by assumption) ?_; rotate_left; focus ((intro w' hSw; (try dsimp only at hSw); go_simp; (try with_reducible rfl)))); (try simp only [Act.put, List.setIfInBounds_toArray, List.set_cons_zero, List.set_cons_succ])
        (refine wpAnyH_take (i := 4) (oi := ⟨_, _, _, _, _, _⟩) (v := ?_) rfl (by kernel_rfl) (by kernel_rfl) (by kernel_rfl) (fun _ _ _ h => h) (Or.inl ⟨by rfl, ?_⟩) (by assumption) ?_; rotate_left; focus ((intro w' hSw; (try dsimp only at hSw); go_simp; (try with_reducible rfl)))); (try simp only [Act.put, List.setIfInBounds_toArray, List.set_cons_zero, List.set_cons_succ])
        (refine wpAnyH_take (i := 5) (oi := ⟨_, _, _, _, _, _⟩) (v := ?_) rfl (by kernel_rfl) (by kernel_rfl) (by kernel_rfl) (fun _ _ _ h => h) (Or.inl ⟨by rfl, ?_⟩) (by assumption) ?_; rotate_left; focus ((intro w' hSw; (try dsimp only at hSw); go_simp; (try with_reducible rfl)))); (try simp only [Act.put, List.setIfInBounds_toArray, List.set_cons_zero, List.set_cons_succ])
        (refine wpAnyH_take (i := 6) (oi := ⟨_, _, _, _, _, _⟩) (v := ?_) rfl (by kernel_rfl) (by kernel_rfl) (by kernel_rfl) (fun _ _ _ h => h) (Or.inl ⟨by rfl, ?_⟩) (by assumption) ?_; rotate_left; focus ((intro w' hSw; (try dsimp only at hSw); go_simp; (try with_reducible rfl)))); (try simp only [Act.put, List.setIfInBounds_toArray, List.set_cons_zero, List.set_cons_succ])
        (refine wpAnyH_take (i := 7) (oi := ⟨_, _, _, _, _, _⟩) (v := ?_) rfl (by kernel_rfl) (by kernel_rfl) (by kernel_rfl) (fun _ _ _ h => h) (Or.inl ⟨by rfl, ?_⟩) (by assumption) ?_; rotate_left; focus ((intro w' hSw; (try dsimp only at hSw); go_simp; (try with_reducible rfl)))); (try simp only [Act.put, List.setIfInBounds_toArray, List.set_cons_zero, List.set_cons_succ])
        (refine wpAnyH_take (i := 8) (oi := ⟨_, _, _, _, _, _⟩) (v := ?_) rfl (by kernel_rfl) (by kernel_rfl) (by kernel_rfl) (fun _ _ _ h => h) (Or.inl ⟨by rfl, ?_⟩) (by assumption) ?_; rotate_left; focus ((intro w' hSw; (try dsimp only at hSw); go_simp; (try with_reducible rfl)))); (try simp only [Act.put, List.setIfInBounds_toArray, List.set_cons_zero, List.set_cons_succ])
        (refine wpAnyH_take (i := 9) (oi := ⟨_, _, _, _, _, _⟩) (v := ?_) rfl (by kernel_rfl) (by kernel_rfl) (by kernel_rfl) (fun _ _ _ h => h) (Or.inl ⟨by rfl, ?_⟩) (by assumption) ?_; rotate_left; focus ((intro w' hSw; (try dsimp only at hSw); go_simp; (try with_reducible rfl)))); (try simp only [Act.put, List.setIfInBounds_toArray, List.set_cons_zero, List.set_cons_succ])
        (refine wpAnyH_take (i := 10) (oi := ⟨_, _, _, _, _, _⟩) (v := ?_) rfl (by kernel_rfl) (by kernel_rfl) (by kernel_rfl) (fun _ _ _ h => h) (Or.inl ⟨by rfl, ?_⟩) (by assumption) ?_; rotate_left; focus ((intro w' hSw; (try dsimp only at hSw); go_simp; (try with_reducible rfl)))); (try simp only [Act.put, List.setIfInBounds_toArray, List.set_cons_zero, List.set_cons_succ])
        (refine wpAnyH_take (i := 11) (oi := ⟨_, _, _, _, _, _⟩) (v := ?_) rfl (by kernel_rfl) (by kernel_rfl) (by kernel_rfl) (fun _ _ _ h => h) (Or.inl ⟨by rfl, ?_⟩) (by assumption) ?_; rotate_left; focus ((intro w' hSw; (try dsimp only at hSw); go_simp; (try with_reducible rfl)))); (try simp only [Act.put, List.setIfInBounds_toArray, List.set_cons_zero, List.set_cons_succ])
        (refine wpAnyH_take (i := 12) (oi := ⟨_, _, _, _, _, _⟩) (v := ?_) rfl (by kernel_rfl) (by kernel_rfl) (by kernel_rfl) (fun _ _ _ h => h) (Or.inl ⟨by rfl, ?_⟩) (by assumption) ?_; rotate_left; focus ((intro w' hSw; (try dsimp only at hSw); go_simp; (try with_reducible rfl)))); (try simp only [Act.put, List.setIfInBounds_toArray, List.set_cons_zero, List.set_cons_succ])
        refine wpAnyH_done (by kernel_rfl) ?_ _
        have HWQ := Lib.hid HWR.out.drew
        have HBQ := Lib.hid (HBR.out.read hdrew)
        clear g0 g0n g1 m0 m1 m2 c0 hHeld hjk HSJ HKJ
        clear HSC HB HWR HBR hself hdrew HEND e0 HW HBX
        go_upto_region 4 with (fail)
        generalize wr.drew = wq at HWQ HBQ ⊢
        have HRES := Lib.hid (HINS.out k HKQ.out)
        have HLK : Hid (L.length = s.length) := Lib.hid HLN.out.symm
        have hz1 : w.heap.size + 1 ≤ wq.heap.size := HBQ.out.le
        have HZQ := Lib.hid hz1
        have HRS := Lib.hid (rowB_start (E := bdE) (e := 40) (w := wq) (lo := w.heap.size + 1) hz1)
        have HWA : Hid (Below w.heap.size w (wq.alloc (.cells #[] 40))) := Lib.hid (HWQ.out.alloc (by omega) _)
        have HBA := Lib.hid (HBQ.out.read (belowAlloc (Below.refl _ _) (.cells #[] 40)))
        have HONE : Hid (∀ (M : List (Bd × Value)), (∀ p ∈ M, p ∈ L) → ∀ u ∈ cellsE bdE M, u.oneCell' = true) := Lib.hid fun M hM => bd_one fun j p hj => by
          obtain ⟨i, hi⟩ := List.getElem?_of_mem (hM p (List.mem_of_getElem? hj))
          exact argsS_one (HKID.out i p hi)
        have HKM : Hid (∀ (W : World), Below w.heap.size w W → ∀ (M : List (Bd × Value)), (∀ p ∈ M, p ∈ L) → ∀ (j : Nat) (p : Bd × Value), M[j]? = some p → bdE.kid W (fun b => b < w.heap.size + 1) p.2 p.1) := Lib.hid fun W hW M hM j p hj => by
          obtain ⟨i, hi⟩ := List.getElem?_of_mem (hM p (List.mem_of_getElem? hj))
          exact ((HKID.out i p hi).frame hW.size fun k hk _ => hW.block k hk).sub fun k hk => Nat.lt_succ_of_lt hk
        have HTC : Hid (∀ (W : World), Below w.heap.size w W → ∀ (j : Nat) (u : Value), (cellsE bdE (L.take k))[j]? = some u → W.cell? ((⟨g, 0, none⟩ : Addr).add j) = some u) := Lib.hid fun W hW j u hj => by
          rw [add_at5, Nat.zero_add]
          refine HCELL.out W hW j u ?_
          rw [← List.take_append_drop k L, cellsE_append, List.getElem?_append_left (List.getElem?_eq_some_iff.1 hj).1]
          exact hj
        have HDC : Hid (∀ (W : World), Below w.heap.size w W → ∀ (j : Nat) (u : Value), (cellsE bdE (L.drop k))[j]? = some u → W.cell? ((⟨g, k * 5, none⟩ : Addr).add j) = some u) := Lib.hid fun W hW j u hj => by
          rw [add_at5]
          refine HCELL.out W hW _ u ?_
          have hlk : (cellsE bdE (L.take k)).length = k * 5 := by rw [cellsE_length, List.length_take, show min k L.length = k from by have := HLK.out; omega]; rfl
          rw [← List.take_append_drop k L, cellsE_append, List.getElem?_append_right (by rw [hlk]; omega), hlk, Nat.add_sub_cancel_left]
          exact hj
        have HEND2 : Hid (∀ v W, RowB bdE 40 W (w.heap.size + 1) v ((([] ++ (L.take k).map Prod.fst) ++ [(b, Value.slice ba b.t.args.length bc)].map Prod.fst) ++ (L.drop k).map Prod.fst) → RowB bdE 40 W (w.heap.size + 1) v r) := Lib.hid fun v W h => by
          rw [HRES.out]
          have e : (L.take k).map Prod.fst ++ b :: (L.drop k).map Prod.fst = (([] ++ (L.take k).map Prod.fst) ++ [(b, Value.slice ba b.t.args.length bc)].map Prod.fst) ++ (L.drop k).map Prod.fst := by simp
          rw [e]; exact h
        have hKI : (k : Int) ≤ (s.length : Int) := by omega
        have hKC : (k : Int) ≤ (cap : Int) := by omega
        have hK0 : (0 : Int) ≤ (k : Int) := by omega
        have hcI : (0 : Int) ≤ (cap : Int) := by omega
        clear hz1 HINS HSC0 HRES
        go_upto_region 5 with (at_builtin; refine append_rowB rfl _ _ 28 rfl bdE (w.heap.size + 1) 40 i0 _ 64 Try.underlying28 HII.out.1 HII.out.2.1 HII.out.2.2.1 HII.out.2.2.2 rfl (by omega) _ _ rfl HRS.out (some ⟨g, 0, none⟩) k cap rfl (L.take k) (by have := HLK.out; rw [List.length_take]; omega) (fun h => by cases h) (fun ad h j u hj => by cases h; exact HTC.out _ HWA.out j u hj) (HONE.out _ fun p hp => List.mem_of_mem_take hp) (HKM.out _ HWA.out _ fun p hp => List.mem_of_mem_take hp) (by simp; omega) (by have := HBA.out.le; simp at this ⊢; omega) ?_; intro v21 w21 hown21 hb21; have HO21 := Lib.hid hown21; have HX21 := Lib.hid hb21; clear hown21 hb21)
        have HW21 : Hid (Below w.heap.size w w21) := Lib.hid (HWA.out.trans (HX21.out.mono (Nat.le_succ _)))
        have HB21 := Lib.hid (HBA.out.of_below HX21.out (Nat.le_refl _))
        obtain ⟨q0, q1, q2, q3, q4, qf⟩ := box_cells5 HB21.out.now
        have HR21 := Lib.hid (HO21.out.kept (belowAlloc (Below.refl _ _) (.cells #[.int .i64 b.v, .int .i64 b.t.kind, .int .i64 b.t.num, .string b.t.name, .slice ba b.t.args.length bc] 40)))
        have HWB : Hid (Below w.heap.size w (w21.alloc (.cells #[.int .i64 b.v, .int .i64 b.t.kind, .int .i64 b.t.num, .string b.t.name, .slice ba b.t.args.length bc] 40))) := Lib.hid (HW21.out.alloc HW21.out.size _)
        have HBB := Lib.hid (HB21.out.read (belowAlloc (Below.refl _ _) (.cells #[.int .i64 b.v, .int .i64 b.t.kind, .int .i64 b.t.num, .string b.t.name, .slice ba b.t.args.length bc] 40)))
        have HL21 : Hid (([] ++ (L.take k).map Prod.fst : List Bd).length ≤ 1048576) := Lib.hid (by rw [List.nil_append, List.length_map, List.length_take]; omega)
        clear HRS HX21 HWA HBA HTC
        go_upto_region 6 with (at_builtin; refine append_rowB rfl _ _ 28 rfl bdE (w.heap.size + 1) 40 i0 _ 64 Try.underlying28 HII.out.1 HII.out.2.1 HII.out.2.2.1 HII.out.2.2.2 rfl (by omega) v21 _ rfl HR21.out (some ⟨w21.heap.size, 0, none⟩) 1 1 rfl [(b, Value.slice ba b.t.args.length bc)] rfl (fun h => by cases h) (fun ad h j u hj => by cases h; rw [cellsE_one] at hj; exact World.news_of_block (heap_alloc_new w21 _) j u hj) (bd_one fun j p hj => by (match j, hj with | 0, hj => (simp at hj; subst hj; rfl))) (fun j p hj => by (match j, hj with | 0, hj => (simp at hj; subst hj; exact (HBK.out.frame HWB.out.size fun k hk _ => HWB.out.block k hk).sub fun k hk => Nat.lt_succ_of_lt hk))) (by have := HL21.out; omega) (by have := HBB.out.le; exact this) ?_; intro v22 w22 hown22 hb22; have HO22 := Lib.hid hown22; have HX22 := Lib.hid hb22; clear hown22 hb22)
        have HW22 : Hid (Below w.heap.size w w22) := Lib.hid (HWB.out.trans (HX22.out.mono (Nat.le_succ _)))
        have HB22 := Lib.hid (HBB.out.of_below HX22.out (Nat.le_refl _))
        have HL22 : Hid ((([] ++ (L.take k).map Prod.fst) ++ [(b, Value.slice ba b.t.args.length bc)].map Prod.fst : List Bd).length ≤ 1048577) := Lib.hid (by have := HL21.out; rw [List.length_append]; exact Nat.succ_le_succ this)
        clear HR21 HX22 HWB HBB q0 q1 q2 q3 q4 qf
        by_cases hck : cap = k
        · have hks : k = s.length := by omega
          have HKS := Lib.hid hks
          have HCK := Lib.hid hck
          clear hks
          subst hck
          go_wp2_with (at_builtin; refine append_rowB rfl _ _ 28 rfl bdE (w.heap.size + 1) 40 i0 _ 64 Try.underlying28 HII.out.1 HII.out.2.1 HII.out.2.2.1 HII.out.2.2.2 rfl (by omega) v22 _ rfl HO22.out _ _ _ rfl (L.drop cap) (by have := HLK.out; rw [List.length_drop]; omega) (fun h => by cases h) (fun ad h j u hj => by rw [List.drop_of_length_le (by have h1 := HLK.out; have h2 := HKS.out; omega)] at hj; simp [cellsE] at hj) (HONE.out _ fun p hp => List.mem_of_mem_drop hp) (HKM.out _ HW22.out _ fun p hp => List.mem_of_mem_drop hp) (by have h1 := HL22.out; omega) (by have := HB22.out.le; exact this) ?_; intro v23 w23 hown23 hb23; have HO23 := Lib.hid hown23; have HX23 := Lib.hid hb23; clear hown23 hb23)
          go_wp2
          go_ret
          exact ⟨_, rfl, HEND2.out _ _ HO23.out, HW22.out.trans (HX23.out.mono (Nat.le_succ _))⟩
        · have hck2 : ¬ k = cap := fun e => hck e.symm
          have hck3 : ¬ (k : Int) = (cap : Int) := by omega
          go_wp2_with (at_builtin; refine append_rowB rfl _ _ 28 rfl bdE (w.heap.size + 1) 40 i0 _ 64 Try.underlying28 HII.out.1 HII.out.2.1 HII.out.2.2.1 HII.out.2.2.2 rfl (by omega) v22 _ rfl HO22.out _ _ _ rfl (L.drop k) (by have := HLK.out; rw [List.length_drop]; omega) (fun h => by cases h) (fun ad h j u hj => by cases h; exact HDC.out _ HW22.out j u hj) (HONE.out _ fun p hp => List.mem_of_mem_drop hp) (HKM.out _ HW22.out _ fun p hp => List.mem_of_mem_drop hp) (by have h1 := HL22.out; omega) (by have := HB22.out.le; exact this) ?_; intro v23 w23 hown23 hb23; have HO23 := Lib.hid hown23; have HX23 := Lib.hid hb23; clear hown23 hb23)
          go_wp2
          go_ret
          exact ⟨_, rfl, HEND2.out _ _ HO23.out, HW22.out.trans (HX23.out.mono (Nat.le_succ _))⟩
end Go.Proofs.Ytdgkhimledcfbaa

namespace Go.Proofs.Ytdgkhimledcfbaa
open Go.RowKit
set_option linter.unusedVariables false
set_option linter.unusedSimpArgs false

/-- A list, and whether. -/
def OldB2 (l : List Bd) (b : Bool) (w : World) (e : Ending) (w' : World) : Prop := ∃ v, e = .returned (.tuple #[v, .bool b]) ∧ ListS bdE w' Any v l ∧ Below w.heap.size w w'
theorem RowB.size {α : Type} {E : El α} {e : TypeId} {w : World} {lo : Nat} {v : Value} {xs : List α} (h : RowB E e w lo v xs) (hp : 0 < xs.length) : lo < w.heap.size := by
  obtain ⟨L, rfl, hrow, hch⟩ := h
  rw [List.length_map] at hp
  rcases hrow.2 with ⟨_, hn⟩ | ⟨g', cap', cur, rfl, h1, h2⟩
  · omega
  · have := (World.ownsRow.lt hrow g' rfl); omega

/-! ### The composition, plain -/
def mapped (t : List Bd) (b : Bd) : Bd := ⟨b.v, putT t b.t⟩
def selfB (b : Bd) : Bool := decide (b.t.kind = 1 ∧ b.t.num = b.v)
def cmpA (s t : List Bd) : List Bd := (s.map (mapped t)).filter fun b => !selfB b
def rest (s t : List Bd) : List Bd := t.filter fun b => !getB s b.v
def cmpB (s t : List Bd) : List Bd := (rest s t).foldl insB (cmpA s t)
def CompP (s t : List Bd) : Prop := SubstP s ∧ SubstP t ∧ (∀ b ∈ s, (putT t b.t).nodes ≤ 5000) ∧ SubstP (cmpB s t)
open Classical in
noncomputable def coL (s t : List Bd) : List Bd := if CompP s t then cmpB s t else []
open Classical in
noncomputable def coB (s t : List Bd) : Bool := decide (CompP s t)
open Classical in
theorem co_yes {s t : List Bd} (h : CompP s t) : coL s t = cmpB s t ∧ coB s t = true := ⟨by rw [coL, if_pos h], by rw [coB, decide_eq_true h]⟩
open Classical in
theorem co_no {s t : List Bd} (h : ¬ CompP s t) : coL s t = [] ∧ coB s t = false := ⟨by rw [coL, if_neg h], by rw [coB, decide_eq_false h]⟩
theorem insB_mem {s : List Bd} {b x : Bd} : x ∈ insB s b ↔ x = b ∨ x ∈ s := by
  unfold insB
  rw [List.mem_append, List.mem_cons]
  constructor
  · rintro (h | h | h)
    · exact .inr (List.mem_of_mem_take h)
    · exact .inl h
    · exact .inr (List.mem_of_mem_drop h)
  · rintro (h | h)
    · exact .inr (.inl h)
    · rw [← List.take_append_drop (scanB s b.v s.length) s, List.mem_append] at h
      rcases h with h | h
      · exact .inl h
      · exact .inr (.inr h)
theorem foldB_mem {x : Bd} : ∀ (r s : List Bd), x ∈ r.foldl insB s ↔ x ∈ r ∨ x ∈ s
  | [], s => by simp
  | b :: r, s => by
    rw [List.foldl_cons, foldB_mem r, insB_mem, List.mem_cons]
    constructor
    · rintro (h | h | h)
      · exact .inl (.inr h)
      · exact .inl (.inl h)
      · exact .inr h
    · rintro ((h | h) | h)
      · exact .inr (.inl h)
      · exact .inl h
      · exact .inr (.inr h)
theorem foldB_length : ∀ (r s : List Bd), (r.foldl insB s).length = r.length + s.length
  | [], s => by simp
  | b :: r, s => by rw [List.foldl_cons, foldB_length r, insB_length, List.length_cons]; omega
theorem cmpA_yes {s t : List Bd} {k : Nat} {x : Bd} (hx : s[k]? = some x) (h : selfB (mapped t x) = false) : cmpA (s.take (k + 1)) t = cmpA (s.take k) t ++ [mapped t x] := by
  rw [cmpA, takeE hx, List.map_append, List.filter_append]
  simp [cmpA, List.filter_cons, h]
theorem cmpA_not {s t : List Bd} {k : Nat} {x : Bd} (hx : s[k]? = some x) (h : selfB (mapped t x) = true) : cmpA (s.take (k + 1)) t = cmpA (s.take k) t := by
  rw [cmpA, takeE hx, List.map_append, List.filter_append]
  simp [cmpA, List.filter_cons, h]
theorem cmpA_len (s t : List Bd) (k : Nat) : (cmpA (s.take k) t).length ≤ s.length := by
  unfold cmpA
  refine Nat.le_trans (List.length_filter_le _ _) ?_
  rw [List.length_map, List.length_take]; omega
theorem restB_yes {s t : List Bd} {k : Nat} {x : Bd} (hx : t[k]? = some x) (h : getB s x.v = false) (a : List Bd) : (rest s (t.take (k + 1))).foldl insB a = insB ((rest s (t.take k)).foldl insB a) x := by
  have : rest s (t.take (k + 1)) = rest s (t.take k) ++ [x] := by
    rw [rest, takeE hx, List.filter_append]
    simp [rest, List.filter_cons, h]
  rw [this, List.foldl_append]
  rfl
theorem rest_not {s t : List Bd} {k : Nat} {x : Bd} (hx : t[k]? = some x) (h : getB s x.v = true) (a : List Bd) : (rest s (t.take (k + 1))).foldl insB a = (rest s (t.take k)).foldl insB a := by
  have : rest s (t.take (k + 1)) = rest s (t.take k) := by
    rw [rest, takeE hx, List.filter_append]
    simp [rest, List.filter_cons, h]
  rw [this]
theorem rest_len (s t : List Bd) (k : Nat) : (rest s (t.take k)).length ≤ t.length := by
  unfold rest
  refine Nat.le_trans (List.length_filter_le _ _) ?_
  rw [List.length_take]; omega
theorem cmpB_each {s t : List Bd} (hs : SubstP s) (ht : SubstP t) (hf : ∀ b ∈ s, (putT t b.t).nodes ≤ 5000) : EachB (cmpB s t) := by
  have ls := hs.1.2.2
  have lt := ht.1.2.2
  refine ⟨?_, fun b hb => ?_⟩
  · rw [cmpB, foldB_length]
    have h1 := rest_len s t t.length
    have h2 := cmpA_len s t s.length
    rw [List.take_length] at h1 h2
    omega
  · rw [cmpB, foldB_mem] at hb
    rcases hb with hb | hb
    · have hb' := (List.mem_filter.1 hb).1
      have h1 := good_sz (ht.good b hb')
      have h2 := ht.nodes b hb'
      omega
    · obtain ⟨hb, _⟩ := List.mem_filter.1 hb
      obtain ⟨x, hx, rfl⟩ := List.mem_map.1 hb
      have h1 := good_sz (putT_good ht.good x.t.nodes x.t (Nat.le_refl _) (hs.good x hx))
      have h2 := hf x hx
      show (putT t x.t).sz ≤ 1048575
      omega

end Go.Proofs.Ytdgkhimledcfbaa

namespace Go.Proofs.Ytdgkhimledcfbaa
open Go.RowKit
set_option linter.unusedVariables false
set_option linter.unusedSimpArgs false

def varTm (v : Int) : Tm := .mk 1 v ⟨#[]⟩ []
/-- The equation of one binding holds under t. -/
def EqnP (t : List Bd) (b : Bd) : Prop := (putT t (varTm b.v)).nodes ≤ 5000 ∧ (putT t b.t).nodes ≤ 5000 ∧ ((putT t (varTm b.v)).cmp (putT t b.t) == 0) = true
def MoreP (s t : List Bd) : Prop := SubstP s ∧ SubstP t ∧ ∀ b ∈ s, EqnP t b
open Classical in
noncomputable def moreB (s t : List Bd) : Bool := decide (MoreP s t)
open Classical in
theorem more_true {s t : List Bd} : moreB s t = true ↔ MoreP s t := by simp [moreB]
open Classical in
theorem more_false {s t : List Bd} : moreB s t = false ↔ ¬ MoreP s t := by simp [moreB]
theorem varTm_ok {v : Int} (h : 0 ≤ v ∧ v ≤ 100000) : Ok (varTm v) := ⟨by rw [nodes_eq]; show 1 + nodesL [] ≤ 5000; rw [nodesL_nil]; decide, .var v h.1 h.2⟩

end Go.Proofs.Ytdgkhimledcfbaa

