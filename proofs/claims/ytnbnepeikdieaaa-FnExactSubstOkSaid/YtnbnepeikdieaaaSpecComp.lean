/-
  The model's l04Insert. (Written by wip/tools/gen_insertb.py.)
  The model's ComposeSubst.
  The model's l02Same, MoreGeneral.
-/
import Derived.Test.YtnbnepeikdieaaaSubstT
import Derived.Laws.AppendOwnNone
import Derived.Deep.RegionHeld3
import Derived.IntWalk
namespace Go.Proofs.Ytnbnepeikdieaaa
open Go.RowKit
set_option linter.unusedVariables false
set_option linter.unusedSimpArgs false

/-! ### A row of the call's own whose elements hold what lies below it -/
def RowB {α : Type} (E : El α) (e : TypeId) (w : World) (lo : Nat) (v : Value) (xs : List α) : Prop :=
  ∃ L : List (α × Value), xs = L.map Prod.fst ∧ w.ownsRow lo e E.n v L.length (cellsE E L) ∧ ∀ (j : Nat) (p : α × Value), L[j]? = some p → E.kid w (fun b => b < lo) p.2 p.1
theorem RowB.kept {α : Type} {E : El α} {e : TypeId} {w w' : World} {lo : Nat} {v : Value} {xs : List α} (h : RowB E e w lo v xs) (hb : Below w.heap.size w w') : RowB E e w' lo v xs := by
  obtain ⟨L, hL, hrow, hch⟩ := h
  exact ⟨L, hL, rowE_moved hrow fun k hk => hb.block k (World.ownsRow.lt hrow k hk).2, fun j p hj => E.kidFrame (hch j p hj) hb.size fun k _ hk => hb.block k hk⟩
theorem RowB.rowK {α : Type} {E : El α} {e : TypeId} {w : World} {lo lo' : Nat} {v : Value} {xs : List α} (h : RowB E e w lo' v xs) (hl : lo ≤ lo') (hs : lo' ≤ w.heap.size) : RowK E e w lo v xs := by
  obtain ⟨L, hL, hrow, hch⟩ := h
  refine ⟨L, hL, ?_, fun j p hj => ⟨_, hch j p hj, fun b hb => ⟨Nat.lt_of_lt_of_le hb hs, fun e => by have := (World.ownsRow.lt hrow b e).1; omega⟩⟩⟩
  refine ⟨hrow.1, ?_⟩
  rcases hrow.2 with hn | ⟨g', cap', cur, he, h1, h2⟩
  · exact .inl hn
  · exact .inr ⟨g', cap', cur, he, Nat.le_trans hl h1, h2⟩
theorem RowB.some {α : Type} {E : El α} {e : TypeId} {w : World} {lo : Nat} {v : Value} {xs : List α} (h : RowB E e w lo v xs) (hp : 0 < xs.length) : ∃ g cap, v = .slice (some ⟨g, 0, none⟩) xs.length cap := by
  obtain ⟨L, rfl, hrow, hch⟩ := h
  rw [List.length_map] at hp ⊢
  rcases hrow.2 with ⟨_, hn⟩ | ⟨g', cap', cur, he, h1, h2⟩
  · omega
  · exact ⟨g', cap', he⟩
theorem rowB_start {α : Type} {E : El α} {e : TypeId} {w : World} {lo : Nat} (hl : lo ≤ w.heap.size) : RowB E e (w.alloc (.cells #[] e)) lo (.slice (some ⟨w.heap.size, 0, none⟩) 0 0) [] :=
  ⟨[], rfl, ⟨by simp [cellsE], .inr ⟨w.heap.size, 0, #[], rfl, hl, heap_new w _, Nat.le_refl _, Nat.zero_le _, by simp, by simp [cellsE]⟩⟩, fun j p hj => by simp at hj⟩
/-- 'append(v, t...)' on such a row: t nil, empty or structs that can be read. -/
theorem append_rowB {P : Program} {W : World} {ops : Array Oper} {rest : List Oper} {o : Oper} {a : Act} {Q : Exit → Act → World → Prop} (hgd : o.guard = none) (s x : Operand) (t : TypeId)
    (ho : o.op = .call { callee := .builtin .append, args := #[s, x], argTypes := #[t, t] }) {α : Type} (E : El α)
    (lo : Nat) (e : TypeId) (i : TypeInfo) (z : Value) (bytes : Nat) (ht : P.underlying t = some (.slice e)) (hi : P.info? e = some i) (hz : i.zero = some z)
    (hsize : i.size = E.n) (hby : i.bytes = bytes) (hzs : z.cells.size = E.n) (hb128 : bytes ≤ 128)
    (v : Value) (xs : List α) (hs : a.eval s = v) (hown : RowB E e W lo v xs) (A : Option Addr) (m c : Nat) (hx : a.eval x = .slice A m c) (M : List (α × Value)) (hl : M.length = m)
    (hA : A = none → m = 0 ∧ c = 0) (hc : ∀ ad, A = some ad → ∀ j u, (cellsE E M)[j]? = some u → W.cell? (ad.add j) = some u) (h1 : ∀ u ∈ cellsE E M, u.oneCell' = true)
    (hk : ∀ (j : Nat) (p : α × Value), M[j]? = some p → E.kid W (fun b => b < lo) p.2 p.1) (hn : xs.length + m ≤ 1073741824) (hbase : lo ≤ W.heap.size)
    (h : ∀ v' w', RowB E e w' lo v' (xs ++ M.map Prod.fst) → Below lo W w' → wpList P ops Q rest (a.put o.dst v') w') : wpList P ops Q (o :: rest) a W := by
  obtain ⟨L, hL, hrow, hch⟩ := hown
  have hxl : xs.length = L.length := by rw [hL, List.length_map]
  cases A with
  | none =>
    obtain ⟨rfl, rfl⟩ := hA rfl
    have hM : M = [] := List.length_eq_zero_iff.1 hl
    subst hM
    refine wpList_append_own_none hgd s x t ho lo e i E.n ht hi v L.length _ hs hrow hx ?_
    exact h v W (by rw [List.map_nil, List.append_nil]; exact ⟨L, hL, hrow, hch⟩) (Below.refl _ _)
  | some ad =>
    refine wpList_append_own W hgd s x t ho lo e i z E.n bytes ht hi hz hsize hby hzs E.pos v L.length _ hs hrow ad m c (cellsE E M) hx (by rw [cellsE_length, hl]) (hc ad rfl) h1 (by unfold maxLen; omega) ?_ hbase ?_
    · have : (L.length + m) * bytes ≤ (L.length + m) * 128 := Nat.mul_le_mul_left _ hb128
      omega
    · intro v' w' hown' hg _
      have hB : Below lo W w' := below_of_grown hg hbase (fun k hk => (World.ownsRow.lt hrow k hk).1)
      refine h v' w' ⟨L ++ M, by rw [hL, List.map_append], by rw [List.length_append, hl, cellsE_append]; exact hown', fun j p hj => ?_⟩ hB
      have hW : E.kid W (fun b => b < lo) p.2 p.1 := by
        by_cases hjl : j < L.length
        · rw [List.getElem?_append_left hjl] at hj
          exact hch j p hj
        · rw [List.getElem?_append_right (by omega)] at hj
          exact hk _ p hj
      exact E.kidFrame hW hB.size fun k hk _ => hB.block k hk

/-! ### Where a binding goes -/
def scanB (s : List Bd) (v : Int) : Nat → Nat
  | 0 => 0
  | k + 1 => if v < ((s[k]?).map Bd.v).getD 0 then scanB s v k else k + 1
theorem scanB_le (s : List Bd) (v : Int) : ∀ k, scanB s v k ≤ k
  | 0 => Nat.le_refl _
  | k + 1 => by
    rw [scanB]
    split
    · have := scanB_le s v k; omega
    · exact Nat.le_refl _
def insB (s : List Bd) (b : Bd) : List Bd := s.take (scanB s b.v s.length) ++ b :: s.drop (scanB s b.v s.length)
theorem insB_length (s : List Bd) (b : Bd) : (insB s b).length = s.length + 1 := by
  have := scanB_le s b.v s.length
  unfold insB
  rw [List.length_append, List.length_cons, List.length_take, List.length_drop]
  omega
theorem bd_one {L : List (Bd × Value)} (h : ∀ (j : Nat) (p : Bd × Value), L[j]? = some p → p.2.oneCell' = true) : ∀ u ∈ cellsE bdE L, u.oneCell' = true := by
  intro u hu
  obtain ⟨p, hp, hu⟩ := List.mem_flatMap.1 hu
  obtain ⟨j, hj⟩ := List.getElem?_of_mem hp
  have h2 := h j p hj
  simp only [bdE, List.mem_cons, List.not_mem_nil, or_false] at hu
  rcases hu with rfl | rfl | rfl | rfl | rfl
  · rfl
  · rfl
  · rfl
  · rfl
  · exact h2
theorem add_at5 {g off i : Nat} : (⟨g, off, none⟩ : Addr).add i = ⟨g, off + i, none⟩ := by unfold Addr.add; split <;> simp_all
theorem argsS_one {w : World} {S : Nat → Prop} {v : Value} {l : List Tm} (h : ArgsS w S v l) : v.oneCell' = true := by
  obtain ⟨a, c, rfl⟩ := h.at.slice
  rfl

set_option maxRecDepth 100000 in
set_option maxHeartbeats 8000000 in
theorem specInsert_any (s : List Bd) (g cap lo : Nat) (b : Bd) (V : Value) (S : Nat → Prop) (w : World) (h : RowK bdE 60 w lo (.slice (some ⟨g, 0, none⟩) s.length cap) s) (hb : ArgsS w S V b.t.args) (hl : s.length ≤ 1048576) :
    Calls Try.prog 62 #[.slice (some ⟨g, 0, none⟩) s.length cap, .agg #[.int .i64 b.v, .int .i64 b.t.kind, .int .i64 b.t.num, .string b.t.name, V]] w fun e w' => ∃ v, e = .returned v ∧ RowB bdE 60 w' (w.heap.size + 1) v (insB s b) ∧ Below w.heap.size w w' := by
  obtain ⟨i0, hi, hz0, hz1, hz2⟩ := info_parts infoBinding
  have HII := Lib.hid (And.intro hi (And.intro hz0 (And.intro hz1 hz2)))
  obtain ⟨ba, bc, rfl⟩ := hb.at.slice
  obtain ⟨L, hL, hrow, hch⟩ := h
  have hLn : s.length = L.length := by have := congrArg List.length hL; rwa [List.length_map] at this
  have hcp : s.length ≤ cap ∧ cap ≤ 9223372036854775807 := by
    rcases hrow.2 with ⟨h, _⟩ | ⟨g', cap', cur, he, _, _, h1, h2, _⟩
    · cases h
    · simp only [Value.slice.injEq] at he
      obtain ⟨_, _, rfl⟩ := he
      unfold maxLen at h2
      exact ⟨by omega, h2⟩
  obtain ⟨hcap, hcm⟩ := hcp
  have hgl : g < w.heap.size := (World.ownsRow.lt hrow g rfl).2
  have hrow' : w.ownsRow lo 60 5 (.slice (some ⟨g, 0, none⟩) s.length cap) s.length (cellsE bdE L) := by have := hrow; rw [← hLn] at this; exact this
  have HCELL : Hid (∀ W, Below w.heap.size w W → ∀ (j : Nat) (u : Value), (cellsE bdE L)[j]? = some u → W.cell? ⟨g, j, none⟩ = some u) := Lib.hid fun W hW j u hj => by
    have hjl := (List.getElem?_eq_some_iff.1 hj).1
    rw [cellsE_length, ← hLn] at hjl
    refine (hW.cell (p := ⟨g, j, none⟩) hgl).trans ?_
    rw [World.ownsRow.cellAt hrow' j hjl]
    exact hj
  have HKID : Hid (∀ (j : Nat) (p : Bd × Value), L[j]? = some p → ArgsS w (fun k => k < w.heap.size) p.2 p.1.t.args) := Lib.hid fun j p hj => by
    obtain ⟨C, c1, c2⟩ := hch j p hj
    exact (show ArgsS w C p.2 p.1.t.args from c1).low.sub fun k hk => hk.2
  have HSL := Lib.hid hL
  have HLN := Lib.hid hLn
  have HBK := Lib.hid (hb.low.sub (S' := fun k => k < w.heap.size) fun k hk => hk.2)
  have HINS : Hid (∀ K, scanB s b.v s.length = K → insB s b = (L.take K).map Prod.fst ++ b :: (L.drop K).map Prod.fst) := Lib.hid fun K hK => by
    unfold insB
    rw [hK, List.map_take, List.map_drop, ← hL]
  have HSC0 : Hid (∀ j p, L[j]? = some p → scanB s b.v (j + 1) = if b.v < p.1.v then scanB s b.v j else j + 1) := Lib.hid fun j p hp => by
    rw [scanB, hL, List.getElem?_map, hp]
    rfl
  have hal : Below w.heap.size w (w.alloc (.cells #[.int .i64 b.v, .int .i64 b.t.kind, .int .i64 b.t.num, .string b.t.name, .slice ba b.t.args.length bc] 60)) := belowAlloc (Below.refl _ _) _
  have HBX := Lib.hid (at_box_of w #[.int .i64 b.v, .int .i64 b.t.kind, .int .i64 b.t.num, .string b.t.name, .slice ba b.t.args.length bc] 60 w.heap.size rfl)
  have HW := Lib.hid hal
  generalize insB s b = r at HINS ⊢
  clear hi hz0 hz1 hz2 hrow hrow' hch hL hLn hb hal
  go_enter Try.func62, Try.ntmps62
  go_upto_region 1 with (fail)
  generalize hw1 : w.alloc (.cells #[.int .i64 b.v, .int .i64 b.t.kind, .int .i64 b.t.num, .string b.t.name, .slice ba b.t.args.length bc] 60) = w1 at HBX HW ⊢
  clear hw1
  go_wp2
  go_loopw [5] (fun iv wr => ∃ k : Nat, k ≤ s.length ∧ iv = .int .i64 k ∧ Hid (scanB s b.v s.length = scanB s b.v k) ∧ Hid (Below w1.heap.size w1 wr)) (fun iv _ => (intOf iv).toNat)
  case atStart => exact ⟨s.length, Nat.le_refl _, rfl, Lib.hid rfl, Lib.hid (Below.refl _ _)⟩
  case round =>
    obtain ⟨k, hk, rfl, HSC, HB⟩ := hrel
    have HWR : Hid (Below w.heap.size w wr) := Lib.hid (belowOn HW.out (Nat.le_refl _) HB.out)
    have HBR := Lib.hid (HBX.out.read HB.out)
    obtain ⟨e0, e1, e2, e3, e4, ef⟩ := box_cells5 HBR.out.now
    have hself : Below wr.heap.size wr wr := Below.refl _ _
    have hdrew : Below wr.heap.size wr wr.drew := hself.drew
    have HEND : Hid (∀ W, Below wr.heap.size wr W → Below w1.heap.size w1 W) := Lib.hid fun W hW => belowOn HB.out (Nat.le_refl _) hW
    go_upto_region 2 with (fail)
    by_cases hkz : k = 0
    · have g0 : decide ((0 : Int) < (k : Int)) = false := decide_eq_false (by omega)
      have g0n : decide (0 < k) = false := decide_eq_false (by omega)
      have HKQ : Hid (scanB s b.v s.length = k) := Lib.hid (by rw [HSC.out, hkz, scanB])
      clear hkz e1 e2 e3 e4 ef
      refine wp_region_held_drew (S := (fun w' => Below wr.heap.size wr w' ∧ w'.cell? ⟨w.heap.size, 0, none⟩ = some (.int .i64 b.v))) (by kernel_rfl) (by (try dsimp only); go_keep) (fun hHeld => ?_)
      (refine wpAnyH_take (i := 0) (oi := ⟨_, _, _, _, _, _⟩) (v := ?_) rfl (by kernel_rfl) (by kernel_rfl) (by kernel_rfl) (fun _ _ _ h => h) (Or.inl ⟨by rfl, ?_⟩) (by assumption) ?_; rotate_left; focus ((intro w' hSw; (try dsimp only at hSw); go_simp; (try with_reducible rfl)))); (try simp only [Act.put, List.setIfInBounds_toArray, List.set_cons_zero, List.set_cons_succ])
      (refine wpAnyH_take (i := 1) (oi := ⟨_, _, _, _, _, _⟩) (v := ?_) rfl (by kernel_rfl) (by kernel_rfl) (by kernel_rfl) (fun _ _ _ h => h) (Or.inl ⟨by rfl, ?_⟩) (by assumption) ?_; rotate_left; focus ((intro w' hSw; (try dsimp only at hSw); go_simp; (try with_reducible rfl)))); (try simp only [Act.put, List.setIfInBounds_toArray, List.set_cons_zero, List.set_cons_succ])
      (refine wpAnyH_take (i := 2) (oi := ⟨_, _, _, _, _, _⟩) (v := ?_) rfl (by kernel_rfl) (by kernel_rfl) (by kernel_rfl) (fun _ _ _ h => h) (Or.inl ⟨by rfl, ?_⟩) (by assumption) ?_; rotate_left; focus ((intro w' hSw; (try dsimp only at hSw); go_simp; (try with_reducible rfl)))); (try simp only [Act.put, List.setIfInBounds_toArray, List.set_cons_zero, List.set_cons_succ])
      (refine wpAnyH_take (i := 3) (oi := ⟨_, _, _, _, _, _⟩) (v := undef) rfl (by kernel_rfl) (by kernel_rfl) (by kernel_rfl) (fun _ _ _ h => h) (Or.inr ⟨by rfl, rfl⟩) (by assumption) ?_); (try simp only [Act.put, List.setIfInBounds_toArray, List.set_cons_zero, List.set_cons_succ])
      (refine wpAnyH_take (i := 4) (oi := ⟨_, _, _, _, _, _⟩) (v := undef) rfl (by kernel_rfl) (by kernel_rfl) (by kernel_rfl) (fun _ _ _ h => h) (Or.inr ⟨by rfl, rfl⟩) (by assumption) ?_); (try simp only [Act.put, List.setIfInBounds_toArray, List.set_cons_zero, List.set_cons_succ])
      (refine wpAnyH_take (i := 5) (oi := ⟨_, _, _, _, _, _⟩) (v := undef) rfl (by kernel_rfl) (by kernel_rfl) (by kernel_rfl) (fun _ _ _ h => h) (Or.inr ⟨by rfl, rfl⟩) (by assumption) ?_); (try simp only [Act.put, List.setIfInBounds_toArray, List.set_cons_zero, List.set_cons_succ])
      (refine wpAnyH_take (i := 6) (oi := ⟨_, _, _, _, _, _⟩) (v := undef) rfl (by kernel_rfl) (by kernel_rfl) (by kernel_rfl) (fun _ _ _ h => h) (Or.inr ⟨by rfl, rfl⟩) (by assumption) ?_); (try simp only [Act.put, List.setIfInBounds_toArray, List.set_cons_zero, List.set_cons_succ])
      (refine wpAnyH_take (i := 7) (oi := ⟨_, _, _, _, _, _⟩) (v := undef) rfl (by kernel_rfl) (by kernel_rfl) (by kernel_rfl) (fun _ _ _ h => h) (Or.inr ⟨by rfl, rfl⟩) (by assumption) ?_); (try simp only [Act.put, List.setIfInBounds_toArray, List.set_cons_zero, List.set_cons_succ])
      (refine wpAnyH_take (i := 8) (oi := ⟨_, _, _, _, _, _⟩) (v := undef) rfl (by kernel_rfl) (by kernel_rfl) (by kernel_rfl) (fun _ _ _ h => h) (Or.inr ⟨by rfl, rfl⟩) (by assumption) ?_); (try simp only [Act.put, List.setIfInBounds_toArray, List.set_cons_zero, List.set_cons_succ])
      (refine wpAnyH_take (i := 9) (oi := ⟨_, _, _, _, _, _⟩) (v := undef) rfl (by kernel_rfl) (by kernel_rfl) (by kernel_rfl) (fun _ _ _ h => h) (Or.inr ⟨by rfl, rfl⟩) (by assumption) ?_); (try simp only [Act.put, List.setIfInBounds_toArray, List.set_cons_zero, List.set_cons_succ])
      (refine wpAnyH_take (i := 10) (oi := ⟨_, _, _, _, _, _⟩) (v := undef) rfl (by kernel_rfl) (by kernel_rfl) (by kernel_rfl) (fun _ _ _ h => h) (Or.inr ⟨by rfl, rfl⟩) (by assumption) ?_); (try simp only [Act.put, List.setIfInBounds_toArray, List.set_cons_zero, List.set_cons_succ])
      (refine wpAnyH_take (i := 11) (oi := ⟨_, _, _, _, _, _⟩) (v := undef) rfl (by kernel_rfl) (by kernel_rfl) (by kernel_rfl) (fun _ _ _ h => h) (Or.inr ⟨by rfl, rfl⟩) (by assumption) ?_); (try simp only [Act.put, List.setIfInBounds_toArray, List.set_cons_zero, List.set_cons_succ])
      (refine wpAnyH_take (i := 12) (oi := ⟨_, _, _, _, _, _⟩) (v := ?_) rfl (by kernel_rfl) (by kernel_rfl) (by kernel_rfl) (fun _ _ _ h => h) (Or.inl ⟨by rfl, ?_⟩) (by assumption) ?_; rotate_left; focus ((intro w' hSw; (try dsimp only at hSw); go_simp; (try with_reducible rfl)))); (try simp only [Act.put, List.setIfInBounds_toArray, List.set_cons_zero, List.set_cons_succ])
      refine wpAnyH_done (by kernel_rfl) ?_ _
      have HWQ := Lib.hid HWR.out.drew
      have HBQ := Lib.hid (HBR.out.read hdrew)
      clear g0 g0n hHeld
      clear HSC HB HWR HBR hself hdrew HEND e0 HW HBX
      go_upto_region 4 with (fail)
      generalize wr.drew = wq at HWQ HBQ ⊢
      have HRES := Lib.hid (HINS.out k HKQ.out)
      have HLK : Hid (L.length = s.length) := Lib.hid HLN.out.symm
      have hz1 : w.heap.size + 1 ≤ wq.heap.size := HBQ.out.le
      have HZQ := Lib.hid hz1
      have HRS := Lib.hid (rowB_start (E := bdE) (e := 60) (w := wq) (lo := w.heap.size + 1) hz1)
      have HWA : Hid (Below w.heap.size w (wq.alloc (.cells #[] 60))) := Lib.hid (HWQ.out.alloc (by omega) _)
      have HBA := Lib.hid (HBQ.out.read (belowAlloc (Below.refl _ _) (.cells #[] 60)))
      have HONE : Hid (∀ (M : List (Bd × Value)), (∀ p ∈ M, p ∈ L) → ∀ u ∈ cellsE bdE M, u.oneCell' = true) := Lib.hid fun M hM => bd_one fun j p hj => by
        obtain ⟨i, hi⟩ := List.getElem?_of_mem (hM p (List.mem_of_getElem? hj))
        exact argsS_one (HKID.out i p hi)
      have HKM : Hid (∀ (W : World), Below w.heap.size w W → ∀ (M : List (Bd × Value)), (∀ p ∈ M, p ∈ L) → ∀ (j : Nat) (p : Bd × Value), M[j]? = some p → bdE.kid W (fun b => b < w.heap.size + 1) p.2 p.1) := Lib.hid fun W hW M hM j p hj => by
        obtain ⟨i, hi⟩ := List.getElem?_of_mem (hM p (List.mem_of_getElem? hj))
        exact ((HKID.out i p hi).frame hW.size fun k hk _ => hW.block k hk).sub fun k hk => Nat.lt_succ_of_lt hk
      have HTC : Hid (∀ (W : World), Below w.heap.size w W → ∀ (j : Nat) (u : Value), (cellsE bdE (L.take k))[j]? = some u → W.cell? ((⟨g, 0, none⟩ : Addr).add j) = some u) := Lib.hid fun W hW j u hj => by
        rw [add_at5, Nat.zero_add]
        refine HCELL.out W hW j u ?_
        rw [← List.take_append_drop k L, cellsE_append, List.getElem?_append_left (List.getElem?_eq_some_iff.1 hj).1]
        exact hj
      have HDC : Hid (∀ (W : World), Below w.heap.size w W → ∀ (j : Nat) (u : Value), (cellsE bdE (L.drop k))[j]? = some u → W.cell? ((⟨g, k * 5, none⟩ : Addr).add j) = some u) := Lib.hid fun W hW j u hj => by
        rw [add_at5]
        refine HCELL.out W hW _ u ?_
        have hlk : (cellsE bdE (L.take k)).length = k * 5 := by rw [cellsE_length, List.length_take, show min k L.length = k from by have := HLK.out; omega]; rfl
        rw [← List.take_append_drop k L, cellsE_append, List.getElem?_append_right (by rw [hlk]; omega), hlk, Nat.add_sub_cancel_left]
        exact hj
      have HEND2 : Hid (∀ v W, RowB bdE 60 W (w.heap.size + 1) v ((([] ++ (L.take k).map Prod.fst) ++ [(b, Value.slice ba b.t.args.length bc)].map Prod.fst) ++ (L.drop k).map Prod.fst) → RowB bdE 60 W (w.heap.size + 1) v r) := Lib.hid fun v W h => by
        rw [HRES.out]
        have e : (L.take k).map Prod.fst ++ b :: (L.drop k).map Prod.fst = (([] ++ (L.take k).map Prod.fst) ++ [(b, Value.slice ba b.t.args.length bc)].map Prod.fst) ++ (L.drop k).map Prod.fst := by simp
        rw [e]; exact h
      have hKI : (k : Int) ≤ (s.length : Int) := by omega
      have hKC : (k : Int) ≤ (cap : Int) := by omega
      have hK0 : (0 : Int) ≤ (k : Int) := by omega
      have hcI : (0 : Int) ≤ (cap : Int) := by omega
      clear hz1 HINS HSC0 HRES
      go_upto_region 5 with (at_builtin; refine append_rowB rfl _ _ 25 rfl bdE (w.heap.size + 1) 60 i0 _ 64 Try.underlying25 HII.out.1 HII.out.2.1 HII.out.2.2.1 HII.out.2.2.2 rfl (by omega) _ _ rfl HRS.out (some ⟨g, 0, none⟩) k cap rfl (L.take k) (by have := HLK.out; rw [List.length_take]; omega) (fun h => by cases h) (fun ad h j u hj => by cases h; exact HTC.out _ HWA.out j u hj) (HONE.out _ fun p hp => List.mem_of_mem_take hp) (HKM.out _ HWA.out _ fun p hp => List.mem_of_mem_take hp) (by simp; omega) (by have := HBA.out.le; simp at this ⊢; omega) ?_; intro v21 w21 hown21 hb21; have HO21 := Lib.hid hown21; have HX21 := Lib.hid hb21; clear hown21 hb21)
      have HW21 : Hid (Below w.heap.size w w21) := Lib.hid (HWA.out.trans (HX21.out.mono (Nat.le_succ _)))
      have HB21 := Lib.hid (HBA.out.of_below HX21.out (Nat.le_refl _))
      obtain ⟨q0, q1, q2, q3, q4, qf⟩ := box_cells5 HB21.out.now
      have HR21 := Lib.hid (HO21.out.kept (belowAlloc (Below.refl _ _) (.cells #[.int .i64 b.v, .int .i64 b.t.kind, .int .i64 b.t.num, .string b.t.name, .slice ba b.t.args.length bc] 60)))
      have HWB : Hid (Below w.heap.size w (w21.alloc (.cells #[.int .i64 b.v, .int .i64 b.t.kind, .int .i64 b.t.num, .string b.t.name, .slice ba b.t.args.length bc] 60))) := Lib.hid (HW21.out.alloc HW21.out.size _)
      have HBB := Lib.hid (HB21.out.read (belowAlloc (Below.refl _ _) (.cells #[.int .i64 b.v, .int .i64 b.t.kind, .int .i64 b.t.num, .string b.t.name, .slice ba b.t.args.length bc] 60)))
      have HL21 : Hid (([] ++ (L.take k).map Prod.fst : List Bd).length ≤ 1048576) := Lib.hid (by rw [List.nil_append, List.length_map, List.length_take]; omega)
      clear HRS HX21 HWA HBA HTC
      go_upto_region 6 with (at_builtin; refine append_rowB rfl _ _ 25 rfl bdE (w.heap.size + 1) 60 i0 _ 64 Try.underlying25 HII.out.1 HII.out.2.1 HII.out.2.2.1 HII.out.2.2.2 rfl (by omega) v21 _ rfl HR21.out (some ⟨w21.heap.size, 0, none⟩) 1 1 rfl [(b, Value.slice ba b.t.args.length bc)] rfl (fun h => by cases h) (fun ad h j u hj => by cases h; rw [cellsE_one] at hj; exact World.news_of_block (heap_alloc_new w21 _) j u hj) (bd_one fun j p hj => by (match j, hj with | 0, hj => (simp at hj; subst hj; rfl))) (fun j p hj => by (match j, hj with | 0, hj => (simp at hj; subst hj; exact (HBK.out.frame HWB.out.size fun k hk _ => HWB.out.block k hk).sub fun k hk => Nat.lt_succ_of_lt hk))) (by have := HL21.out; omega) (by have := HBB.out.le; exact this) ?_; intro v22 w22 hown22 hb22; have HO22 := Lib.hid hown22; have HX22 := Lib.hid hb22; clear hown22 hb22)
      have HW22 : Hid (Below w.heap.size w w22) := Lib.hid (HWB.out.trans (HX22.out.mono (Nat.le_succ _)))
      have HB22 := Lib.hid (HBB.out.of_below HX22.out (Nat.le_refl _))
      have HL22 : Hid ((([] ++ (L.take k).map Prod.fst) ++ [(b, Value.slice ba b.t.args.length bc)].map Prod.fst : List Bd).length ≤ 1048577) := Lib.hid (by have := HL21.out; rw [List.length_append]; exact Nat.succ_le_succ this)
      clear HR21 HX22 HWB HBB q0 q1 q2 q3 q4 qf
      by_cases hck : cap = k
      · have hks : k = s.length := by omega
        have HKS := Lib.hid hks
        have HCK := Lib.hid hck
        clear hks
        subst hck
        go_wp2_with (at_builtin; refine append_rowB rfl _ _ 25 rfl bdE (w.heap.size + 1) 60 i0 _ 64 Try.underlying25 HII.out.1 HII.out.2.1 HII.out.2.2.1 HII.out.2.2.2 rfl (by omega) v22 _ rfl HO22.out _ _ _ rfl (L.drop cap) (by have := HLK.out; rw [List.length_drop]; omega) (fun h => by cases h) (fun ad h j u hj => by rw [List.drop_of_length_le (by have h1 := HLK.out; have h2 := HKS.out; omega)] at hj; simp [cellsE] at hj) (HONE.out _ fun p hp => List.mem_of_mem_drop hp) (HKM.out _ HW22.out _ fun p hp => List.mem_of_mem_drop hp) (by have h1 := HL22.out; omega) (by have := HB22.out.le; exact this) ?_; intro v23 w23 hown23 hb23; have HO23 := Lib.hid hown23; have HX23 := Lib.hid hb23; clear hown23 hb23)
        go_wp2
        go_ret
        exact ⟨_, rfl, HEND2.out _ _ HO23.out, HW22.out.trans (HX23.out.mono (Nat.le_succ _))⟩
      · have hck2 : ¬ k = cap := fun e => hck e.symm
        have hck3 : ¬ (k : Int) = (cap : Int) := by omega
        go_wp2_with (at_builtin; refine append_rowB rfl _ _ 25 rfl bdE (w.heap.size + 1) 60 i0 _ 64 Try.underlying25 HII.out.1 HII.out.2.1 HII.out.2.2.1 HII.out.2.2.2 rfl (by omega) v22 _ rfl HO22.out _ _ _ rfl (L.drop k) (by have := HLK.out; rw [List.length_drop]; omega) (fun h => by cases h) (fun ad h j u hj => by cases h; exact HDC.out _ HW22.out j u hj) (HONE.out _ fun p hp => List.mem_of_mem_drop hp) (HKM.out _ HW22.out _ fun p hp => List.mem_of_mem_drop hp) (by have h1 := HL22.out; omega) (by have := HB22.out.le; exact this) ?_; intro v23 w23 hown23 hb23; have HO23 := Lib.hid hown23; have HX23 := Lib.hid hb23; clear hown23 hb23)
        go_wp2
        go_ret
        exact ⟨_, rfl, HEND2.out _ _ HO23.out, HW22.out.trans (HX23.out.mono (Nat.le_succ _))⟩
    · obtain ⟨j, hj⟩ : ∃ j, k = j + 1 := ⟨k - 1, by omega⟩
      have g0 : decide ((0 : Int) < (k : Int)) = true := decide_eq_true (by omega)
      have g0n : decide (0 < k) = true := decide_eq_true (by omega)
      obtain ⟨p, hp⟩ : ∃ p, L[j]? = some p := ⟨_, List.getElem?_eq_getElem (by have := HLN.out; omega)⟩
      have c0 : wr.cell? ⟨g, j * 5, none⟩ = some (.int .i64 p.1.v) := HCELL.out wr HWR.out (j * 5) _ (by have := cellsE_at (E := bdE) hp (i := 0) (v := .int .i64 p.1.v) rfl; exact this)
      have HSJ : Hid (scanB s b.v s.length = if b.v < p.1.v then scanB s b.v j else k) := Lib.hid (by rw [HSC.out, hj, HSC0.out j p hp])
      have m0 : (0 : Int) ≤ (j : Int) := by omega
      have m1 : (j : Int) < (s.length : Int) := by omega
      have m2 : IntKind.i64.wrap ((k : Int) - 1) = (j : Int) := by rw [IntWalk.i64_in _ (by omega)]; omega
      have HKJ := Lib.hid hj
      have hjk : j ≤ s.length := by omega
      clear hkz hp hj e1 e2 e3 e4 ef
      by_cases hd : b.v < p.1.v
      · have g1 : decide (b.v < p.1.v) = true := decide_eq_true hd
        have HSN : Hid (scanB s b.v s.length = scanB s b.v j) := Lib.hid (by rw [HSJ.out, if_pos hd])
        clear hd
        refine wp_region_held_drew (S := (fun w' => Below wr.heap.size wr w' ∧ w'.cell? ⟨w.heap.size, 0, none⟩ = some (.int .i64 b.v) ∧ w'.cell? ⟨g, j * 5, none⟩ = some (.int .i64 p.1.v))) (by kernel_rfl) (by (try dsimp only); go_keep) (fun hHeld => ?_)
        (refine wpAnyH_take (i := 0) (oi := ⟨_, _, _, _, _, _⟩) (v := ?_) rfl (by kernel_rfl) (by kernel_rfl) (by kernel_rfl) (fun _ _ _ h => h) (Or.inl ⟨by rfl, ?_⟩) (by assumption) ?_; rotate_left; focus ((intro w' hSw; (try dsimp only at hSw); go_simp; (try with_reducible rfl)))); (try simp only [Act.put, List.setIfInBounds_toArray, List.set_cons_zero, List.set_cons_succ])
        (refine wpAnyH_take (i := 1) (oi := ⟨_, _, _, _, _, _⟩) (v := ?_) rfl (by kernel_rfl) (by kernel_rfl) (by kernel_rfl) (fun _ _ _ h => h) (Or.inl ⟨by rfl, ?_⟩) (by assumption) ?_; rotate_left; focus ((intro w' hSw; (try dsimp only at hSw); go_simp; (try with_reducible rfl)))); (try simp only [Act.put, List.setIfInBounds_toArray, List.set_cons_zero, List.set_cons_succ])
        (refine wpAnyH_take (i := 2) (oi := ⟨_, _, _, _, _, _⟩) (v := ?_) rfl (by kernel_rfl) (by kernel_rfl) (by kernel_rfl) (fun _ _ _ h => h) (Or.inl ⟨by rfl, ?_⟩) (by assumption) ?_; rotate_left; focus ((intro w' hSw; (try dsimp only at hSw); go_simp; (try with_reducible rfl)))); (try simp only [Act.put, List.setIfInBounds_toArray, List.set_cons_zero, List.set_cons_succ])
        (refine wpAnyH_take (i := 3) (oi := ⟨_, _, _, _, _, _⟩) (v := ?_) rfl (by kernel_rfl) (by kernel_rfl) (by kernel_rfl) (fun _ _ _ h => h) (Or.inl ⟨by rfl, ?_⟩) (by assumption) ?_; rotate_left; focus ((intro w' hSw; (try dsimp only at hSw); go_simp; (try with_reducible rfl)))); (try simp only [Act.put, List.setIfInBounds_toArray, List.set_cons_zero, List.set_cons_succ])
        (refine wpAnyH_take (i := 4) (oi := ⟨_, _, _, _, _, _⟩) (v := ?_) rfl (by kernel_rfl) (by kernel_rfl) (by kernel_rfl) (fun _ _ _ h => h) (Or.inl ⟨by rfl, ?_⟩) (by assumption) ?_; rotate_left; focus ((intro w' hSw; (try dsimp only at hSw); go_simp; (try with_reducible rfl)))); (try simp only [Act.put, List.setIfInBounds_toArray, List.set_cons_zero, List.set_cons_succ])
        (refine wpAnyH_take (i := 5) (oi := ⟨_, _, _, _, _, _⟩) (v := ?_) rfl (by kernel_rfl) (by kernel_rfl) (by kernel_rfl) (fun _ _ _ h => h) (Or.inl ⟨by rfl, ?_⟩) (by assumption) ?_; rotate_left; focus ((intro w' hSw; (try dsimp only at hSw); go_simp; (try with_reducible rfl)))); (try simp only [Act.put, List.setIfInBounds_toArray, List.set_cons_zero, List.set_cons_succ])
        (refine wpAnyH_take (i := 6) (oi := ⟨_, _, _, _, _, _⟩) (v := ?_) rfl (by kernel_rfl) (by kernel_rfl) (by kernel_rfl) (fun _ _ _ h => h) (Or.inl ⟨by rfl, ?_⟩) (by assumption) ?_; rotate_left; focus ((intro w' hSw; (try dsimp only at hSw); go_simp; (try with_reducible rfl)))); (try simp only [Act.put, List.setIfInBounds_toArray, List.set_cons_zero, List.set_cons_succ])
        (refine wpAnyH_take (i := 7) (oi := ⟨_, _, _, _, _, _⟩) (v := ?_) rfl (by kernel_rfl) (by kernel_rfl) (by kernel_rfl) (fun _ _ _ h => h) (Or.inl ⟨by rfl, ?_⟩) (by assumption) ?_; rotate_left; focus ((intro w' hSw; (try dsimp only at hSw); go_simp; (try with_reducible rfl)))); (try simp only [Act.put, List.setIfInBounds_toArray, List.set_cons_zero, List.set_cons_succ])
        (refine wpAnyH_take (i := 8) (oi := ⟨_, _, _, _, _, _⟩) (v := ?_) rfl (by kernel_rfl) (by kernel_rfl) (by kernel_rfl) (fun _ _ _ h => h) (Or.inl ⟨by rfl, ?_⟩) (by assumption) ?_; rotate_left; focus ((intro w' hSw; (try dsimp only at hSw); go_simp; (try with_reducible rfl)))); (try simp only [Act.put, List.setIfInBounds_toArray, List.set_cons_zero, List.set_cons_succ])
        (refine wpAnyH_take (i := 9) (oi := ⟨_, _, _, _, _, _⟩) (v := ?_) rfl (by kernel_rfl) (by kernel_rfl) (by kernel_rfl) (fun _ _ _ h => h) (Or.inl ⟨by rfl, ?_⟩) (by assumption) ?_; rotate_left; focus ((intro w' hSw; (try dsimp only at hSw); go_simp; (try with_reducible rfl)))); (try simp only [Act.put, List.setIfInBounds_toArray, List.set_cons_zero, List.set_cons_succ])
        (refine wpAnyH_take (i := 10) (oi := ⟨_, _, _, _, _, _⟩) (v := ?_) rfl (by kernel_rfl) (by kernel_rfl) (by kernel_rfl) (fun _ _ _ h => h) (Or.inl ⟨by rfl, ?_⟩) (by assumption) ?_; rotate_left; focus ((intro w' hSw; (try dsimp only at hSw); go_simp; (try with_reducible rfl)))); (try simp only [Act.put, List.setIfInBounds_toArray, List.set_cons_zero, List.set_cons_succ])
        (refine wpAnyH_take (i := 11) (oi := ⟨_, _, _, _, _, _⟩) (v := ?_) rfl (by kernel_rfl) (by kernel_rfl) (by kernel_rfl) (fun _ _ _ h => h) (Or.inl ⟨by rfl, ?_⟩) (by assumption) ?_; rotate_left; focus ((intro w' hSw; (try dsimp only at hSw); go_simp; (try with_reducible rfl)))); (try simp only [Act.put, List.setIfInBounds_toArray, List.set_cons_zero, List.set_cons_succ])
        (refine wpAnyH_take (i := 12) (oi := ⟨_, _, _, _, _, _⟩) (v := ?_) rfl (by kernel_rfl) (by kernel_rfl) (by kernel_rfl) (fun _ _ _ h => h) (Or.inl ⟨by rfl, ?_⟩) (by assumption) ?_; rotate_left; focus ((intro w' hSw; (try dsimp only at hSw); go_simp; (try with_reducible rfl)))); (try simp only [Act.put, List.setIfInBounds_toArray, List.set_cons_zero, List.set_cons_succ])
        refine wpAnyH_done (by kernel_rfl) ?_ _
        have HWF := Lib.hid (HEND.out _ hdrew)
        clear g0 g0n g1 m1 m2
        have hkj : (k : Int) = (j : Int) + 1 := by have := HKJ.out; omega
        have HKI := Lib.hid hkj
        clear hkj
        go_wp2
        go_roundw
        case rel => exact ⟨j, hjk, by have := HKI.out; go_num, HSN, HWF⟩
        case measure => have := HKI.out; simp [intOf]; omega
      · have g1 : decide (b.v < p.1.v) = false := decide_eq_false hd
        have HKQ : Hid (scanB s b.v s.length = k) := Lib.hid (by rw [HSJ.out, if_neg hd])
        clear hd
        refine wp_region_held_drew (S := (fun w' => Below wr.heap.size wr w' ∧ w'.cell? ⟨w.heap.size, 0, none⟩ = some (.int .i64 b.v) ∧ w'.cell? ⟨g, j * 5, none⟩ = some (.int .i64 p.1.v))) (by kernel_rfl) (by (try dsimp only); go_keep) (fun hHeld => ?_)
        (refine wpAnyH_take (i := 0) (oi := ⟨_, _, _, _, _, _⟩) (v := ?_) rfl (by kernel_rfl) (by kernel_rfl) (by kernel_rfl) (fun _ _ _ h => h) (Or.inl ⟨by rfl, ?_⟩) (by assumption) ?_; rotate_left; focus ((intro w' hSw; (try dsimp only at hSw); go_simp; (try with_reducible rfl)))); (try simp only [Act.put, List.setIfInBounds_toArray, List.set_cons_zero, List.set_cons_succ])
        (refine wpAnyH_take (i := 1) (oi := ⟨_, _, _, _, _, _⟩) (v := ?_) rfl (by kernel_rfl) (by kernel_rfl) (by kernel_rfl) (fun _ _ _ h => h) (Or.inl ⟨by rfl, ?_⟩) (by assumption) ?_; rotate_left; focus ((intro w' hSw; (try dsimp only at hSw); go_simp; (try with_reducible rfl)))); (try simp only [Act.put, List.setIfInBounds_toArray, List.set_cons_zero, List.set_cons_succ])
        (refine wpAnyH_take (i := 2) (oi := ⟨_, _, _, _, _, _⟩) (v := ?_) rfl (by kernel_rfl) (by kernel_rfl) (by kernel_rfl) (fun _ _ _ h => h) (Or.inl ⟨by rfl, ?_⟩) (by assumption) ?_; rotate_left; focus ((intro w' hSw; (try dsimp only at hSw); go_simp; (try with_reducible rfl)))); (try simp only [Act.put, List.setIfInBounds_toArray, List.set_cons_zero, List.set_cons_succ])
        (refine wpAnyH_take (i := 3) (oi := ⟨_, _, _, _, _, _⟩) (v := ?_) rfl (by kernel_rfl) (by kernel_rfl) (by kernel_rfl) (fun _ _ _ h => h) (Or.inl ⟨by rfl, ?_⟩) (by assumption) ?_; rotate_left; focus ((intro w' hSw; (try dsimp only at hSw); go_simp; (try with_reducible rfl)))); (try simp only [Act.put, List.setIfInBounds_toArray, List.set_cons_zero, List.set_cons_succ])
        (refine wpAnyH_take (i := 4) (oi := ⟨_, _, _, _, _, _⟩) (v := ?_) rfl (by kernel_rfl) (by kernel_rfl) (by kernel_rfl) (fun _ _ _ h => h) (Or.inl ⟨by rfl, ?_⟩) (by assumption) ?_; rotate_left; focus ((intro w' hSw; (try dsimp only at hSw); go_simp; (try with_reducible rfl)))); (try simp only [Act.put, List.setIfInBounds_toArray, List.set_cons_zero, List.set_cons_succ])
        (refine wpAnyH_take (i := 5) (oi := ⟨_, _, _, _, _, _⟩) (v := ?_) rfl (by kernel_rfl) (by kernel_rfl) (by kernel_rfl) (fun _ _ _ h => h) (Or.inl ⟨by rfl, ?_⟩) (by assumption) ?_; rotate_left; focus ((intro w' hSw; (try dsimp only at hSw); go_simp; (try with_reducible rfl)))); (try simp only [Act.put, List.setIfInBounds_toArray, List.set_cons_zero, List.set_cons_succ])
        (refine wpAnyH_take (i := 6) (oi := ⟨_, _, _, _, _, _⟩) (v := ?_) rfl (by kernel_rfl) (by kernel_rfl) (by kernel_rfl) (fun _ _ _ h => h) (Or.inl ⟨by rfl, ?_⟩) (by assumption) ?_; rotate_left; focus ((intro w' hSw; (try dsimp only at hSw); go_simp; (try with_reducible rfl)))); (try simp only [Act.put, List.setIfInBounds_toArray, List.set_cons_zero, List.set_cons_succ])
        (refine wpAnyH_take (i := 7) (oi := ⟨_, _, _, _, _, _⟩) (v := ?_) rfl (by kernel_rfl) (by kernel_rfl) (by kernel_rfl) (fun _ _ _ h => h) (Or.inl ⟨by rfl, ?_⟩) (by assumption) ?_; rotate_left; focus ((intro w' hSw; (try dsimp only at hSw); go_simp; (try with_reducible rfl)))); (try simp only [Act.put, List.setIfInBounds_toArray, List.set_cons_zero, List.set_cons_succ])
        (refine wpAnyH_take (i := 8) (oi := ⟨_, _, _, _, _, _⟩) (v := ?_) rfl (by kernel_rfl) (by kernel_rfl) (by kernel_rfl) (fun _ _ _ h => h) (Or.inl ⟨by rfl, ?_⟩) (by assumption) ?_; rotate_left; focus ((intro w' hSw; (try dsimp only at hSw); go_simp; (try with_reducible rfl)))); (try simp only [Act.put, List.setIfInBounds_toArray, List.set_cons_zero, List.set_cons_succ])
        (refine wpAnyH_take (i := 9) (oi := ⟨_, _, _, _, _, _⟩) (v := ?_) rfl (by kernel_rfl) (by kernel_rfl) (by kernel_rfl) (fun _ _ _ h => h) (Or.inl ⟨by rfl, ?_⟩) (by assumption) ?_; rotate_left; focus ((intro w' hSw; (try dsimp only at hSw); go_simp; (try with_reducible rfl)))); (try simp only [Act.put, List.setIfInBounds_toArray, List.set_cons_zero, List.set_cons_succ])
        (refine wpAnyH_take (i := 10) (oi := ⟨_, _, _, _, _, _⟩) (v := ?_) rfl (by kernel_rfl) (by kernel_rfl) (by kernel_rfl) (fun _ _ _ h => h) (Or.inl ⟨by rfl, ?_⟩) (by assumption) ?_; rotate_left; focus ((intro w' hSw; (try dsimp only at hSw); go_simp; (try with_reducible rfl)))); (try simp only [Act.put, List.setIfInBounds_toArray, List.set_cons_zero, List.set_cons_succ])
        (refine wpAnyH_take (i := 11) (oi := ⟨_, _, _, _, _, _⟩) (v := ?_) rfl (by kernel_rfl) (by kernel_rfl) (by kernel_rfl) (fun _ _ _ h => h) (Or.inl ⟨by rfl, ?_⟩) (by assumption) ?_; rotate_left; focus ((intro w' hSw; (try dsimp only at hSw); go_simp; (try with_reducible rfl)))); (try simp only [Act.put, List.setIfInBounds_toArray, List.set_cons_zero, List.set_cons_succ])
        (refine wpAnyH_take (i := 12) (oi := ⟨_, _, _, _, _, _⟩) (v := ?_) rfl (by kernel_rfl) (by kernel_rfl) (by kernel_rfl) (fun _ _ _ h => h) (Or.inl ⟨by rfl, ?_⟩) (by assumption) ?_; rotate_left; focus ((intro w' hSw; (try dsimp only at hSw); go_simp; (try with_reducible rfl)))); (try simp only [Act.put, List.setIfInBounds_toArray, List.set_cons_zero, List.set_cons_succ])
        refine wpAnyH_done (by kernel_rfl) ?_ _
        have HWQ := Lib.hid HWR.out.drew
        have HBQ := Lib.hid (HBR.out.read hdrew)
        clear g0 g0n g1 m0 m1 m2 c0 hHeld hjk HSJ HKJ
        clear HSC HB HWR HBR hself hdrew HEND e0 HW HBX
        go_upto_region 4 with (fail)
        generalize wr.drew = wq at HWQ HBQ ⊢
        have HRES := Lib.hid (HINS.out k HKQ.out)
        have HLK : Hid (L.length = s.length) := Lib.hid HLN.out.symm
        have hz1 : w.heap.size + 1 ≤ wq.heap.size := HBQ.out.le
        have HZQ := Lib.hid hz1
        have HRS := Lib.hid (rowB_start (E := bdE) (e := 60) (w := wq) (lo := w.heap.size + 1) hz1)
        have HWA : Hid (Below w.heap.size w (wq.alloc (.cells #[] 60))) := Lib.hid (HWQ.out.alloc (by omega) _)
        have HBA := Lib.hid (HBQ.out.read (belowAlloc (Below.refl _ _) (.cells #[] 60)))
        have HONE : Hid (∀ (M : List (Bd × Value)), (∀ p ∈ M, p ∈ L) → ∀ u ∈ cellsE bdE M, u.oneCell' = true) := Lib.hid fun M hM => bd_one fun j p hj => by
          obtain ⟨i, hi⟩ := List.getElem?_of_mem (hM p (List.mem_of_getElem? hj))
          exact argsS_one (HKID.out i p hi)
        have HKM : Hid (∀ (W : World), Below w.heap.size w W → ∀ (M : List (Bd × Value)), (∀ p ∈ M, p ∈ L) → ∀ (j : Nat) (p : Bd × Value), M[j]? = some p → bdE.kid W (fun b => b < w.heap.size + 1) p.2 p.1) := Lib.hid fun W hW M hM j p hj => by
          obtain ⟨i, hi⟩ := List.getElem?_of_mem (hM p (List.mem_of_getElem? hj))
          exact ((HKID.out i p hi).frame hW.size fun k hk _ => hW.block k hk).sub fun k hk => Nat.lt_succ_of_lt hk
        have HTC : Hid (∀ (W : World), Below w.heap.size w W → ∀ (j : Nat) (u : Value), (cellsE bdE (L.take k))[j]? = some u → W.cell? ((⟨g, 0, none⟩ : Addr).add j) = some u) := Lib.hid fun W hW j u hj => by
          rw [add_at5, Nat.zero_add]
          refine HCELL.out W hW j u ?_
          rw [← List.take_append_drop k L, cellsE_append, List.getElem?_append_left (List.getElem?_eq_some_iff.1 hj).1]
          exact hj
        have HDC : Hid (∀ (W : World), Below w.heap.size w W → ∀ (j : Nat) (u : Value), (cellsE bdE (L.drop k))[j]? = some u → W.cell? ((⟨g, k * 5, none⟩ : Addr).add j) = some u) := Lib.hid fun W hW j u hj => by
          rw [add_at5]
          refine HCELL.out W hW _ u ?_
          have hlk : (cellsE bdE (L.take k)).length = k * 5 := by rw [cellsE_length, List.length_take, show min k L.length = k from by have := HLK.out; omega]; rfl
          rw [← List.take_append_drop k L, cellsE_append, List.getElem?_append_right (by rw [hlk]; omega), hlk, Nat.add_sub_cancel_left]
          exact hj
        have HEND2 : Hid (∀ v W, RowB bdE 60 W (w.heap.size + 1) v ((([] ++ (L.take k).map Prod.fst) ++ [(b, Value.slice ba b.t.args.length bc)].map Prod.fst) ++ (L.drop k).map Prod.fst) → RowB bdE 60 W (w.heap.size + 1) v r) := Lib.hid fun v W h => by
          rw [HRES.out]
          have e : (L.take k).map Prod.fst ++ b :: (L.drop k).map Prod.fst = (([] ++ (L.take k).map Prod.fst) ++ [(b, Value.slice ba b.t.args.length bc)].map Prod.fst) ++ (L.drop k).map Prod.fst := by simp
          rw [e]; exact h
        have hKI : (k : Int) ≤ (s.length : Int) := by omega
        have hKC : (k : Int) ≤ (cap : Int) := by omega
        have hK0 : (0 : Int) ≤ (k : Int) := by omega
        have hcI : (0 : Int) ≤ (cap : Int) := by omega
        clear hz1 HINS HSC0 HRES
        go_upto_region 5 with (at_builtin; refine append_rowB rfl _ _ 25 rfl bdE (w.heap.size + 1) 60 i0 _ 64 Try.underlying25 HII.out.1 HII.out.2.1 HII.out.2.2.1 HII.out.2.2.2 rfl (by omega) _ _ rfl HRS.out (some ⟨g, 0, none⟩) k cap rfl (L.take k) (by have := HLK.out; rw [List.length_take]; omega) (fun h => by cases h) (fun ad h j u hj => by cases h; exact HTC.out _ HWA.out j u hj) (HONE.out _ fun p hp => List.mem_of_mem_take hp) (HKM.out _ HWA.out _ fun p hp => List.mem_of_mem_take hp) (by simp; omega) (by have := HBA.out.le; simp at this ⊢; omega) ?_; intro v21 w21 hown21 hb21; have HO21 := Lib.hid hown21; have HX21 := Lib.hid hb21; clear hown21 hb21)
        have HW21 : Hid (Below w.heap.size w w21) := Lib.hid (HWA.out.trans (HX21.out.mono (Nat.le_succ _)))
        have HB21 := Lib.hid (HBA.out.of_below HX21.out (Nat.le_refl _))
        obtain ⟨q0, q1, q2, q3, q4, qf⟩ := box_cells5 HB21.out.now
        have HR21 := Lib.hid (HO21.out.kept (belowAlloc (Below.refl _ _) (.cells #[.int .i64 b.v, .int .i64 b.t.kind, .int .i64 b.t.num, .string b.t.name, .slice ba b.t.args.length bc] 60)))
        have HWB : Hid (Below w.heap.size w (w21.alloc (.cells #[.int .i64 b.v, .int .i64 b.t.kind, .int .i64 b.t.num, .string b.t.name, .slice ba b.t.args.length bc] 60))) := Lib.hid (HW21.out.alloc HW21.out.size _)
        have HBB := Lib.hid (HB21.out.read (belowAlloc (Below.refl _ _) (.cells #[.int .i64 b.v, .int .i64 b.t.kind, .int .i64 b.t.num, .string b.t.name, .slice ba b.t.args.length bc] 60)))
        have HL21 : Hid (([] ++ (L.take k).map Prod.fst : List Bd).length ≤ 1048576) := Lib.hid (by rw [List.nil_append, List.length_map, List.length_take]; omega)
        clear HRS HX21 HWA HBA HTC
        go_upto_region 6 with (at_builtin; refine append_rowB rfl _ _ 25 rfl bdE (w.heap.size + 1) 60 i0 _ 64 Try.underlying25 HII.out.1 HII.out.2.1 HII.out.2.2.1 HII.out.2.2.2 rfl (by omega) v21 _ rfl HR21.out (some ⟨w21.heap.size, 0, none⟩) 1 1 rfl [(b, Value.slice ba b.t.args.length bc)] rfl (fun h => by cases h) (fun ad h j u hj => by cases h; rw [cellsE_one] at hj; exact World.news_of_block (heap_alloc_new w21 _) j u hj) (bd_one fun j p hj => by (match j, hj with | 0, hj => (simp at hj; subst hj; rfl))) (fun j p hj => by (match j, hj with | 0, hj => (simp at hj; subst hj; exact (HBK.out.frame HWB.out.size fun k hk _ => HWB.out.block k hk).sub fun k hk => Nat.lt_succ_of_lt hk))) (by have := HL21.out; omega) (by have := HBB.out.le; exact this) ?_; intro v22 w22 hown22 hb22; have HO22 := Lib.hid hown22; have HX22 := Lib.hid hb22; clear hown22 hb22)
        have HW22 : Hid (Below w.heap.size w w22) := Lib.hid (HWB.out.trans (HX22.out.mono (Nat.le_succ _)))
        have HB22 := Lib.hid (HBB.out.of_below HX22.out (Nat.le_refl _))
        have HL22 : Hid ((([] ++ (L.take k).map Prod.fst) ++ [(b, Value.slice ba b.t.args.length bc)].map Prod.fst : List Bd).length ≤ 1048577) := Lib.hid (by have := HL21.out; rw [List.length_append]; exact Nat.succ_le_succ this)
        clear HR21 HX22 HWB HBB q0 q1 q2 q3 q4 qf
        by_cases hck : cap = k
        · have hks : k = s.length := by omega
          have HKS := Lib.hid hks
          have HCK := Lib.hid hck
          clear hks
          subst hck
          go_wp2_with (at_builtin; refine append_rowB rfl _ _ 25 rfl bdE (w.heap.size + 1) 60 i0 _ 64 Try.underlying25 HII.out.1 HII.out.2.1 HII.out.2.2.1 HII.out.2.2.2 rfl (by omega) v22 _ rfl HO22.out _ _ _ rfl (L.drop cap) (by have := HLK.out; rw [List.length_drop]; omega) (fun h => by cases h) (fun ad h j u hj => by rw [List.drop_of_length_le (by have h1 := HLK.out; have h2 := HKS.out; omega)] at hj; simp [cellsE] at hj) (HONE.out _ fun p hp => List.mem_of_mem_drop hp) (HKM.out _ HW22.out _ fun p hp => List.mem_of_mem_drop hp) (by have h1 := HL22.out; omega) (by have := HB22.out.le; exact this) ?_; intro v23 w23 hown23 hb23; have HO23 := Lib.hid hown23; have HX23 := Lib.hid hb23; clear hown23 hb23)
          go_wp2
          go_ret
          exact ⟨_, rfl, HEND2.out _ _ HO23.out, HW22.out.trans (HX23.out.mono (Nat.le_succ _))⟩
        · have hck2 : ¬ k = cap := fun e => hck e.symm
          have hck3 : ¬ (k : Int) = (cap : Int) := by omega
          go_wp2_with (at_builtin; refine append_rowB rfl _ _ 25 rfl bdE (w.heap.size + 1) 60 i0 _ 64 Try.underlying25 HII.out.1 HII.out.2.1 HII.out.2.2.1 HII.out.2.2.2 rfl (by omega) v22 _ rfl HO22.out _ _ _ rfl (L.drop k) (by have := HLK.out; rw [List.length_drop]; omega) (fun h => by cases h) (fun ad h j u hj => by cases h; exact HDC.out _ HW22.out j u hj) (HONE.out _ fun p hp => List.mem_of_mem_drop hp) (HKM.out _ HW22.out _ fun p hp => List.mem_of_mem_drop hp) (by have h1 := HL22.out; omega) (by have := HB22.out.le; exact this) ?_; intro v23 w23 hown23 hb23; have HO23 := Lib.hid hown23; have HX23 := Lib.hid hb23; clear hown23 hb23)
          go_wp2
          go_ret
          exact ⟨_, rfl, HEND2.out _ _ HO23.out, HW22.out.trans (HX23.out.mono (Nat.le_succ _))⟩
end Go.Proofs.Ytnbnepeikdieaaa

namespace Go.Proofs.Ytnbnepeikdieaaa
open Go.RowKit
set_option linter.unusedVariables false
set_option linter.unusedSimpArgs false

/-- A list, and whether. -/
def OldB2 (l : List Bd) (b : Bool) (w : World) (e : Ending) (w' : World) : Prop := ∃ v, e = .returned (.tuple #[v, .bool b]) ∧ ListS bdE w' Any v l ∧ Below w.heap.size w w'
theorem RowB.size {α : Type} {E : El α} {e : TypeId} {w : World} {lo : Nat} {v : Value} {xs : List α} (h : RowB E e w lo v xs) (hp : 0 < xs.length) : lo < w.heap.size := by
  obtain ⟨L, rfl, hrow, hch⟩ := h
  rw [List.length_map] at hp
  rcases hrow.2 with ⟨_, hn⟩ | ⟨g', cap', cur, rfl, h1, h2⟩
  · omega
  · have := (World.ownsRow.lt hrow g' rfl); omega

/-! ### The composition, plain -/
def mapped (t : List Bd) (b : Bd) : Bd := ⟨b.v, putT t b.t⟩
def selfB (b : Bd) : Bool := decide (b.t.kind = 1 ∧ b.t.num = b.v)
def cmpA (s t : List Bd) : List Bd := (s.map (mapped t)).filter fun b => !selfB b
def rest (s t : List Bd) : List Bd := t.filter fun b => !getB s b.v
def cmpB (s t : List Bd) : List Bd := (rest s t).foldl insB (cmpA s t)
def CompP (s t : List Bd) : Prop := SubstP s ∧ SubstP t ∧ (∀ b ∈ s, (putT t b.t).nodes ≤ 5000) ∧ SubstP (cmpB s t)
open Classical in
noncomputable def coL (s t : List Bd) : List Bd := if CompP s t then cmpB s t else []
open Classical in
noncomputable def coB (s t : List Bd) : Bool := decide (CompP s t)
open Classical in
theorem co_yes {s t : List Bd} (h : CompP s t) : coL s t = cmpB s t ∧ coB s t = true := ⟨by rw [coL, if_pos h], by rw [coB, decide_eq_true h]⟩
open Classical in
theorem co_no {s t : List Bd} (h : ¬ CompP s t) : coL s t = [] ∧ coB s t = false := ⟨by rw [coL, if_neg h], by rw [coB, decide_eq_false h]⟩
theorem insB_mem {s : List Bd} {b x : Bd} : x ∈ insB s b ↔ x = b ∨ x ∈ s := by
  unfold insB
  rw [List.mem_append, List.mem_cons]
  constructor
  · rintro (h | h | h)
    · exact .inr (List.mem_of_mem_take h)
    · exact .inl h
    · exact .inr (List.mem_of_mem_drop h)
  · rintro (h | h)
    · exact .inr (.inl h)
    · rw [← List.take_append_drop (scanB s b.v s.length) s, List.mem_append] at h
      rcases h with h | h
      · exact .inl h
      · exact .inr (.inr h)
theorem foldB_mem {x : Bd} : ∀ (r s : List Bd), x ∈ r.foldl insB s ↔ x ∈ r ∨ x ∈ s
  | [], s => by simp
  | b :: r, s => by
    rw [List.foldl_cons, foldB_mem r, insB_mem, List.mem_cons]
    constructor
    · rintro (h | h | h)
      · exact .inl (.inr h)
      · exact .inl (.inl h)
      · exact .inr h
    · rintro ((h | h) | h)
      · exact .inr (.inl h)
      · exact .inl h
      · exact .inr (.inr h)
theorem foldB_length : ∀ (r s : List Bd), (r.foldl insB s).length = r.length + s.length
  | [], s => by simp
  | b :: r, s => by rw [List.foldl_cons, foldB_length r, insB_length, List.length_cons]; omega
theorem cmpA_yes {s t : List Bd} {k : Nat} {x : Bd} (hx : s[k]? = some x) (h : selfB (mapped t x) = false) : cmpA (s.take (k + 1)) t = cmpA (s.take k) t ++ [mapped t x] := by
  rw [cmpA, takeE hx, List.map_append, List.filter_append]
  simp [cmpA, List.filter_cons, h]
theorem cmpA_not {s t : List Bd} {k : Nat} {x : Bd} (hx : s[k]? = some x) (h : selfB (mapped t x) = true) : cmpA (s.take (k + 1)) t = cmpA (s.take k) t := by
  rw [cmpA, takeE hx, List.map_append, List.filter_append]
  simp [cmpA, List.filter_cons, h]
theorem cmpA_len (s t : List Bd) (k : Nat) : (cmpA (s.take k) t).length ≤ s.length := by
  unfold cmpA
  refine Nat.le_trans (List.length_filter_le _ _) ?_
  rw [List.length_map, List.length_take]; omega
theorem restB_yes {s t : List Bd} {k : Nat} {x : Bd} (hx : t[k]? = some x) (h : getB s x.v = false) (a : List Bd) : (rest s (t.take (k + 1))).foldl insB a = insB ((rest s (t.take k)).foldl insB a) x := by
  have : rest s (t.take (k + 1)) = rest s (t.take k) ++ [x] := by
    rw [rest, takeE hx, List.filter_append]
    simp [rest, List.filter_cons, h]
  rw [this, List.foldl_append]
  rfl
theorem rest_not {s t : List Bd} {k : Nat} {x : Bd} (hx : t[k]? = some x) (h : getB s x.v = true) (a : List Bd) : (rest s (t.take (k + 1))).foldl insB a = (rest s (t.take k)).foldl insB a := by
  have : rest s (t.take (k + 1)) = rest s (t.take k) := by
    rw [rest, takeE hx, List.filter_append]
    simp [rest, List.filter_cons, h]
  rw [this]
theorem rest_len (s t : List Bd) (k : Nat) : (rest s (t.take k)).length ≤ t.length := by
  unfold rest
  refine Nat.le_trans (List.length_filter_le _ _) ?_
  rw [List.length_take]; omega
theorem cmpB_each {s t : List Bd} (hs : SubstP s) (ht : SubstP t) (hf : ∀ b ∈ s, (putT t b.t).nodes ≤ 5000) : EachB (cmpB s t) := by
  have ls := hs.1.2.2
  have lt := ht.1.2.2
  refine ⟨?_, fun b hb => ?_⟩
  · rw [cmpB, foldB_length]
    have h1 := rest_len s t t.length
    have h2 := cmpA_len s t s.length
    rw [List.take_length] at h1 h2
    omega
  · rw [cmpB, foldB_mem] at hb
    rcases hb with hb | hb
    · have hb' := (List.mem_filter.1 hb).1
      have h1 := good_sz (ht.good b hb')
      have h2 := ht.nodes b hb'
      omega
    · obtain ⟨hb, _⟩ := List.mem_filter.1 hb
      obtain ⟨x, hx, rfl⟩ := List.mem_map.1 hb
      have h1 := good_sz (putT_good ht.good x.t.nodes x.t (Nat.le_refl _) (hs.good x hx))
      have h2 := hf x hx
      show (putT t x.t).sz ≤ 1048575
      omega

set_option maxRecDepth 100000 in
set_option maxHeartbeats 16000000 in
theorem specCompose_any (s t : List Bd) (Vs Vt : Value) (w : World) (hA : ListS bdE w Any Vs s) (hE : EachB s) (hT : ListS bdE w Any Vt t) (hF : EachB t) :
    Calls Try.prog 31 #[Vs, Vt] w (OldB2 (coL s t) (coB s t) w) := by
  obtain ⟨i0, hi, hz0, hz1, hz2⟩ := info_parts infoBinding
  have HII := Lib.hid (And.intro hi (And.intro hz0 (And.intro hz1 hz2)))
  obtain ⟨a, cap, rfl⟩ := hA.slice
  obtain ⟨ta, tc, rfl⟩ := hT.slice
  have hL : s.length ≤ 1048576 := hE.1
  have hLt : t.length ≤ 1048576 := hF.1
  have HA := Lib.hid hA.lowB
  have HT := Lib.hid hT.lowB
  have HNO := Lib.hid (fun (h : ¬ CompP s t) => co_no h)
  have HYES := Lib.hid (fun (h : CompP s t) => co_yes h)
  generalize coL s t = r at HYES HNO ⊢
  generalize coB s t = rb at HYES HNO ⊢
  have HC := Lib.hid (specSubstOk_any s _ w hA hE)
  clear hA hT hi hz0 hz1 hz2
  go_enter Try.func31, Try.ntmps31
  go_wp2_with fail
  refine HC.out.mono ?_
  rintro e w0 ⟨rfl, hb⟩
  have HW := Lib.hid hb
  clear hb HC
  cases hs : substB s with
  | false =>
    obtain ⟨rfl, rfl⟩ := HNO.out fun h => substB_false.1 hs h.1
    clear hs
    go_wp2
    go_ret2
    exact ⟨_, rfl, .nil _ _, HW.out⟩
  | true =>
  have HSP := Lib.hid (substB_true.1 hs)
  have HC := Lib.hid (specSubstOk_any t _ w0 (HT.out.any.kept HW.out) hF)
  clear hs
  go_wp2_with fail
  refine HC.out.mono ?_
  rintro e w1 ⟨rfl, hb⟩
  have HW1 := Lib.hid (belowOn HW.out (Nat.le_refl _) hb)
  clear hb HC HW
  cases ht : substB t with
  | false =>
    obtain ⟨rfl, rfl⟩ := HNO.out fun h => substB_false.1 ht h.2.1
    clear ht
    go_wp2
    go_ret2
    exact ⟨_, rfl, .nil _ _, HW1.out⟩
  | true =>
  have HTP := Lib.hid (substB_true.1 ht)
  have hls : s.length ≤ 400 := HSP.out.1.2.2
  have hlt4 : t.length ≤ 400 := HTP.out.1.2.2
  have hw1z : w.heap.size ≤ w1.heap.size := HW1.out.size
  have HR0 : Hid (RowK bdE 60 (w1.alloc (.cells #[] 60)) w.heap.size (.slice (some ⟨w1.heap.size, 0, none⟩) 0 0) []) := Lib.hid
    ⟨[], rfl, ⟨by simp [cellsE], .inr ⟨w1.heap.size, 0, #[], rfl, hw1z, heap_new w1 _, Nat.le_refl _, Nat.zero_le _, by simp, by simp [cellsE]⟩⟩, fun j p hj => by simp at hj⟩
  have HW2 : Hid (Below w.heap.size w (w1.alloc (.cells #[] 60))) := Lib.hid (HW1.out.alloc hw1z _)
  clear ht
  go_wp2
  go_loopw [6, 26] (fun lv iv wr => ∃ (k : Nat) (g c : Nat), k ≤ s.length ∧ iv = .int .i64 k ∧ lv = .slice (some ⟨g, 0, none⟩) (cmpA (s.take k) t).length c ∧ Hid (RowK bdE 60 wr w.heap.size lv (cmpA (s.take k) t)) ∧ Hid (∀ (i : Nat) (b : Bd), i < k → s[i]? = some b → (putT t b.t).nodes ≤ 5000) ∧ Hid (Below w.heap.size w wr)) (fun _ iv _ => s.length - (intOf iv).toNat)
  case atStart => exact ⟨0, w1.heap.size, 0, Nat.zero_le _, rfl, rfl, HR0, Lib.hid (fun i b hi => absurd hi (Nat.not_lt_zero _)), HW2⟩
  case round =>
    obtain ⟨k, og, oc, hk, rfl, rfl, HO, HN, HB⟩ := hrel
    clear HR0 HW1 HW2 hw1z
    obtain ⟨m, hm⟩ : ∃ m, m = (cmpA (s.take k) t).length := ⟨_, rfl⟩
    have hmk : m ≤ 1048576 := by have := cmpA_len s t k; omega
    rw [← hm] at HO ⊢
    have HM := Lib.hid hm
    clear hm
    by_cases hlt : k < s.length
    · have hltI : (k : Int) < (s.length : Int) := by omega
      obtain ⟨x, hx⟩ : ∃ x, s[k]? = some x := ⟨_, List.getElem?_eq_getElem hlt⟩
      obtain ⟨g, off, u1, u2, rfl, hg, hq, hc, hu⟩ := HA.out.bd hx
      obtain ⟨d0, d1, d2, d3, d4⟩ := hc wr HB.out
      have HX := Lib.hid hx
      have HXO := Lib.hid (HSP.out.1.1 k x hx)
      have HFX := Lib.hid (putT_fine HTP.out (HSP.out.1.1 k x hx).2)
      have HU := Lib.hid (hu.kept HB.out)
      have hxz : x.t.sz ≤ 1048576 := by have := hE.2 x (List.mem_of_getElem? hx); omega
      clear hq hc hu hx
      go_upto_region 7 with (fail)
      have hal : Below wr.heap.size wr (wr.alloc (.cells #[.int .i64 x.v, .int .i64 x.t.kind, .int .i64 x.t.num, .string x.t.name, .slice u1 x.t.args.length u2] 60)) := belowAlloc (Below.refl _ _) _
      have HBX := Lib.hid (at_box_of wr #[.int .i64 x.v, .int .i64 x.t.kind, .int .i64 x.t.num, .string x.t.name, .slice u1 x.t.args.length u2] 60 wr.heap.size rfl)
      have HO1 := Lib.hid (HO.out.kept hal)
      have HB1 := Lib.hid (belowOn HB.out (Nat.le_refl _) hal)
      have HU1 := Lib.hid (HU.out.kept hal)
      clear hal d0 d1 d2 d3 d4 HB HU HO
      generalize hw1 : wr.alloc (.cells #[.int .i64 x.v, .int .i64 x.t.kind, .int .i64 x.t.num, .string x.t.name, .slice u1 x.t.args.length u2] 60) = w2 at HBX HB1 HU1 HO1 ⊢
      clear hw1
      generalize wr.heap.size = nb at HBX ⊢
      obtain ⟨e0, e1, e2, e3, e4, ef⟩ := box_cells5 HBX.out.now
      have HQ := Lib.hid (specApply4_any t x.t _ _ (fun j => j < w.heap.size) w2 HTP.out HXO.out.2 hLt (fun j hj => Nat.lt_of_lt_of_le hj HB1.out.size) (HT.out.kept HB1.out) HU1.out hxz)
      generalize hr2 : putT t x.t = y at HQ HFX
      have HY := Lib.hid hr2
      clear hr2
      go_wp2_with fail
      refine HQ.out.mono ?_
      rintro e w3 ⟨v, rfl, hv, hb⟩
      obtain ⟨qa, qc, rfl⟩ := hv.at.slice
      have hal : Below w3.heap.size w3 (w3.alloc (.cells #[.int .i64 y.kind, .int .i64 y.num, .string y.name, .slice qa y.args.length qc] 31)) := belowAlloc (Below.refl _ _) _
      have HP2 := Lib.hid (hv.kept hal)
      have HT2 := Lib.hid (at_box_of w3 #[.int .i64 y.kind, .int .i64 y.num, .string y.name, .slice qa y.args.length qc] 31 w3.heap.size rfl)
      have HO2 := Lib.hid ((HO1.out.kept hb).kept hal)
      have HB2 := Lib.hid (belowOn HB1.out (Nat.le_refl _) (belowOn hb (Nat.le_refl _) hal))
      have HBX2 := Lib.hid ((HBX.out.read hb).read hal)
      have HNE := Lib.hid (rowK_block HO1.out)
      have hz12 : w3.heap.size ≤ (w3.alloc (.cells #[.int .i64 y.kind, .int .i64 y.num, .string y.name, .slice qa y.args.length qc] 31)).heap.size := by simp
      have HZ12 := Lib.hid hz12
      have HWZ2 := Lib.hid HB1.out.size
      clear hv hb hal HQ HB1 HBX HU1 HO1 hz12 e0 e1 e2 e3 e4 ef
      go_upto_region 8 with (fail)
      generalize hw1 : w3.alloc (.cells #[.int .i64 y.kind, .int .i64 y.num, .string y.name, .slice qa y.args.length qc] 31) = w4 at HP2 HT2 HO2 HB2 HBX2 HZ12 ⊢
      clear hw1
      generalize hn3 : w3.heap.size = n3 at HT2 HP2 HZ12 ⊢
      obtain ⟨e0, e1, e2, e3, e4, ef⟩ := box_cells5 HBX2.out.now
      obtain ⟨b0, b1, b2, b3, _⟩ := box_cells HT2.out.now
      have HN3 := Lib.hid hn3
      clear hn3
      cases h2 : decide (y.nodes ≤ 5000) with
      | false =>
        obtain ⟨rfl, rfl⟩ := HNO.out fun h => by
          have := h.2.2.1 x (List.mem_of_getElem? HX.out)
          rw [HY.out] at this
          exact of_decide_eq_false h2 this
        clear h2
        go_wp2
        go_ret2
        exact ⟨_, rfl, .nil _ _, HB2.out⟩
      | true =>
        have HD2 := Lib.hid (of_decide_eq_true h2)
        have HNN : Hid (∀ (i : Nat) (b : Bd), i < k + 1 → s[i]? = some b → (putT t b.t).nodes ≤ 5000) := Lib.hid fun i b hi hb => by
          by_cases q : i = k
          · subst q
            cases hb.symm.trans HX.out
            rw [HY.out]; exact HD2.out
          · exact HN.out i b (by omega) hb
        have HMY : Hid (mapped t x = ⟨x.v, y⟩) := Lib.hid (by unfold mapped; rw [HY.out])
        clear h2
        by_cases hself : y.kind = 1 ∧ y.num = x.v
        · have HK : Hid (cmpA (s.take (k + 1)) t = cmpA (s.take k) t) := Lib.hid (cmpA_not HX.out (by rw [HMY.out]; exact decide_eq_true hself))
          have g1 : (y.kind == 1) = true := by rw [hself.1]; rfl
          have g1' : (y.kind != 1) = false := by rw [hself.1]; rfl
          have g2 : (y.num == x.v) = true := by rw [hself.2]; exact beq_self_eq_true _
          have g2' : (y.num != x.v) = false := by rw [hself.2]; exact bne_self_eq_false _
          clear hself
          go_wp2
          go_roundw
          case rel => exact ⟨k + 1, og, oc, by omega, by go_num, by rw [HK.out, ← HM.out], Lib.hid (by rw [HK.out]; exact HO2.out), HNN, HB2⟩
          case measure => simp [intOf]; omega
        · have HK : Hid (cmpA (s.take (k + 1)) t = cmpA (s.take k) t ++ [⟨x.v, y⟩]) := Lib.hid (by rw [cmpA_yes HX.out (by rw [HMY.out]; exact decide_eq_false hself), HMY.out])
          have HCS : (((y.kind == 1) = false ∧ (y.kind != 1) = true) ∨ ((y.kind == 1) = true ∧ (y.kind != 1) = false ∧ (y.num == x.v) = false ∧ (y.num != x.v) = true)) := by
            by_cases q : y.kind = 1
            · have q2 : ¬ y.num = x.v := fun e => hself ⟨q, e⟩
              exact .inr ⟨by rw [q]; rfl, by rw [q]; rfl, beq_eq_false_iff_ne.2 q2, bne_iff_ne.2 q2⟩
            · exact .inl ⟨beq_eq_false_iff_ne.2 q, bne_iff_ne.2 q⟩
          obtain ⟨L, hL1, hrow, hch⟩ := HO2.out
          have hLn : m = L.length := by have := congrArg List.length hL1; rw [List.length_map, ← HM.out] at this; exact this
          rw [← hLn] at hrow
          have HROW := Lib.hid hrow
          have HPA := Lib.hid (And.intro hL1 (And.intro hLn hch))
          have hwz : w.heap.size ≤ w4.heap.size := HB2.out.size
          clear hL1 hLn hrow hch hself
          rcases HCS with ⟨g1, g1'⟩ | ⟨g1, g1', g2, g2'⟩
          all_goals
            go_wp2_with (at_builtin; refine wpList_append_lies _ rfl _ _ 25 rfl w.heap.size 60 i0 _ 5 64 Try.underlying25 HII.out.1 HII.out.2.1 HII.out.2.2.1 HII.out.2.2.2 rfl (by omega) (.slice (some ⟨og, 0, none⟩) m oc) m (cellsE bdE L) rfl (HROW.out.alloc _) ⟨w4.heap.size, 0, none⟩ 1 1 (bdE.cells ⟨x.v, y⟩ (.slice qa y.args.length qc)) rfl rfl (World.news_of_block (heap_alloc_new w4 _)) (by simp [bdE, Value.oneCell']) (by omega) (by unfold maxLen; omega) (by omega) (by simp; omega) (w4.heap.size + 1) (by simp) ?_; intro gg cap' w5 hown1 hgrow hat hlt1; have HAP := Lib.hid (And.intro hown1 (And.intro hgrow (And.intro hat hlt1))); clear hown1 hgrow hat hlt1)
            have HBF := Lib.hid ((belowAlloc HB2.out (.cells #[.int .i64 x.v, .int .i64 y.kind, .int .i64 y.num, .string y.name, .slice qa y.args.length qc] 60)).trans (below_of_grown HAP.out.2.1 (by simp; omega) (fun j hj => (HNE.out j hj).1)))
            have HNR : Hid (RowK bdE 60 w5 w.heap.size (.slice (some ⟨gg, 0, none⟩) (m + 1) cap') (cmpA (s.take (k + 1)) t)) := Lib.hid (by
              have h := rowK_append (E := bdE) (x := ⟨x.v, y⟩) HPA.out.2.1 HROW.out HPA.out.2.2 HP2.out (fun b hb => ⟨by rcases hb with hb | hb
                                                                                                                         · have h1 : b < w.heap.size := hb; omega
                                                                                                                         · have := HZ12.out; omega, fun e => by
                                                                                                                          have h1 := HNE.out b e
                                                                                                                          rcases hb with hb | hb
                                                                                                                          · have h2 : b < w.heap.size := hb; omega
                                                                                                                          · omega⟩) (belowAlloc (Below.refl _ _) _) HAP.out.1 HAP.out.2.1 (HAP.out.2.2.1.imp id (fun h => by omega))
              rw [← HPA.out.1, ← HK.out] at h
              exact h)
            have HML : Hid ((cmpA (s.take (k + 1)) t).length = m + 1) := Lib.hid (by rw [HK.out, List.length_append, ← HM.out]; rfl)
            clear HAP HPA HROW HP2 e0 e1 e2 e3 e4 ef b0 b1 b2 b3
            go_wp2
            go_roundw
            case rel => exact ⟨k + 1, gg, cap', by omega, by go_num, by rw [HML.out], HNR, HNN, HBF⟩
            case measure => simp [intOf]; omega
    · obtain rfl : k = s.length := by omega
      have HFT : Hid (∀ b ∈ s, (putT t b.t).nodes ≤ 5000) := Lib.hid fun b hb => by
        obtain ⟨i, hi⟩ := List.getElem?_of_mem hb
        exact HN.out i b (List.getElem?_eq_some_iff.1 hi).1 hi
      have HO1 : Hid (RowK bdE 60 wr w.heap.size (.slice (some ⟨og, 0, none⟩) m oc) (cmpA s t)) := Lib.hid (by have := HO.out; rw [List.take_length] at this; exact this)
      have HM1 : Hid (m = (cmpA s t).length) := Lib.hid (by have := HM.out; rw [List.take_length] at this; exact this)
      have HEC := Lib.hid (cmpB_each HSP.out HTP.out HFT.out)
      clear HO HM HN
      obtain ⟨wo, rfl⟩ : ∃ wo : World, wo = wr := ⟨_, rfl⟩
      go_wp2
      go_loopw [6, 59] (fun lv iv wq => ∃ (j : Nat) (g c : Nat), j ≤ t.length ∧ iv = .int .i64 j ∧ lv = .slice (some ⟨g, 0, none⟩) ((rest s (t.take j)).foldl insB (cmpA s t)).length c ∧ Hid (RowK bdE 60 wq w.heap.size lv ((rest s (t.take j)).foldl insB (cmpA s t))) ∧ Hid (Below w.heap.size w wq)) (fun _ iv _ => t.length - (intOf iv).toNat)
      case atStart => exact ⟨0, og, oc, Nat.zero_le _, rfl, by rw [HM1.out]; rfl, HO1, HB⟩
      case round =>
        obtain ⟨j, pg, pc, hj, rfl, rfl, HP, HQ⟩ := hrel
        obtain ⟨q, hq⟩ : ∃ q, q = (rest s (t.take j)).foldl insB (cmpA s t) := ⟨_, rfl⟩
        have hql : q.length ≤ 1048575 := by
          rw [hq, foldB_length]
          have h1 := rest_len s t j
          have h2 := cmpA_len s t s.length
          rw [List.take_length] at h2
          omega
        rw [← hq] at HP ⊢
        have HQE := Lib.hid hq
        clear hq HO1 HB HM1
        by_cases hjt : j < t.length
        · have hjI : (j : Int) < (t.length : Int) := by omega
          obtain ⟨x, hx⟩ : ∃ x, t[j]? = some x := ⟨_, List.getElem?_eq_getElem hjt⟩
          obtain ⟨g, off, u1, u2, rfl, hg, hqq, hc, hu⟩ := HT.out.bd hx
          obtain ⟨d0, d1, d2, d3, d4⟩ := hc wr HQ.out
          have HX := Lib.hid hx
          have HU := Lib.hid (hu.kept HQ.out)
          clear hqq hc hu hx
          go_upto_region 16 with (fail)
          have hal : Below wr.heap.size wr (wr.alloc (.cells #[.int .i64 x.v, .int .i64 x.t.kind, .int .i64 x.t.num, .string x.t.name, .slice u1 x.t.args.length u2] 60)) := belowAlloc (Below.refl _ _) _
          have HBX := Lib.hid (at_box_of wr #[.int .i64 x.v, .int .i64 x.t.kind, .int .i64 x.t.num, .string x.t.name, .slice u1 x.t.args.length u2] 60 wr.heap.size rfl)
          have HP1 := Lib.hid (HP.out.kept hal)
          have HQ1 := Lib.hid (belowOn HQ.out (Nat.le_refl _) hal)
          have HU1 := Lib.hid (HU.out.kept hal)
          clear hal d0 d1 d2 d3 d4 HQ HU HP
          generalize hw1 : wr.alloc (.cells #[.int .i64 x.v, .int .i64 x.t.kind, .int .i64 x.t.num, .string x.t.name, .slice u1 x.t.args.length u2] 60) = w2 at HBX HQ1 HU1 HP1 ⊢
          clear hw1
          generalize wr.heap.size = nb at HBX ⊢
          obtain ⟨e0, e1, e2, e3, e4, ef⟩ := box_cells5 HBX.out.now
          have HG := Lib.hid (specGet_any s _ x.v Any w2 (HA.out.any.kept HQ1.out) hL)
          go_wp2_with fail
          refine HG.out.mono ?_
          rintro e w3 ⟨v, rfl, hv, hb⟩
          obtain ⟨va, vc, rfl⟩ := hv.at.slice
          have hal : Below w3.heap.size w3 (w3.alloc (.cells #[.int .i64 (getT s x.v).kind, .int .i64 (getT s x.v).num, .string (getT s x.v).name, .slice va (getT s x.v).args.length vc] 31)) := belowAlloc (Below.refl _ _) _
          have HP3 := Lib.hid ((HP1.out.kept hb).kept hal)
          have HQ3 := Lib.hid (belowOn HQ1.out (Nat.le_refl _) (belowOn hb (Nat.le_refl _) hal))
          have HU3 := Lib.hid ((HU1.out.kept hb).kept hal)
          have HBX3 := Lib.hid ((HBX.out.read hb).read hal)
          clear hv hb hal HG HP1 HQ1 HU1 HBX e0 e1 e2 e3 e4 ef
          go_upto_region 17 with (fail)
          generalize hw1 : w3.alloc (.cells #[.int .i64 (getT s x.v).kind, .int .i64 (getT s x.v).num, .string (getT s x.v).name, .slice va (getT s x.v).args.length vc] 31) = w4 at HP3 HQ3 HU3 HBX3 ⊢
          clear hw1
          obtain ⟨e0, e1, e2, e3, e4, ef⟩ := box_cells5 HBX3.out.now
          cases hgb : getB s x.v with
          | true =>
            have HK := Lib.hid (rest_not HX.out hgb (cmpA s t))
            clear hgb
            go_wp2
            go_roundw
            case rel => exact ⟨j + 1, pg, pc, by omega, by go_num, by rw [HK.out, ← HQE.out], Lib.hid (by rw [HK.out, ← HQE.out]; exact HP3.out), HQ3⟩
            case measure => simp [intOf]; omega
          | false =>
            have HK := Lib.hid (restB_yes HX.out hgb (cmpA s t))
            have HI := Lib.hid (specInsert_any q pg pc w.heap.size x _ _ w4 HP3.out HU3.out (by omega))
            clear hgb
            go_wp2_with fail
            refine HI.out.mono ?_
            rintro e w5 ⟨v5, rfl, hr5, hb⟩
            have h1 : 0 < (insB q x).length := by rw [insB_length]; omega
            obtain ⟨g5, c5, rfl⟩ := hr5.some h1
            have HR5 : Hid (RowK bdE 60 w5 w.heap.size (.slice (some ⟨g5, 0, none⟩) (insB q x).length c5) (insB q x)) := Lib.hid (hr5.rowK (by have := HQ3.out.size; omega) (by have := hr5.size h1; omega))
            have HQ5 := Lib.hid (belowOn HQ3.out (Nat.le_refl _) hb)
            clear hr5 hb h1 HI e0 e1 e2 e3 e4 ef
            go_wp2
            go_roundw
            case rel => exact ⟨j + 1, g5, c5, by omega, by go_num, by rw [HK.out, ← HQE.out], Lib.hid (by rw [HK.out, ← HQE.out]; exact HR5.out), HQ5⟩
            case measure => simp [intOf]; omega
        · obtain rfl : j = t.length := by omega
          have HQB : Hid (q = cmpB s t) := Lib.hid (by rw [HQE.out, List.take_length]; rfl)
          have HS := Lib.hid (specSubstOk_any q _ wr HP.out.inS (by rw [HQB.out]; exact HEC.out))
          go_wp2_with fail
          refine HS.out.mono ?_
          rintro e w2 ⟨rfl, hb⟩
          have HQ2 := Lib.hid (belowOn HQ.out (Nat.le_refl _) hb)
          have HL2 := Lib.hid (HP.out.inS.kept hb)
          clear hb HS
          cases hs : substB q with
          | false =>
            obtain ⟨rfl, rfl⟩ := HNO.out fun h => by
              have := h.2.2.2
              rw [← HQB.out] at this
              exact substB_false.1 hs this
            clear hs
            go_wp2
            go_ret2
            exact ⟨_, rfl, .nil _ _, HQ2.out⟩
          | true =>
            obtain ⟨rfl, rfl⟩ := HYES.out ⟨HSP.out, HTP.out, HFT.out, by rw [← HQB.out]; exact substB_true.1 hs⟩
            have HC := Lib.hid (specCopyB_any q _ w2 HL2.out (by rw [HQB.out]; exact HEC.out))
            clear hs
            go_wp2_with fail
            refine HC.out.mono ?_
            rintro e w3 ⟨v, rfl, hv, hb⟩
            have HQ3 := Lib.hid (belowOn HQ2.out (Nat.le_refl _) hb)
            have HV3 := Lib.hid hv
            clear hv hb HC
            go_wp2
            go_ret2
            exact ⟨_, rfl, by rw [← HQB.out]; exact HV3.out, HQ3.out⟩
end Go.Proofs.Ytnbnepeikdieaaa

namespace Go.Proofs.Ytnbnepeikdieaaa
open Go.RowKit
set_option linter.unusedVariables false
set_option linter.unusedSimpArgs false

set_option maxHeartbeats 400000 in
theorem specSame_any (a b : Tm) (Va Vb : Value) (w : World) (hA : ArgsAt w Va a.args) (hB : ArgsAt w Vb b.args) (hZa : a.sz ≤ 1048576) (hZb : b.sz ≤ 1048576) :
    Calls Try.prog 67 #[.agg #[.int .i64 a.kind, .int .i64 a.num, .string a.name, Va], .agg #[.int .i64 b.kind, .int .i64 b.num, .string b.name, Vb]] w fun e w' => e = .returned (.bool (a.cmp b == 0)) ∧ Below w.heap.size w w' := by
  obtain ⟨aa, ca, rfl⟩ := hA.slice
  obtain ⟨ab, cb, rfl⟩ := hB.slice
  have hal : Below w.heap.size w ((w.alloc (.cells #[.int .i64 a.kind, .int .i64 a.num, .string a.name, .slice aa a.args.length ca] 31)).alloc (.cells #[.int .i64 b.kind, .int .i64 b.num, .string b.name, .slice ab b.args.length cb] 31)) := belowAlloc (belowAlloc (Below.refl _ _) _) _
  have HC := Lib.hid (specCmp_any (a.nodes + 1) a b _ _ _ (Nat.lt_succ_self _) (hA.kept hal) (hB.kept hal) hZa hZb)
  have HW := Lib.hid hal
  clear hal hA hB
  go_enter Try.func67, Try.ntmps67
  go_wp2_with fail
  refine HC.out.mono ?_
  rintro e w1 ⟨rfl, hb⟩
  have HB := Lib.hid (belowOn HW.out (Nat.le_refl _) hb)
  clear hb HC
  go_wp2
  go_ret
  exact ⟨rfl, HB.out⟩

def varTm (v : Int) : Tm := .mk 1 v ⟨#[]⟩ []
/-- The equation of one binding holds under t. -/
def EqnP (t : List Bd) (b : Bd) : Prop := (putT t (varTm b.v)).nodes ≤ 5000 ∧ (putT t b.t).nodes ≤ 5000 ∧ ((putT t (varTm b.v)).cmp (putT t b.t) == 0) = true
def MoreP (s t : List Bd) : Prop := SubstP s ∧ SubstP t ∧ ∀ b ∈ s, EqnP t b
open Classical in
noncomputable def moreB (s t : List Bd) : Bool := decide (MoreP s t)
open Classical in
theorem more_true {s t : List Bd} : moreB s t = true ↔ MoreP s t := by simp [moreB]
open Classical in
theorem more_false {s t : List Bd} : moreB s t = false ↔ ¬ MoreP s t := by simp [moreB]
theorem varTm_ok {v : Int} (h : 0 ≤ v ∧ v ≤ 100000) : Ok (varTm v) := ⟨by rw [nodes_eq]; show 1 + nodesL [] ≤ 5000; rw [nodesL_nil]; decide, .var v h.1 h.2⟩

set_option maxRecDepth 100000 in
set_option maxHeartbeats 8000000 in
theorem specMore_any (s t : List Bd) (Vs Vt : Value) (w : World) (hA : ListS bdE w Any Vs s) (hE : EachB s) (hT : ListS bdE w Any Vt t) (hF : EachB t) :
    Calls Try.prog 33 #[Vs, Vt] w fun e w' => e = .returned (.bool (moreB s t)) ∧ Below w.heap.size w w' := by
  obtain ⟨a, cap, rfl⟩ := hA.slice
  obtain ⟨ta, tc, rfl⟩ := hT.slice
  have hL : s.length ≤ 1048576 := hE.1
  have hLt : t.length ≤ 1048576 := hF.1
  have HA := Lib.hid hA.lowB
  have HT := Lib.hid hT.lowB
  have HNO := Lib.hid (fun (h : ¬ MoreP s t) => more_false.2 h)
  have HYES := Lib.hid (fun (h : MoreP s t) => more_true.2 h)
  generalize moreB s t = r at HYES HNO ⊢
  have HC := Lib.hid (specSubstOk_any s _ w hA hE)
  clear hA hT
  go_enter Try.func33, Try.ntmps33
  go_wp2_with fail
  refine HC.out.mono ?_
  rintro e w0 ⟨rfl, hb⟩
  have HW := Lib.hid hb
  clear hb HC
  cases hs : substB s with
  | false =>
    obtain rfl := HNO.out fun h => substB_false.1 hs h.1
    clear hs
    go_wp2
    go_ret
    exact ⟨rfl, HW.out⟩
  | true =>
  have HSP := Lib.hid (substB_true.1 hs)
  have HC := Lib.hid (specSubstOk_any t _ w0 (HT.out.any.kept HW.out) hF)
  clear hs
  go_wp2_with fail
  refine HC.out.mono ?_
  rintro e w1 ⟨rfl, hb⟩
  have HW1 := Lib.hid (belowOn HW.out (Nat.le_refl _) hb)
  clear hb HC HW
  cases ht : substB t with
  | false =>
    obtain rfl := HNO.out fun h => substB_false.1 ht h.2.1
    clear ht
    go_wp2
    go_ret
    exact ⟨rfl, HW1.out⟩
  | true =>
  have HTP := Lib.hid (substB_true.1 ht)
  clear ht
  go_wp2
  go_loopw [21] (fun iv wr => ∃ k : Nat, k ≤ s.length ∧ iv = .int .i64 k ∧ Hid (∀ (i : Nat) (b : Bd), i < k → s[i]? = some b → EqnP t b) ∧ Hid (Below w.heap.size w wr)) (fun iv _ => s.length - (intOf iv).toNat)
  case atStart => exact ⟨0, Nat.zero_le _, rfl, Lib.hid (fun i b hi => absurd hi (Nat.not_lt_zero _)), HW1⟩
  case round =>
    obtain ⟨k, hk, rfl, HN, HB⟩ := hrel
    clear HW1
    by_cases hlt : k < s.length
    · have hltI : (k : Int) < (s.length : Int) := by omega
      obtain ⟨x, hx⟩ : ∃ x, s[k]? = some x := ⟨_, List.getElem?_eq_getElem hlt⟩
      obtain ⟨g, off, u1, u2, rfl, hg, hq, hc, hu⟩ := HA.out.bd hx
      obtain ⟨d0, d1, d2, d3, d4⟩ := hc wr HB.out
      have HX := Lib.hid hx
      have HXO := Lib.hid (HSP.out.1.1 k x hx)
      have HFV := Lib.hid (putT_fine HTP.out (varTm_ok (HSP.out.1.1 k x hx).1))
      have HFX := Lib.hid (putT_fine HTP.out (HSP.out.1.1 k x hx).2)
      have HU := Lib.hid (hu.kept HB.out)
      have hxz : x.t.sz ≤ 1048576 := by have := hE.2 x (List.mem_of_getElem? hx); omega
      clear hq hc hu hx
      go_upto_region 6 with (fail)
      have hal : Below wr.heap.size wr (wr.alloc (.cells #[.int .i64 x.v, .int .i64 x.t.kind, .int .i64 x.t.num, .string x.t.name, .slice u1 x.t.args.length u2] 60)) := belowAlloc (Below.refl _ _) _
      have HBX := Lib.hid (at_box_of wr #[.int .i64 x.v, .int .i64 x.t.kind, .int .i64 x.t.num, .string x.t.name, .slice u1 x.t.args.length u2] 60 wr.heap.size rfl)
      have HB1 := Lib.hid (belowOn HB.out (Nat.le_refl _) hal)
      have HU1 := Lib.hid (HU.out.kept hal)
      clear hal d0 d1 d2 d3 d4 HB HU
      generalize hw1 : wr.alloc (.cells #[.int .i64 x.v, .int .i64 x.t.kind, .int .i64 x.t.num, .string x.t.name, .slice u1 x.t.args.length u2] 60) = w2 at HBX HB1 HU1 ⊢
      clear hw1
      generalize wr.heap.size = nb at HBX ⊢
      obtain ⟨e0, e1, e2, e3, e4, ef⟩ := box_cells5 HBX.out.now
      have HV := Lib.hid (var_any x.v w2)
      go_wp2_with fail
      refine HV.out.mono ?_
      rintro e w3 ⟨rfl, hb⟩
      have HB3 := Lib.hid (belowOn HB1.out (Nat.le_refl _) hb)
      have HBX3 := Lib.hid (HBX.out.read hb)
      have HU3 := Lib.hid (HU1.out.kept hb)
      have HP := Lib.hid (specApply4_any t (varTm x.v) _ (.slice none 0 0) (fun j => j < w.heap.size) w3 HTP.out (varTm_ok HXO.out.1) hLt (fun j hj => Nat.lt_of_lt_of_le hj (belowOn HB1.out (Nat.le_refl _) hb).size) (HT.out.kept (belowOn HB1.out (Nat.le_refl _) hb)) (.nil _ _) (by show ByteArray.size ⟨#[]⟩ + szL [] ≤ 1048576; decide))
      clear hb HV HB1 HBX HU1 e0 e1 e2 e3 e4 ef
      generalize hr1 : putT t (varTm x.v) = r1 at HP HFV
      have HR1 := Lib.hid hr1
      clear hr1
      go_wp2_with fail
      refine HP.out.mono ?_
      rintro e w4 ⟨u, rfl, hu, hb⟩
      obtain ⟨pa, pc, rfl⟩ := hu.at.slice
      have hal : Below w4.heap.size w4 (w4.alloc (.cells #[.int .i64 r1.kind, .int .i64 r1.num, .string r1.name, .slice pa r1.args.length pc] 31)) := belowAlloc (Below.refl _ _) _
      have HP1 := Lib.hid (at_args (hu.at.kept hal))
      have HT1 := Lib.hid (at_box_of w4 #[.int .i64 r1.kind, .int .i64 r1.num, .string r1.name, .slice pa r1.args.length pc] 31 w4.heap.size rfl)
      have HB4 := Lib.hid (belowOn HB3.out (Nat.le_refl _) (belowOn hb (Nat.le_refl _) hal))
      have HBX4 := Lib.hid ((HBX3.out.read hb).read hal)
      have HU4 := Lib.hid ((HU3.out.kept hb).kept hal)
      clear hu hb hal HP HB3 HBX3 HU3
      go_upto_region 7 with (fail)
      generalize hw1 : w4.alloc (.cells #[.int .i64 r1.kind, .int .i64 r1.num, .string r1.name, .slice pa r1.args.length pc] 31) = w5 at HP1 HT1 HB4 HBX4 HU4 ⊢
      clear hw1
      generalize w4.heap.size = n1 at HT1 ⊢
      obtain ⟨e0, e1, e2, e3, e4, ef⟩ := box_cells5 HBX4.out.now
      have HQ := Lib.hid (specApply4_any t x.t _ _ (fun j => j < w.heap.size) w5 HTP.out HXO.out.2 hLt (fun j hj => Nat.lt_of_lt_of_le hj HB4.out.size) (HT.out.kept HB4.out) HU4.out hxz)
      generalize hr2 : putT t x.t = r2 at HQ HFX
      have HR2 := Lib.hid hr2
      clear hr2
      go_wp2_with fail
      refine HQ.out.mono ?_
      rintro e w6 ⟨v, rfl, hv, hb⟩
      obtain ⟨qa, qc, rfl⟩ := hv.at.slice
      have hal : Below w6.heap.size w6 (w6.alloc (.cells #[.int .i64 r2.kind, .int .i64 r2.num, .string r2.name, .slice qa r2.args.length qc] 31)) := belowAlloc (Below.refl _ _) _
      have HP2 := Lib.hid (at_args (hv.at.kept hal))
      have HT2 := Lib.hid (at_box_of w6 #[.int .i64 r2.kind, .int .i64 r2.num, .string r2.name, .slice qa r2.args.length qc] 31 w6.heap.size rfl)
      replace HP1 := Lib.hid ((HP1.out.read hb).read hal)
      replace HT1 := Lib.hid ((HT1.out.read hb).read hal)
      have HB6 := Lib.hid (belowOn HB4.out (Nat.le_refl _) (belowOn hb (Nat.le_refl _) hal))
      clear hv hb hal HQ HB4 HBX4 HU4 e0 e1 e2 e3 e4 ef
      go_upto_region 8 with (fail)
      generalize hw1 : w6.alloc (.cells #[.int .i64 r2.kind, .int .i64 r2.num, .string r2.name, .slice qa r2.args.length qc] 31) = w7 at HP1 HP2 HT1 HT2 HB6 ⊢
      clear hw1
      generalize w6.heap.size = n2 at HT2 ⊢
      cases h1 : decide (r1.nodes ≤ 5000) with
      | false =>
        obtain rfl := HNO.out fun h => by
          have := (h.2.2 x (List.mem_of_getElem? HX.out)).1
          rw [HR1.out] at this
          exact of_decide_eq_false h1 this
        clear h1
        go_wp2
        go_ret
        exact ⟨rfl, HB6.out⟩
      | true =>
        have HD1 := Lib.hid (of_decide_eq_true h1)
        clear h1
        cases h2 : decide (r2.nodes ≤ 5000) with
        | false =>
          obtain rfl := HNO.out fun h => by
            have := (h.2.2 x (List.mem_of_getElem? HX.out)).2.1
            rw [HR2.out] at this
            exact of_decide_eq_false h2 this
          clear h2
          go_wp2
          go_ret
          exact ⟨rfl, HB6.out⟩
        | true =>
          have HD2 := Lib.hid (of_decide_eq_true h2)
          have HSM := Lib.hid (specSame_any r1 r2 _ _ w7 HP1.out.argsAt HP2.out.argsAt (by have h1 := good_sz HFV.out.1; have := HD1.out; omega) (by have h1 := good_sz HFX.out.1; have := HD2.out; omega))
          obtain ⟨a0, a1, a2, a3, _⟩ := box_cells HT1.out.now
          obtain ⟨b0, b1, b2, b3, _⟩ := box_cells HT2.out.now
          clear h2
          go_wp2_with fail
          refine HSM.out.mono ?_
          rintro e w8 ⟨rfl, hb⟩
          have HB8 := Lib.hid (belowOn HB6.out (Nat.le_refl _) hb)
          clear hb HSM a0 a1 a2 a3 b0 b1 b2 b3
          cases hc : (r1.cmp r2 == 0) with
          | false =>
            obtain rfl := HNO.out fun h => by
              have := (h.2.2 x (List.mem_of_getElem? HX.out)).2.2
              rw [HR1.out, HR2.out, hc] at this
              cases this
            clear hc
            go_wp2
            go_ret
            exact ⟨rfl, HB8.out⟩
          | true =>
            have HEQ : Hid (EqnP t x) := Lib.hid (by unfold EqnP; rw [HR1.out, HR2.out]; exact ⟨HD1.out, HD2.out, hc⟩)
            clear hc
            go_wp2
            go_roundw
            case rel =>
              refine ⟨k + 1, by omega, by go_num, Lib.hid fun i y hi hy => ?_, HB8⟩
              by_cases q : i = k
              · subst q
                cases hy.symm.trans HX.out
                exact HEQ.out
              · exact HN.out i y (by omega) hy
            case measure => simp [intOf]; omega
    · obtain rfl : k = s.length := by omega
      obtain rfl := HYES.out ⟨HSP.out, HTP.out, fun b hb => by
        obtain ⟨i, hi⟩ := List.getElem?_of_mem hb
        exact HN.out i b (List.getElem?_eq_some_iff.1 hi).1 hi⟩
      go_wp2
      go_ret
      exact ⟨rfl, HB.out⟩
end Go.Proofs.Ytnbnepeikdieaaa

