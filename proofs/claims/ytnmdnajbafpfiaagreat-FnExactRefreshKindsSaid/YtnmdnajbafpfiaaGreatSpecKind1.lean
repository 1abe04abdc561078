/-
  One kind put into a list, plain, and the model's l10Kind. (Written by wip/tools/gen_speckind1.py.)
-/
import Derived.Test.YtnmdnajbafpfiaaGreatSpecKinds
import Derived.Test.YtnmdnajbafpfiaaGreatDemG
namespace Go.Proofs.YtnmdnajbafpfiaaGreat
open Go.RowKit
set_option linter.unusedVariables false
set_option linter.unusedSimpArgs false

def kpos (l : List Kd) (n : Int) : Nat := (l.takeWhile fun x => decide (x.v < n)).length
theorem kpos_of {l : List Kd} {n : Int} : ∀ {i : Nat}, i ≤ l.length → (∀ (j : Nat) (x : Kd), j < i → l[j]? = some x → x.v < n) → (∀ x, l[i]? = some x → ¬ x.v < n) → kpos l n = i := by
  induction l with
  | nil => intro i h1 _ _; simp at h1; subst h1; rfl
  | cons y l ih =>
    intro i h1 h2 h3
    cases i with
    | zero =>
      have h := h3 y rfl
      simp [kpos, List.takeWhile_cons, h]
    | succ i =>
      have h := h2 0 y (Nat.succ_pos _) rfl
      have hi := ih (i := i) (by simpa using h1) (fun j x hj hx => h2 (j + 1) x (Nat.succ_lt_succ hj) (by simpa using hx)) (fun x hx => h3 x (by simpa using hx))
      simp only [kpos, List.takeWhile_cons, h, decide_true, if_true, List.length_cons]
      exact congrArg (· + 1) hi
def insK (l : List Kd) (i : Nat) (x : Kd) : List Kd := l.take i ++ x :: l.drop i
/-- The list with a requirement more, and whether it can be. -/
def akR (l : List Kd) (t : Tm) (k : Int) : List Kd × Bool :=
  if t.kind = 1 then
    match l[kpos l t.num]? with
    | some x => if x.v = t.num then (l, x.k == k) else (insK l (kpos l t.num) ⟨t.num, k⟩, true)
    | none => (insK l (kpos l t.num) ⟨t.num, k⟩, true)
  else (l, t.kind == k)
theorem akR_other {l : List Kd} {t : Tm} {k : Int} (h : ¬ t.kind = 1) : akR l t k = (l, t.kind == k) := if_neg h
theorem akR_had {l : List Kd} {t : Tm} {k : Int} (h : t.kind = 1) {i : Nat} (hi : kpos l t.num = i) {x : Kd} (hx : l[i]? = some x) (he : x.v = t.num) : akR l t k = (l, x.k == k) := by
  rw [akR, if_pos h, hi, hx]; exact if_pos he
theorem akR_new {l : List Kd} {t : Tm} {k : Int} (h : t.kind = 1) {i : Nat} (hi : kpos l t.num = i) (hx : ∀ x, l[i]? = some x → ¬ x.v = t.num) : akR l t k = (insK l i ⟨t.num, k⟩, true) := by
  rw [akR, if_pos h, hi]
  cases e : l[i]? with
  | none => rfl
  | some x => exact if_neg (hx x e)

theorem kd_one (M : List (Kd × Value)) : ∀ u ∈ cellsE kdE M, u.oneCell' = true := by
  intro u hu
  simp only [cellsE, List.mem_flatMap] at hu
  obtain ⟨p, _, hp⟩ := hu
  simp only [kdE, List.mem_cons, List.not_mem_nil, or_false] at hp
  rcases hp with rfl | rfl <;> rfl
/-- The cells that a readable list holds, wherever it lies. -/
theorem ListS.kdCells {w : World} {S : Nat → Prop} {g off cap n : Nat} {l : List Kd} (h : ListS kdE w S (.slice (some ⟨g, off, none⟩) n cap) l) :
    ∃ L : List (Kd × Value), l = L.map Prod.fst ∧ ∀ W, Below w.heap.size w W → ∀ (j : Nat) (u : Value), (cellsE kdE L)[j]? = some u → W.cell? ⟨g, off + j, none⟩ = some u := by
  cases h with
  | nil => exact ⟨[], rfl, fun W _ j u hj => by simp [cellsE] at hj⟩
  | row g off n cap L l hl hn hS hg hc hr => exact ⟨L, hl, fun W hW j u hj => (hW.cell (p := ⟨g, off + j, none⟩) hg).trans (hc j u hj)⟩

def AkP (l : List Kd) (b : Bool) (w : World) (e : Ending) (w' : World) : Prop := ∃ u, e = .returned (.tuple #[u, .bool b]) ∧ ListS kdE w' Any u l ∧ CapOk u l.length ∧ Below w.heap.size w w'

set_option maxRecDepth 100000 in
set_option maxHeartbeats 16000000 in
theorem specKind1_any (l : List Kd) (V : Value) (t : Tm) (Vt : Value) (k : Int) (w : World) (hA : ListS kdE w Any V l) (hV : CapOk V l.length) (hT : ArgsAt w Vt t.args) (hL : l.length ≤ 1048577) :
    Calls Tryz.prog 37 #[V, .agg #[.int .i64 t.kind, .int .i64 t.num, .string t.name, Vt], .int .i64 k] w (AkP (akR l t k).1 (akR l t k).2 w) := by
  obtain ⟨g, off, cap, rfl, hcap, hcm⟩ := hV
  obtain ⟨i0, hi, hz0, hz1, hz2⟩ := info_parts infoVarKind
  have HII := Lib.hid (And.intro hi (And.intro hz0 (And.intro hz1 hz2)))
  obtain ⟨ta, tc, rfl⟩ := hT.slice
  obtain ⟨L, hLL, hcells⟩ := hA.kdCells
  have HCELL := Lib.hid hcells
  have HLL := Lib.hid hLL
  have HLN : Hid (L.length = l.length) := Lib.hid (by rw [hLL, List.length_map])
  have HA := Lib.hid hA
  clear hi hz0 hz1 hz2 hcells hLL hA hT
  have hal : Below w.heap.size w (w.alloc (.cells #[.int .i64 t.kind, .int .i64 t.num, .string t.name, .slice ta t.args.length tc] 38)) := belowAlloc (Below.refl _ _) _
  have HBX := Lib.hid (at_box_of w #[.int .i64 t.kind, .int .i64 t.num, .string t.name, .slice ta t.args.length tc] 38 w.heap.size rfl)
  have HW := Lib.hid hal
  have HOLD : Hid (∀ W, Below w.heap.size w W → AkP l (t.kind == k) w (.returned (.tuple #[.slice (some ⟨g, off, none⟩) l.length cap, .bool (t.kind == k)])) W) := Lib.hid fun W hW => ⟨_, rfl, HA.out.kept hW, ⟨g, off, cap, rfl, hcap, hcm⟩, hW⟩
  have HOLD2 : Hid (∀ W b, Below w.heap.size w W → AkP l b w (.returned (.tuple #[.slice (some ⟨g, off, none⟩) l.length cap, .bool b])) W) := Lib.hid fun W b hW => ⟨_, rfl, HA.out.kept hW, ⟨g, off, cap, rfl, hcap, hcm⟩, hW⟩
  have HNO : Hid (¬ t.kind = 1 → akR l t k = (l, t.kind == k)) := Lib.hid akR_other
  have HPOS : Hid (∀ i, i ≤ l.length → (∀ (j : Nat) (x : Kd), j < i → l[j]? = some x → x.v < t.num) → (∀ x, l[i]? = some x → ¬ x.v < t.num) → kpos l t.num = i) := Lib.hid fun i h1 h2 h3 => kpos_of h1 h2 h3
  have HHAD : Hid (t.kind = 1 → ∀ (i : Nat) (x : Kd), kpos l t.num = i → l[i]? = some x → x.v = t.num → akR l t k = (l, x.k == k)) := Lib.hid fun h i x h1 h2 h3 => akR_had h h1 h2 h3
  have HNEW : Hid (t.kind = 1 → ∀ (i : Nat), kpos l t.num = i → (∀ x, l[i]? = some x → ¬ x.v = t.num) → akR l t k = (insK l i ⟨t.num, k⟩, true)) := Lib.hid fun h i h1 h2 => akR_new h h1 h2
  generalize akR l t k = r at HNO HHAD HNEW ⊢
  go_enter Tryz.func37, Tryz.ntmps37
  go_upto_region 1 with (fail)
  generalize hw1 : w.alloc (.cells #[.int .i64 t.kind, .int .i64 t.num, .string t.name, .slice ta t.args.length tc] 38) = w1 at HBX HW hal ⊢
  clear hw1 hal
  obtain ⟨nb, hnb⟩ : ∃ n : Nat, n = w.heap.size := ⟨_, rfl⟩
  rw [← hnb] at HBX ⊢
  have HNB := Lib.hid hnb
  clear hnb
  obtain ⟨e0, e1, e2, e3⟩ := HBX.out.cells
  by_cases hk1 : t.kind = 1
  case neg =>
    obtain rfl := HNO.out hk1
    have q1 : (t.kind != 1) = true := by rw [bne_iff_ne]; exact hk1
    clear hk1 HNO HHAD HNEW
    have hself : Below w1.heap.size w1 w1 := Below.refl _ _
    have hdrew : Below w1.heap.size w1 w1.drew := hself.drew
    go_upto_region 2 with (fail)
    refine wp_region_held_drew (S := (fun w' => Below w1.heap.size w1 w' ∧ w'.cell? ⟨nb, 0, none⟩ = some (.int .i64 t.kind))) (by kernel_rfl) (by (try dsimp only); go_keep) (fun hHeld => ?_)
    (refine wpAnyH_take (i := 0) (oi := ⟨_, _, _, _, _, _⟩) (v := ?_) rfl (by kernel_rfl) (by kernel_rfl) (by kernel_rfl) (fun _ _ _ h => h) (Or.inl ⟨by rfl, ?_⟩) (by assumption) ?_; rotate_left; focus ((intro w' hSw; (try dsimp only at hSw); go_simp; (try with_reducible rfl)))); (try simp only [Act.put, List.setIfInBounds_toArray, List.set_cons_zero, List.set_cons_succ])
    (refine wpAnyH_take (i := 1) (oi := ⟨_, _, _, _, _, _⟩) (v := ?_) rfl (by kernel_rfl) (by kernel_rfl) (by kernel_rfl) (fun _ _ _ h => h) (Or.inl ⟨by rfl, ?_⟩) (by assumption) ?_; rotate_left; focus ((intro w' hSw; (try dsimp only at hSw); go_simp; (try with_reducible rfl)))); (try simp only [Act.put, List.setIfInBounds_toArray, List.set_cons_zero, List.set_cons_succ])
    (refine wpAnyH_take (i := 2) (oi := ⟨_, _, _, _, _, _⟩) (v := ?_) rfl (by kernel_rfl) (by kernel_rfl) (by kernel_rfl) (fun _ _ _ h => h) (Or.inl ⟨by rfl, ?_⟩) (by assumption) ?_; rotate_left; focus ((intro w' hSw; (try dsimp only at hSw); go_simp; (try with_reducible rfl)))); (try simp only [Act.put, List.setIfInBounds_toArray, List.set_cons_zero, List.set_cons_succ])
    (refine wpAnyH_take (i := 3) (oi := ⟨_, _, _, _, _, _⟩) (v := ?_) rfl (by kernel_rfl) (by kernel_rfl) (by kernel_rfl) (fun _ _ _ h => h) (Or.inl ⟨by rfl, ?_⟩) (by assumption) ?_; rotate_left; focus ((intro w' hSw; (try dsimp only at hSw); go_simp; (try with_reducible rfl)))); (try simp only [Act.put, List.setIfInBounds_toArray, List.set_cons_zero, List.set_cons_succ])
    (refine wpAnyH_take (i := 4) (oi := ⟨_, _, _, _, _, _⟩) (v := ?_) rfl (by kernel_rfl) (by kernel_rfl) (by kernel_rfl) (fun _ _ _ h => h) (Or.inl ⟨by rfl, ?_⟩) (by assumption) ?_; rotate_left; focus ((intro w' hSw; (try dsimp only at hSw); go_simp; (try with_reducible rfl)))); (try simp only [Act.put, List.setIfInBounds_toArray, List.set_cons_zero, List.set_cons_succ])
    (refine wpAnyH_take (i := 5) (oi := ⟨_, _, _, _, _, _⟩) (v := ?_) rfl (by kernel_rfl) (by kernel_rfl) (by kernel_rfl) (fun _ _ _ h => h) (Or.inl ⟨by rfl, ?_⟩) (by assumption) ?_; rotate_left; focus ((intro w' hSw; (try dsimp only at hSw); go_simp; (try with_reducible rfl)))); (try simp only [Act.put, List.setIfInBounds_toArray, List.set_cons_zero, List.set_cons_succ])
    (refine wpAnyH_take (i := 6) (oi := ⟨_, _, _, _, _, _⟩) (v := ?_) rfl (by kernel_rfl) (by kernel_rfl) (by kernel_rfl) (fun _ _ _ h => h) (Or.inl ⟨by rfl, ?_⟩) (by assumption) ?_; rotate_left; focus ((intro w' hSw; (try dsimp only at hSw); go_simp; (try with_reducible rfl)))); (try simp only [Act.put, List.setIfInBounds_toArray, List.set_cons_zero, List.set_cons_succ])
    refine wpAnyH_done (by kernel_rfl) ?_ _
    go_wp2
    go_ret2
    exact HOLD.out _ HW.out.drew
  have q1 : (t.kind != 1) = false := by rw [hk1]; rfl
  have HK1 := Lib.hid hk1
  clear hk1 HNO
  go_wp2
  clear e0 e1 e2 e3
  go_loopw [8] (fun iv wr => ∃ i : Nat, i ≤ l.length ∧ iv = .int .i64 i ∧ Hid (∀ (j : Nat) (x : Kd), j < i → l[j]? = some x → x.v < t.num) ∧ Hid (Below w1.heap.size w1 wr)) (fun iv _ => l.length - (intOf iv).toNat)
  case atStart => exact ⟨0, Nat.zero_le _, rfl, Lib.hid (fun j x hj => absurd hj (Nat.not_lt_zero _)), Lib.hid (Below.refl _ _)⟩
  case round =>
    obtain ⟨i, hi, rfl, HSC, HB⟩ := hrel
    have HWR : Hid (Below w.heap.size w wr) := Lib.hid (belowOn HW.out (Nat.le_refl _) HB.out)
    have HBR := Lib.hid (HBX.out.read HB.out)
    obtain ⟨e0, e1, e2, e3⟩ := HBR.out.cells
    have hi0 : (0 : Int) ≤ (i : Int) := by omega
    by_cases hlt : i < l.length
    · have hltI : (i : Int) < (l.length : Int) := by omega
      obtain ⟨x, hx⟩ : ∃ x, l[i]? = some x := ⟨_, List.getElem?_eq_getElem hlt⟩
      obtain ⟨g', off', he, hg, hq, hc⟩ := HA.out.kd hx
      simp only [Option.some.injEq, Addr.mk.injEq, and_true] at he
      obtain ⟨rfl, rfl⟩ := he
      obtain ⟨d0, d1⟩ := hc wr HWR.out
      have HX := Lib.hid hx
      have HD : Hid (∀ W, Below w.heap.size w W → W.cell? ⟨g, off + i * 2, none⟩ = some (.int .i64 x.v) ∧ W.cell? ⟨g, off + i * 2 + 1, none⟩ = some (.int .i64 x.k)) := Lib.hid hc
      clear hx hq hc
      have hself : Below wr.heap.size wr wr := Below.refl _ _
      have hdrew : Below wr.heap.size wr wr.drew := hself.drew
      by_cases hv : x.v < t.num
      · have HVL := Lib.hid hv
        go_upto_region 4 with (fail)
        refine wp_region_held_drew (S := (fun w' => Below wr.heap.size wr w' ∧ w'.cell? ⟨nb, 1, none⟩ = some (.int .i64 t.num) ∧ w'.cell? ⟨g, off + i * 2, none⟩ = some (.int .i64 x.v))) (by kernel_rfl) (by (try dsimp only); go_keep) (fun hHeld => ?_)
        (refine wpAnyH_take (i := 0) (oi := ⟨_, _, _, _, _, _⟩) (v := ?_) rfl (by kernel_rfl) (by kernel_rfl) (by kernel_rfl) (fun _ _ _ h => h) (Or.inl ⟨by rfl, ?_⟩) (by assumption) ?_; rotate_left; focus ((intro w' hSw; (try dsimp only at hSw); go_simp; (try with_reducible rfl)))); (try simp only [Act.put, List.setIfInBounds_toArray, List.set_cons_zero, List.set_cons_succ])
        (refine wpAnyH_take (i := 1) (oi := ⟨_, _, _, _, _, _⟩) (v := ?_) rfl (by kernel_rfl) (by kernel_rfl) (by kernel_rfl) (fun _ _ _ h => h) (Or.inl ⟨by rfl, ?_⟩) (by assumption) ?_; rotate_left; focus ((intro w' hSw; (try dsimp only at hSw); go_simp; (try with_reducible rfl)))); (try simp only [Act.put, List.setIfInBounds_toArray, List.set_cons_zero, List.set_cons_succ])
        (refine wpAnyH_take (i := 2) (oi := ⟨_, _, _, _, _, _⟩) (v := ?_) rfl (by kernel_rfl) (by kernel_rfl) (by kernel_rfl) (fun _ _ _ h => h) (Or.inl ⟨by rfl, ?_⟩) (by assumption) ?_; rotate_left; focus ((intro w' hSw; (try dsimp only at hSw); go_simp; (try with_reducible rfl)))); (try simp only [Act.put, List.setIfInBounds_toArray, List.set_cons_zero, List.set_cons_succ])
        (refine wpAnyH_take (i := 3) (oi := ⟨_, _, _, _, _, _⟩) (v := ?_) rfl (by kernel_rfl) (by kernel_rfl) (by kernel_rfl) (fun _ _ _ h => h) (Or.inl ⟨by rfl, ?_⟩) (by assumption) ?_; rotate_left; focus ((intro w' hSw; (try dsimp only at hSw); go_simp; (try with_reducible rfl)))); (try simp only [Act.put, List.setIfInBounds_toArray, List.set_cons_zero, List.set_cons_succ])
        (refine wpAnyH_take (i := 4) (oi := ⟨_, _, _, _, _, _⟩) (v := ?_) rfl (by kernel_rfl) (by kernel_rfl) (by kernel_rfl) (fun _ _ _ h => h) (Or.inl ⟨by rfl, ?_⟩) (by assumption) ?_; rotate_left; focus ((intro w' hSw; (try dsimp only at hSw); go_simp; (try with_reducible rfl)))); (try simp only [Act.put, List.setIfInBounds_toArray, List.set_cons_zero, List.set_cons_succ])
        (refine wpAnyH_take (i := 5) (oi := ⟨_, _, _, _, _, _⟩) (v := ?_) rfl (by kernel_rfl) (by kernel_rfl) (by kernel_rfl) (fun _ _ _ h => h) (Or.inl ⟨by rfl, ?_⟩) (by assumption) ?_; rotate_left; focus ((intro w' hSw; (try dsimp only at hSw); go_simp; (try with_reducible rfl)))); (try simp only [Act.put, List.setIfInBounds_toArray, List.set_cons_zero, List.set_cons_succ])
        (refine wpAnyH_take (i := 6) (oi := ⟨_, _, _, _, _, _⟩) (v := ?_) rfl (by kernel_rfl) (by kernel_rfl) (by kernel_rfl) (fun _ _ _ h => h) (Or.inl ⟨by rfl, ?_⟩) (by assumption) ?_; rotate_left; focus ((intro w' hSw; (try dsimp only at hSw); go_simp; (try with_reducible rfl)))); (try simp only [Act.put, List.setIfInBounds_toArray, List.set_cons_zero, List.set_cons_succ])
        (refine wpAnyH_take (i := 7) (oi := ⟨_, _, _, _, _, _⟩) (v := ?_) rfl (by kernel_rfl) (by kernel_rfl) (by kernel_rfl) (fun _ _ _ h => h) (Or.inl ⟨by rfl, ?_⟩) (by assumption) ?_; rotate_left; focus ((intro w' hSw; (try dsimp only at hSw); go_simp; (try with_reducible rfl)))); (try simp only [Act.put, List.setIfInBounds_toArray, List.set_cons_zero, List.set_cons_succ])
        (refine wpAnyH_take (i := 8) (oi := ⟨_, _, _, _, _, _⟩) (v := ?_) rfl (by kernel_rfl) (by kernel_rfl) (by kernel_rfl) (fun _ _ _ h => h) (Or.inl ⟨by rfl, ?_⟩) (by assumption) ?_; rotate_left; focus ((intro w' hSw; (try dsimp only at hSw); go_simp; (try with_reducible rfl)))); (try simp only [Act.put, List.setIfInBounds_toArray, List.set_cons_zero, List.set_cons_succ])
        (refine wpAnyH_take (i := 9) (oi := ⟨_, _, _, _, _, _⟩) (v := ?_) rfl (by kernel_rfl) (by kernel_rfl) (by kernel_rfl) (fun _ _ _ h => h) (Or.inl ⟨by rfl, ?_⟩) (by assumption) ?_; rotate_left; focus ((intro w' hSw; (try dsimp only at hSw); go_simp; (try with_reducible rfl)))); (try simp only [Act.put, List.setIfInBounds_toArray, List.set_cons_zero, List.set_cons_succ])
        (refine wpAnyH_take (i := 10) (oi := ⟨_, _, _, _, _, _⟩) (v := ?_) rfl (by kernel_rfl) (by kernel_rfl) (by kernel_rfl) (fun _ _ _ h => h) (Or.inl ⟨by rfl, ?_⟩) (by assumption) ?_; rotate_left; focus ((intro w' hSw; (try dsimp only at hSw); go_simp; (try with_reducible rfl)))); (try simp only [Act.put, List.setIfInBounds_toArray, List.set_cons_zero, List.set_cons_succ])
        (refine wpAnyH_take (i := 11) (oi := ⟨_, _, _, _, _, _⟩) (v := ?_) rfl (by kernel_rfl) (by kernel_rfl) (by kernel_rfl) (fun _ _ _ h => h) (Or.inl ⟨by rfl, ?_⟩) (by assumption) ?_; rotate_left; focus ((intro w' hSw; (try dsimp only at hSw); go_simp; (try with_reducible rfl)))); (try simp only [Act.put, List.setIfInBounds_toArray, List.set_cons_zero, List.set_cons_succ])
        (refine wpAnyH_take (i := 12) (oi := ⟨_, _, _, _, _, _⟩) (v := ?_) rfl (by kernel_rfl) (by kernel_rfl) (by kernel_rfl) (fun _ _ _ h => h) (Or.inl ⟨by rfl, ?_⟩) (by assumption) ?_; rotate_left; focus ((intro w' hSw; (try dsimp only at hSw); go_simp; (try with_reducible rfl)))); (try simp only [Act.put, List.setIfInBounds_toArray, List.set_cons_zero, List.set_cons_succ])
        (refine wpAnyH_take (i := 13) (oi := ⟨_, _, _, _, _, _⟩) (v := ?_) rfl (by kernel_rfl) (by kernel_rfl) (by kernel_rfl) (fun _ _ _ h => h) (Or.inl ⟨by rfl, ?_⟩) (by assumption) ?_; rotate_left; focus ((intro w' hSw; (try dsimp only at hSw); go_simp; (try with_reducible rfl)))); (try simp only [Act.put, List.setIfInBounds_toArray, List.set_cons_zero, List.set_cons_succ])
        refine wpAnyH_done (by kernel_rfl) ?_ _
        go_wp2
        go_roundw
        case rel => exact ⟨i + 1, by omega, by go_num, Lib.hid (fun j y hj hy => by (by_cases e : j = i); (· subst e; cases hy.symm.trans HX.out; exact HVL.out); exact HSC.out j y (by omega) hy), Lib.hid (by first | exact HB.out.drew | exact HB.out)⟩
        case measure => simp [intOf]; omega
      · have HNV := Lib.hid hv
        have HP := Lib.hid (HPOS.out i hi HSC.out fun y hy => by cases hy.symm.trans HX.out; have := HNV.out; omega)
        by_cases heq : x.v = t.num
        · obtain rfl := HHAD.out HK1.out i x HP.out HX.out heq
          have q2 : (x.v == t.num) = true := by rw [beq_iff_eq]; exact heq
          clear HHAD HNEW heq HPOS HSC
          go_upto_region 4 with (fail)
          refine wp_region_held_drew (S := (fun w' => Below wr.heap.size wr w' ∧ w'.cell? ⟨nb, 1, none⟩ = some (.int .i64 t.num) ∧ w'.cell? ⟨g, off + i * 2, none⟩ = some (.int .i64 x.v))) (by kernel_rfl) (by (try dsimp only); go_keep) (fun hHeld => ?_)
          (refine wpAnyH_take (i := 0) (oi := ⟨_, _, _, _, _, _⟩) (v := ?_) rfl (by kernel_rfl) (by kernel_rfl) (by kernel_rfl) (fun _ _ _ h => h) (Or.inl ⟨by rfl, ?_⟩) (by assumption) ?_; rotate_left; focus ((intro w' hSw; (try dsimp only at hSw); go_simp; (try with_reducible rfl)))); (try simp only [Act.put, List.setIfInBounds_toArray, List.set_cons_zero, List.set_cons_succ])
          (refine wpAnyH_take (i := 1) (oi := ⟨_, _, _, _, _, _⟩) (v := ?_) rfl (by kernel_rfl) (by kernel_rfl) (by kernel_rfl) (fun _ _ _ h => h) (Or.inl ⟨by rfl, ?_⟩) (by assumption) ?_; rotate_left; focus ((intro w' hSw; (try dsimp only at hSw); go_simp; (try with_reducible rfl)))); (try simp only [Act.put, List.setIfInBounds_toArray, List.set_cons_zero, List.set_cons_succ])
          (refine wpAnyH_take (i := 2) (oi := ⟨_, _, _, _, _, _⟩) (v := ?_) rfl (by kernel_rfl) (by kernel_rfl) (by kernel_rfl) (fun _ _ _ h => h) (Or.inl ⟨by rfl, ?_⟩) (by assumption) ?_; rotate_left; focus ((intro w' hSw; (try dsimp only at hSw); go_simp; (try with_reducible rfl)))); (try simp only [Act.put, List.setIfInBounds_toArray, List.set_cons_zero, List.set_cons_succ])
          (refine wpAnyH_take (i := 3) (oi := ⟨_, _, _, _, _, _⟩) (v := ?_) rfl (by kernel_rfl) (by kernel_rfl) (by kernel_rfl) (fun _ _ _ h => h) (Or.inl ⟨by rfl, ?_⟩) (by assumption) ?_; rotate_left; focus ((intro w' hSw; (try dsimp only at hSw); go_simp; (try with_reducible rfl)))); (try simp only [Act.put, List.setIfInBounds_toArray, List.set_cons_zero, List.set_cons_succ])
          (refine wpAnyH_take (i := 4) (oi := ⟨_, _, _, _, _, _⟩) (v := ?_) rfl (by kernel_rfl) (by kernel_rfl) (by kernel_rfl) (fun _ _ _ h => h) (Or.inl ⟨by rfl, ?_⟩) (by assumption) ?_; rotate_left; focus ((intro w' hSw; (try dsimp only at hSw); go_simp; (try with_reducible rfl)))); (try simp only [Act.put, List.setIfInBounds_toArray, List.set_cons_zero, List.set_cons_succ])
          (refine wpAnyH_take (i := 5) (oi := ⟨_, _, _, _, _, _⟩) (v := ?_) rfl (by kernel_rfl) (by kernel_rfl) (by kernel_rfl) (fun _ _ _ h => h) (Or.inl ⟨by rfl, ?_⟩) (by assumption) ?_; rotate_left; focus ((intro w' hSw; (try dsimp only at hSw); go_simp; (try with_reducible rfl)))); (try simp only [Act.put, List.setIfInBounds_toArray, List.set_cons_zero, List.set_cons_succ])
          (refine wpAnyH_take (i := 6) (oi := ⟨_, _, _, _, _, _⟩) (v := ?_) rfl (by kernel_rfl) (by kernel_rfl) (by kernel_rfl) (fun _ _ _ h => h) (Or.inl ⟨by rfl, ?_⟩) (by assumption) ?_; rotate_left; focus ((intro w' hSw; (try dsimp only at hSw); go_simp; (try with_reducible rfl)))); (try simp only [Act.put, List.setIfInBounds_toArray, List.set_cons_zero, List.set_cons_succ])
          (refine wpAnyH_take (i := 7) (oi := ⟨_, _, _, _, _, _⟩) (v := ?_) rfl (by kernel_rfl) (by kernel_rfl) (by kernel_rfl) (fun _ _ _ h => h) (Or.inl ⟨by rfl, ?_⟩) (by assumption) ?_; rotate_left; focus ((intro w' hSw; (try dsimp only at hSw); go_simp; (try with_reducible rfl)))); (try simp only [Act.put, List.setIfInBounds_toArray, List.set_cons_zero, List.set_cons_succ])
          (refine wpAnyH_take (i := 8) (oi := ⟨_, _, _, _, _, _⟩) (v := ?_) rfl (by kernel_rfl) (by kernel_rfl) (by kernel_rfl) (fun _ _ _ h => h) (Or.inl ⟨by rfl, ?_⟩) (by assumption) ?_; rotate_left; focus ((intro w' hSw; (try dsimp only at hSw); go_simp; (try with_reducible rfl)))); (try simp only [Act.put, List.setIfInBounds_toArray, List.set_cons_zero, List.set_cons_succ])
          (refine wpAnyH_take (i := 9) (oi := ⟨_, _, _, _, _, _⟩) (v := ?_) rfl (by kernel_rfl) (by kernel_rfl) (by kernel_rfl) (fun _ _ _ h => h) (Or.inl ⟨by rfl, ?_⟩) (by assumption) ?_; rotate_left; focus ((intro w' hSw; (try dsimp only at hSw); go_simp; (try with_reducible rfl)))); (try simp only [Act.put, List.setIfInBounds_toArray, List.set_cons_zero, List.set_cons_succ])
          (refine wpAnyH_take (i := 10) (oi := ⟨_, _, _, _, _, _⟩) (v := ?_) rfl (by kernel_rfl) (by kernel_rfl) (by kernel_rfl) (fun _ _ _ h => h) (Or.inl ⟨by rfl, ?_⟩) (by assumption) ?_; rotate_left; focus ((intro w' hSw; (try dsimp only at hSw); go_simp; (try with_reducible rfl)))); (try simp only [Act.put, List.setIfInBounds_toArray, List.set_cons_zero, List.set_cons_succ])
          (refine wpAnyH_take (i := 11) (oi := ⟨_, _, _, _, _, _⟩) (v := ?_) rfl (by kernel_rfl) (by kernel_rfl) (by kernel_rfl) (fun _ _ _ h => h) (Or.inl ⟨by rfl, ?_⟩) (by assumption) ?_; rotate_left; focus ((intro w' hSw; (try dsimp only at hSw); go_simp; (try with_reducible rfl)))); (try simp only [Act.put, List.setIfInBounds_toArray, List.set_cons_zero, List.set_cons_succ])
          (refine wpAnyH_take (i := 12) (oi := ⟨_, _, _, _, _, _⟩) (v := ?_) rfl (by kernel_rfl) (by kernel_rfl) (by kernel_rfl) (fun _ _ _ h => h) (Or.inl ⟨by rfl, ?_⟩) (by assumption) ?_; rotate_left; focus ((intro w' hSw; (try dsimp only at hSw); go_simp; (try with_reducible rfl)))); (try simp only [Act.put, List.setIfInBounds_toArray, List.set_cons_zero, List.set_cons_succ])
          (refine wpAnyH_take (i := 13) (oi := ⟨_, _, _, _, _, _⟩) (v := ?_) rfl (by kernel_rfl) (by kernel_rfl) (by kernel_rfl) (fun _ _ _ h => h) (Or.inl ⟨by rfl, ?_⟩) (by assumption) ?_; rotate_left; focus ((intro w' hSw; (try dsimp only at hSw); go_simp; (try with_reducible rfl)))); (try simp only [Act.put, List.setIfInBounds_toArray, List.set_cons_zero, List.set_cons_succ])
          refine wpAnyH_done (by kernel_rfl) ?_ _
          go_upto_region 6 with (fail)
          have HWD : Hid (Below w.heap.size w wr.drew) := Lib.hid HWR.out.drew
          have HBD := Lib.hid (HBR.out.read hdrew)
          clear e0 e1 e2 e3 hself hdrew hHeld HWR HBR
          try clear d0 d1
          try clear HB
          generalize wr.drew = wr at HWD HBD ⊢
          have HWR := HWD
          have HBR := HBD
          obtain ⟨e0, e1, e2, e3⟩ := HBR.out.cells
          obtain ⟨d0, d1⟩ := HD.out wr HWR.out
          have hself : Below wr.heap.size wr wr := Below.refl _ _
          have hdrew : Below wr.heap.size wr wr.drew := hself.drew
          refine wp_region_held_drew (S := (fun w' => Below wr.heap.size wr w' ∧ w'.cell? ⟨nb, 1, none⟩ = some (.int .i64 t.num) ∧ w'.cell? ⟨g, off + i * 2, none⟩ = some (.int .i64 x.v))) (by kernel_rfl) (by (try dsimp only); go_keep) (fun hHeld => ?_)
          (refine wpAnyH_take (i := 0) (oi := ⟨_, _, _, _, _, _⟩) (v := ?_) rfl (by kernel_rfl) (by kernel_rfl) (by kernel_rfl) (fun _ _ _ h => h) (Or.inl ⟨by rfl, ?_⟩) (by assumption) ?_; rotate_left; focus ((intro w' hSw; (try dsimp only at hSw); go_simp; (try with_reducible rfl)))); (try simp only [Act.put, List.setIfInBounds_toArray, List.set_cons_zero, List.set_cons_succ])
          (refine wpAnyH_take (i := 1) (oi := ⟨_, _, _, _, _, _⟩) (v := ?_) rfl (by kernel_rfl) (by kernel_rfl) (by kernel_rfl) (fun _ _ _ h => h) (Or.inl ⟨by rfl, ?_⟩) (by assumption) ?_; rotate_left; focus ((intro w' hSw; (try dsimp only at hSw); go_simp; (try with_reducible rfl)))); (try simp only [Act.put, List.setIfInBounds_toArray, List.set_cons_zero, List.set_cons_succ])
          (refine wpAnyH_take (i := 2) (oi := ⟨_, _, _, _, _, _⟩) (v := ?_) rfl (by kernel_rfl) (by kernel_rfl) (by kernel_rfl) (fun _ _ _ h => h) (Or.inl ⟨by rfl, ?_⟩) (by assumption) ?_; rotate_left; focus ((intro w' hSw; (try dsimp only at hSw); go_simp; (try with_reducible rfl)))); (try simp only [Act.put, List.setIfInBounds_toArray, List.set_cons_zero, List.set_cons_succ])
          (refine wpAnyH_take (i := 3) (oi := ⟨_, _, _, _, _, _⟩) (v := ?_) rfl (by kernel_rfl) (by kernel_rfl) (by kernel_rfl) (fun _ _ _ h => h) (Or.inl ⟨by rfl, ?_⟩) (by assumption) ?_; rotate_left; focus ((intro w' hSw; (try dsimp only at hSw); go_simp; (try with_reducible rfl)))); (try simp only [Act.put, List.setIfInBounds_toArray, List.set_cons_zero, List.set_cons_succ])
          (refine wpAnyH_take (i := 4) (oi := ⟨_, _, _, _, _, _⟩) (v := ?_) rfl (by kernel_rfl) (by kernel_rfl) (by kernel_rfl) (fun _ _ _ h => h) (Or.inl ⟨by rfl, ?_⟩) (by assumption) ?_; rotate_left; focus ((intro w' hSw; (try dsimp only at hSw); go_simp; (try with_reducible rfl)))); (try simp only [Act.put, List.setIfInBounds_toArray, List.set_cons_zero, List.set_cons_succ])
          (refine wpAnyH_take (i := 5) (oi := ⟨_, _, _, _, _, _⟩) (v := ?_) rfl (by kernel_rfl) (by kernel_rfl) (by kernel_rfl) (fun _ _ _ h => h) (Or.inl ⟨by rfl, ?_⟩) (by assumption) ?_; rotate_left; focus ((intro w' hSw; (try dsimp only at hSw); go_simp; (try with_reducible rfl)))); (try simp only [Act.put, List.setIfInBounds_toArray, List.set_cons_zero, List.set_cons_succ])
          (refine wpAnyH_take (i := 6) (oi := ⟨_, _, _, _, _, _⟩) (v := ?_) rfl (by kernel_rfl) (by kernel_rfl) (by kernel_rfl) (fun _ _ _ h => h) (Or.inl ⟨by rfl, ?_⟩) (by assumption) ?_; rotate_left; focus ((intro w' hSw; (try dsimp only at hSw); go_simp; (try with_reducible rfl)))); (try simp only [Act.put, List.setIfInBounds_toArray, List.set_cons_zero, List.set_cons_succ])
          (refine wpAnyH_take (i := 7) (oi := ⟨_, _, _, _, _, _⟩) (v := ?_) rfl (by kernel_rfl) (by kernel_rfl) (by kernel_rfl) (fun _ _ _ h => h) (Or.inl ⟨by rfl, ?_⟩) (by assumption) ?_; rotate_left; focus ((intro w' hSw; (try dsimp only at hSw); go_simp; (try with_reducible rfl)))); (try simp only [Act.put, List.setIfInBounds_toArray, List.set_cons_zero, List.set_cons_succ])
          (refine wpAnyH_take (i := 8) (oi := ⟨_, _, _, _, _, _⟩) (v := ?_) rfl (by kernel_rfl) (by kernel_rfl) (by kernel_rfl) (fun _ _ _ h => h) (Or.inl ⟨by rfl, ?_⟩) (by assumption) ?_; rotate_left; focus ((intro w' hSw; (try dsimp only at hSw); go_simp; (try with_reducible rfl)))); (try simp only [Act.put, List.setIfInBounds_toArray, List.set_cons_zero, List.set_cons_succ])
          (refine wpAnyH_take (i := 9) (oi := ⟨_, _, _, _, _, _⟩) (v := ?_) rfl (by kernel_rfl) (by kernel_rfl) (by kernel_rfl) (fun _ _ _ h => h) (Or.inl ⟨by rfl, ?_⟩) (by assumption) ?_; rotate_left; focus ((intro w' hSw; (try dsimp only at hSw); go_simp; (try with_reducible rfl)))); (try simp only [Act.put, List.setIfInBounds_toArray, List.set_cons_zero, List.set_cons_succ])
          (refine wpAnyH_take (i := 10) (oi := ⟨_, _, _, _, _, _⟩) (v := ?_) rfl (by kernel_rfl) (by kernel_rfl) (by kernel_rfl) (fun _ _ _ h => h) (Or.inl ⟨by rfl, ?_⟩) (by assumption) ?_; rotate_left; focus ((intro w' hSw; (try dsimp only at hSw); go_simp; (try with_reducible rfl)))); (try simp only [Act.put, List.setIfInBounds_toArray, List.set_cons_zero, List.set_cons_succ])
          (refine wpAnyH_take (i := 11) (oi := ⟨_, _, _, _, _, _⟩) (v := ?_) rfl (by kernel_rfl) (by kernel_rfl) (by kernel_rfl) (fun _ _ _ h => h) (Or.inl ⟨by rfl, ?_⟩) (by assumption) ?_; rotate_left; focus ((intro w' hSw; (try dsimp only at hSw); go_simp; (try with_reducible rfl)))); (try simp only [Act.put, List.setIfInBounds_toArray, List.set_cons_zero, List.set_cons_succ])
          (refine wpAnyH_take (i := 12) (oi := ⟨_, _, _, _, _, _⟩) (v := ?_) rfl (by kernel_rfl) (by kernel_rfl) (by kernel_rfl) (fun _ _ _ h => h) (Or.inl ⟨by rfl, ?_⟩) (by assumption) ?_; rotate_left; focus ((intro w' hSw; (try dsimp only at hSw); go_simp; (try with_reducible rfl)))); (try simp only [Act.put, List.setIfInBounds_toArray, List.set_cons_zero, List.set_cons_succ])
          (refine wpAnyH_take (i := 13) (oi := ⟨_, _, _, _, _, _⟩) (v := ?_) rfl (by kernel_rfl) (by kernel_rfl) (by kernel_rfl) (fun _ _ _ h => h) (Or.inl ⟨by rfl, ?_⟩) (by assumption) ?_; rotate_left; focus ((intro w' hSw; (try dsimp only at hSw); go_simp; (try with_reducible rfl)))); (try simp only [Act.put, List.setIfInBounds_toArray, List.set_cons_zero, List.set_cons_succ])
          refine wpAnyH_done (by kernel_rfl) ?_ _
          go_upto_region 7 with (fail)
          have HWD : Hid (Below w.heap.size w wr.drew) := Lib.hid HWR.out.drew
          have HBD := Lib.hid (HBR.out.read hdrew)
          clear e0 e1 e2 e3 hself hdrew hHeld HWR HBR
          try clear d0 d1
          try clear HB
          generalize wr.drew = wr at HWD HBD ⊢
          have HWR := HWD
          have HBR := HBD
          obtain ⟨e0, e1, e2, e3⟩ := HBR.out.cells
          obtain ⟨d0, d1⟩ := HD.out wr HWR.out
          have hself : Below wr.heap.size wr wr := Below.refl _ _
          have hdrew : Below wr.heap.size wr wr.drew := hself.drew
          refine wp_region_held_drew (S := (fun w' => Below wr.heap.size wr w' ∧ w'.cell? ⟨g, off + i * 2 + 1, none⟩ = some (.int .i64 x.k))) (by kernel_rfl) (by (try dsimp only); go_keep) (fun hHeld => ?_)
          (refine wpAnyH_take (i := 0) (oi := ⟨_, _, _, _, _, _⟩) (v := ?_) rfl (by kernel_rfl) (by kernel_rfl) (by kernel_rfl) (fun _ _ _ h => h) (Or.inl ⟨by rfl, ?_⟩) (by assumption) ?_; rotate_left; focus ((intro w' hSw; (try dsimp only at hSw); go_simp; (try with_reducible rfl)))); (try simp only [Act.put, List.setIfInBounds_toArray, List.set_cons_zero, List.set_cons_succ])
          (refine wpAnyH_take (i := 1) (oi := ⟨_, _, _, _, _, _⟩) (v := ?_) rfl (by kernel_rfl) (by kernel_rfl) (by kernel_rfl) (fun _ _ _ h => h) (Or.inl ⟨by rfl, ?_⟩) (by assumption) ?_; rotate_left; focus ((intro w' hSw; (try dsimp only at hSw); go_simp; (try with_reducible rfl)))); (try simp only [Act.put, List.setIfInBounds_toArray, List.set_cons_zero, List.set_cons_succ])
          (refine wpAnyH_take (i := 2) (oi := ⟨_, _, _, _, _, _⟩) (v := ?_) rfl (by kernel_rfl) (by kernel_rfl) (by kernel_rfl) (fun _ _ _ h => h) (Or.inl ⟨by rfl, ?_⟩) (by assumption) ?_; rotate_left; focus ((intro w' hSw; (try dsimp only at hSw); go_simp; (try with_reducible rfl)))); (try simp only [Act.put, List.setIfInBounds_toArray, List.set_cons_zero, List.set_cons_succ])
          (refine wpAnyH_take (i := 3) (oi := ⟨_, _, _, _, _, _⟩) (v := ?_) rfl (by kernel_rfl) (by kernel_rfl) (by kernel_rfl) (fun _ _ _ h => h) (Or.inl ⟨by rfl, ?_⟩) (by assumption) ?_; rotate_left; focus ((intro w' hSw; (try dsimp only at hSw); go_simp; (try with_reducible rfl)))); (try simp only [Act.put, List.setIfInBounds_toArray, List.set_cons_zero, List.set_cons_succ])
          (refine wpAnyH_take (i := 4) (oi := ⟨_, _, _, _, _, _⟩) (v := ?_) rfl (by kernel_rfl) (by kernel_rfl) (by kernel_rfl) (fun _ _ _ h => h) (Or.inl ⟨by rfl, ?_⟩) (by assumption) ?_; rotate_left; focus ((intro w' hSw; (try dsimp only at hSw); go_simp; (try with_reducible rfl)))); (try simp only [Act.put, List.setIfInBounds_toArray, List.set_cons_zero, List.set_cons_succ])
          (refine wpAnyH_take (i := 5) (oi := ⟨_, _, _, _, _, _⟩) (v := ?_) rfl (by kernel_rfl) (by kernel_rfl) (by kernel_rfl) (fun _ _ _ h => h) (Or.inl ⟨by rfl, ?_⟩) (by assumption) ?_; rotate_left; focus ((intro w' hSw; (try dsimp only at hSw); go_simp; (try with_reducible rfl)))); (try simp only [Act.put, List.setIfInBounds_toArray, List.set_cons_zero, List.set_cons_succ])
          (refine wpAnyH_take (i := 6) (oi := ⟨_, _, _, _, _, _⟩) (v := ?_) rfl (by kernel_rfl) (by kernel_rfl) (by kernel_rfl) (fun _ _ _ h => h) (Or.inl ⟨by rfl, ?_⟩) (by assumption) ?_; rotate_left; focus ((intro w' hSw; (try dsimp only at hSw); go_simp; (try with_reducible rfl)))); (try simp only [Act.put, List.setIfInBounds_toArray, List.set_cons_zero, List.set_cons_succ])
          (refine wpAnyH_take (i := 7) (oi := ⟨_, _, _, _, _, _⟩) (v := ?_) rfl (by kernel_rfl) (by kernel_rfl) (by kernel_rfl) (fun _ _ _ h => h) (Or.inl ⟨by rfl, ?_⟩) (by assumption) ?_; rotate_left; focus ((intro w' hSw; (try dsimp only at hSw); go_simp; (try with_reducible rfl)))); (try simp only [Act.put, List.setIfInBounds_toArray, List.set_cons_zero, List.set_cons_succ])
          (refine wpAnyH_take (i := 8) (oi := ⟨_, _, _, _, _, _⟩) (v := ?_) rfl (by kernel_rfl) (by kernel_rfl) (by kernel_rfl) (fun _ _ _ h => h) (Or.inl ⟨by rfl, ?_⟩) (by assumption) ?_; rotate_left; focus ((intro w' hSw; (try dsimp only at hSw); go_simp; (try with_reducible rfl)))); (try simp only [Act.put, List.setIfInBounds_toArray, List.set_cons_zero, List.set_cons_succ])
          (refine wpAnyH_take (i := 9) (oi := ⟨_, _, _, _, _, _⟩) (v := ?_) rfl (by kernel_rfl) (by kernel_rfl) (by kernel_rfl) (fun _ _ _ h => h) (Or.inl ⟨by rfl, ?_⟩) (by assumption) ?_; rotate_left; focus ((intro w' hSw; (try dsimp only at hSw); go_simp; (try with_reducible rfl)))); (try simp only [Act.put, List.setIfInBounds_toArray, List.set_cons_zero, List.set_cons_succ])
          refine wpAnyH_done (by kernel_rfl) ?_ _
          go_wp2
          go_ret2
          exact HOLD2.out _ _ (by first | exact HWD.out | exact HWD.out.drew | exact HWD.out.drew.drew)
        · obtain rfl := HNEW.out HK1.out i HP.out fun y hy => by cases hy.symm.trans HX.out; exact heq
          have q2 : (x.v == t.num) = false := by rw [beq_eq_false_iff_ne]; exact heq
          clear HHAD HNEW heq HPOS HSC HB
          go_upto_region 4 with (fail)
          refine wp_region_held_drew (S := (fun w' => Below wr.heap.size wr w' ∧ w'.cell? ⟨nb, 1, none⟩ = some (.int .i64 t.num) ∧ w'.cell? ⟨g, off + i * 2, none⟩ = some (.int .i64 x.v))) (by kernel_rfl) (by (try dsimp only); go_keep) (fun hHeld => ?_)
          (refine wpAnyH_take (i := 0) (oi := ⟨_, _, _, _, _, _⟩) (v := ?_) rfl (by kernel_rfl) (by kernel_rfl) (by kernel_rfl) (fun _ _ _ h => h) (Or.inl ⟨by rfl, ?_⟩) (by assumption) ?_; rotate_left; focus ((intro w' hSw; (try dsimp only at hSw); go_simp; (try with_reducible rfl)))); (try simp only [Act.put, List.setIfInBounds_toArray, List.set_cons_zero, List.set_cons_succ])
          (refine wpAnyH_take (i := 1) (oi := ⟨_, _, _, _, _, _⟩) (v := ?_) rfl (by kernel_rfl) (by kernel_rfl) (by kernel_rfl) (fun _ _ _ h => h) (Or.inl ⟨by rfl, ?_⟩) (by assumption) ?_; rotate_left; focus ((intro w' hSw; (try dsimp only at hSw); go_simp; (try with_reducible rfl)))); (try simp only [Act.put, List.setIfInBounds_toArray, List.set_cons_zero, List.set_cons_succ])
          (refine wpAnyH_take (i := 2) (oi := ⟨_, _, _, _, _, _⟩) (v := ?_) rfl (by kernel_rfl) (by kernel_rfl) (by kernel_rfl) (fun _ _ _ h => h) (Or.inl ⟨by rfl, ?_⟩) (by assumption) ?_; rotate_left; focus ((intro w' hSw; (try dsimp only at hSw); go_simp; (try with_reducible rfl)))); (try simp only [Act.put, List.setIfInBounds_toArray, List.set_cons_zero, List.set_cons_succ])
          (refine wpAnyH_take (i := 3) (oi := ⟨_, _, _, _, _, _⟩) (v := ?_) rfl (by kernel_rfl) (by kernel_rfl) (by kernel_rfl) (fun _ _ _ h => h) (Or.inl ⟨by rfl, ?_⟩) (by assumption) ?_; rotate_left; focus ((intro w' hSw; (try dsimp only at hSw); go_simp; (try with_reducible rfl)))); (try simp only [Act.put, List.setIfInBounds_toArray, List.set_cons_zero, List.set_cons_succ])
          (refine wpAnyH_take (i := 4) (oi := ⟨_, _, _, _, _, _⟩) (v := ?_) rfl (by kernel_rfl) (by kernel_rfl) (by kernel_rfl) (fun _ _ _ h => h) (Or.inl ⟨by rfl, ?_⟩) (by assumption) ?_; rotate_left; focus ((intro w' hSw; (try dsimp only at hSw); go_simp; (try with_reducible rfl)))); (try simp only [Act.put, List.setIfInBounds_toArray, List.set_cons_zero, List.set_cons_succ])
          (refine wpAnyH_take (i := 5) (oi := ⟨_, _, _, _, _, _⟩) (v := ?_) rfl (by kernel_rfl) (by kernel_rfl) (by kernel_rfl) (fun _ _ _ h => h) (Or.inl ⟨by rfl, ?_⟩) (by assumption) ?_; rotate_left; focus ((intro w' hSw; (try dsimp only at hSw); go_simp; (try with_reducible rfl)))); (try simp only [Act.put, List.setIfInBounds_toArray, List.set_cons_zero, List.set_cons_succ])
          (refine wpAnyH_take (i := 6) (oi := ⟨_, _, _, _, _, _⟩) (v := ?_) rfl (by kernel_rfl) (by kernel_rfl) (by kernel_rfl) (fun _ _ _ h => h) (Or.inl ⟨by rfl, ?_⟩) (by assumption) ?_; rotate_left; focus ((intro w' hSw; (try dsimp only at hSw); go_simp; (try with_reducible rfl)))); (try simp only [Act.put, List.setIfInBounds_toArray, List.set_cons_zero, List.set_cons_succ])
          (refine wpAnyH_take (i := 7) (oi := ⟨_, _, _, _, _, _⟩) (v := ?_) rfl (by kernel_rfl) (by kernel_rfl) (by kernel_rfl) (fun _ _ _ h => h) (Or.inl ⟨by rfl, ?_⟩) (by assumption) ?_; rotate_left; focus ((intro w' hSw; (try dsimp only at hSw); go_simp; (try with_reducible rfl)))); (try simp only [Act.put, List.setIfInBounds_toArray, List.set_cons_zero, List.set_cons_succ])
          (refine wpAnyH_take (i := 8) (oi := ⟨_, _, _, _, _, _⟩) (v := ?_) rfl (by kernel_rfl) (by kernel_rfl) (by kernel_rfl) (fun _ _ _ h => h) (Or.inl ⟨by rfl, ?_⟩) (by assumption) ?_; rotate_left; focus ((intro w' hSw; (try dsimp only at hSw); go_simp; (try with_reducible rfl)))); (try simp only [Act.put, List.setIfInBounds_toArray, List.set_cons_zero, List.set_cons_succ])
          (refine wpAnyH_take (i := 9) (oi := ⟨_, _, _, _, _, _⟩) (v := ?_) rfl (by kernel_rfl) (by kernel_rfl) (by kernel_rfl) (fun _ _ _ h => h) (Or.inl ⟨by rfl, ?_⟩) (by assumption) ?_; rotate_left; focus ((intro w' hSw; (try dsimp only at hSw); go_simp; (try with_reducible rfl)))); (try simp only [Act.put, List.setIfInBounds_toArray, List.set_cons_zero, List.set_cons_succ])
          (refine wpAnyH_take (i := 10) (oi := ⟨_, _, _, _, _, _⟩) (v := ?_) rfl (by kernel_rfl) (by kernel_rfl) (by kernel_rfl) (fun _ _ _ h => h) (Or.inl ⟨by rfl, ?_⟩) (by assumption) ?_; rotate_left; focus ((intro w' hSw; (try dsimp only at hSw); go_simp; (try with_reducible rfl)))); (try simp only [Act.put, List.setIfInBounds_toArray, List.set_cons_zero, List.set_cons_succ])
          (refine wpAnyH_take (i := 11) (oi := ⟨_, _, _, _, _, _⟩) (v := ?_) rfl (by kernel_rfl) (by kernel_rfl) (by kernel_rfl) (fun _ _ _ h => h) (Or.inl ⟨by rfl, ?_⟩) (by assumption) ?_; rotate_left; focus ((intro w' hSw; (try dsimp only at hSw); go_simp; (try with_reducible rfl)))); (try simp only [Act.put, List.setIfInBounds_toArray, List.set_cons_zero, List.set_cons_succ])
          (refine wpAnyH_take (i := 12) (oi := ⟨_, _, _, _, _, _⟩) (v := ?_) rfl (by kernel_rfl) (by kernel_rfl) (by kernel_rfl) (fun _ _ _ h => h) (Or.inl ⟨by rfl, ?_⟩) (by assumption) ?_; rotate_left; focus ((intro w' hSw; (try dsimp only at hSw); go_simp; (try with_reducible rfl)))); (try simp only [Act.put, List.setIfInBounds_toArray, List.set_cons_zero, List.set_cons_succ])
          (refine wpAnyH_take (i := 13) (oi := ⟨_, _, _, _, _, _⟩) (v := ?_) rfl (by kernel_rfl) (by kernel_rfl) (by kernel_rfl) (fun _ _ _ h => h) (Or.inl ⟨by rfl, ?_⟩) (by assumption) ?_; rotate_left; focus ((intro w' hSw; (try dsimp only at hSw); go_simp; (try with_reducible rfl)))); (try simp only [Act.put, List.setIfInBounds_toArray, List.set_cons_zero, List.set_cons_succ])
          refine wpAnyH_done (by kernel_rfl) ?_ _
          go_upto_region 6 with (fail)
          have HWD : Hid (Below w.heap.size w wr.drew) := Lib.hid HWR.out.drew
          have HBD := Lib.hid (HBR.out.read hdrew)
          clear e0 e1 e2 e3 hself hdrew hHeld HWR HBR
          try clear d0 d1
          try clear HB
          generalize wr.drew = wr at HWD HBD ⊢
          have HWR := HWD
          have HBR := HBD
          obtain ⟨e0, e1, e2, e3⟩ := HBR.out.cells
          obtain ⟨d0, d1⟩ := HD.out wr HWR.out
          have hself : Below wr.heap.size wr wr := Below.refl _ _
          have hdrew : Below wr.heap.size wr wr.drew := hself.drew
          refine wp_region_held_drew (S := (fun w' => Below wr.heap.size wr w' ∧ w'.cell? ⟨nb, 1, none⟩ = some (.int .i64 t.num) ∧ w'.cell? ⟨g, off + i * 2, none⟩ = some (.int .i64 x.v))) (by kernel_rfl) (by (try dsimp only); go_keep) (fun hHeld => ?_)
          (refine wpAnyH_take (i := 0) (oi := ⟨_, _, _, _, _, _⟩) (v := ?_) rfl (by kernel_rfl) (by kernel_rfl) (by kernel_rfl) (fun _ _ _ h => h) (Or.inl ⟨by rfl, ?_⟩) (by assumption) ?_; rotate_left; focus ((intro w' hSw; (try dsimp only at hSw); go_simp; (try with_reducible rfl)))); (try simp only [Act.put, List.setIfInBounds_toArray, List.set_cons_zero, List.set_cons_succ])
          (refine wpAnyH_take (i := 1) (oi := ⟨_, _, _, _, _, _⟩) (v := ?_) rfl (by kernel_rfl) (by kernel_rfl) (by kernel_rfl) (fun _ _ _ h => h) (Or.inl ⟨by rfl, ?_⟩) (by assumption) ?_; rotate_left; focus ((intro w' hSw; (try dsimp only at hSw); go_simp; (try with_reducible rfl)))); (try simp only [Act.put, List.setIfInBounds_toArray, List.set_cons_zero, List.set_cons_succ])
          (refine wpAnyH_take (i := 2) (oi := ⟨_, _, _, _, _, _⟩) (v := ?_) rfl (by kernel_rfl) (by kernel_rfl) (by kernel_rfl) (fun _ _ _ h => h) (Or.inl ⟨by rfl, ?_⟩) (by assumption) ?_; rotate_left; focus ((intro w' hSw; (try dsimp only at hSw); go_simp; (try with_reducible rfl)))); (try simp only [Act.put, List.setIfInBounds_toArray, List.set_cons_zero, List.set_cons_succ])
          (refine wpAnyH_take (i := 3) (oi := ⟨_, _, _, _, _, _⟩) (v := ?_) rfl (by kernel_rfl) (by kernel_rfl) (by kernel_rfl) (fun _ _ _ h => h) (Or.inl ⟨by rfl, ?_⟩) (by assumption) ?_; rotate_left; focus ((intro w' hSw; (try dsimp only at hSw); go_simp; (try with_reducible rfl)))); (try simp only [Act.put, List.setIfInBounds_toArray, List.set_cons_zero, List.set_cons_succ])
          (refine wpAnyH_take (i := 4) (oi := ⟨_, _, _, _, _, _⟩) (v := ?_) rfl (by kernel_rfl) (by kernel_rfl) (by kernel_rfl) (fun _ _ _ h => h) (Or.inl ⟨by rfl, ?_⟩) (by assumption) ?_; rotate_left; focus ((intro w' hSw; (try dsimp only at hSw); go_simp; (try with_reducible rfl)))); (try simp only [Act.put, List.setIfInBounds_toArray, List.set_cons_zero, List.set_cons_succ])
          (refine wpAnyH_take (i := 5) (oi := ⟨_, _, _, _, _, _⟩) (v := ?_) rfl (by kernel_rfl) (by kernel_rfl) (by kernel_rfl) (fun _ _ _ h => h) (Or.inl ⟨by rfl, ?_⟩) (by assumption) ?_; rotate_left; focus ((intro w' hSw; (try dsimp only at hSw); go_simp; (try with_reducible rfl)))); (try simp only [Act.put, List.setIfInBounds_toArray, List.set_cons_zero, List.set_cons_succ])
          (refine wpAnyH_take (i := 6) (oi := ⟨_, _, _, _, _, _⟩) (v := ?_) rfl (by kernel_rfl) (by kernel_rfl) (by kernel_rfl) (fun _ _ _ h => h) (Or.inl ⟨by rfl, ?_⟩) (by assumption) ?_; rotate_left; focus ((intro w' hSw; (try dsimp only at hSw); go_simp; (try with_reducible rfl)))); (try simp only [Act.put, List.setIfInBounds_toArray, List.set_cons_zero, List.set_cons_succ])
          (refine wpAnyH_take (i := 7) (oi := ⟨_, _, _, _, _, _⟩) (v := ?_) rfl (by kernel_rfl) (by kernel_rfl) (by kernel_rfl) (fun _ _ _ h => h) (Or.inl ⟨by rfl, ?_⟩) (by assumption) ?_; rotate_left; focus ((intro w' hSw; (try dsimp only at hSw); go_simp; (try with_reducible rfl)))); (try simp only [Act.put, List.setIfInBounds_toArray, List.set_cons_zero, List.set_cons_succ])
          (refine wpAnyH_take (i := 8) (oi := ⟨_, _, _, _, _, _⟩) (v := ?_) rfl (by kernel_rfl) (by kernel_rfl) (by kernel_rfl) (fun _ _ _ h => h) (Or.inl ⟨by rfl, ?_⟩) (by assumption) ?_; rotate_left; focus ((intro w' hSw; (try dsimp only at hSw); go_simp; (try with_reducible rfl)))); (try simp only [Act.put, List.setIfInBounds_toArray, List.set_cons_zero, List.set_cons_succ])
          (refine wpAnyH_take (i := 9) (oi := ⟨_, _, _, _, _, _⟩) (v := ?_) rfl (by kernel_rfl) (by kernel_rfl) (by kernel_rfl) (fun _ _ _ h => h) (Or.inl ⟨by rfl, ?_⟩) (by assumption) ?_; rotate_left; focus ((intro w' hSw; (try dsimp only at hSw); go_simp; (try with_reducible rfl)))); (try simp only [Act.put, List.setIfInBounds_toArray, List.set_cons_zero, List.set_cons_succ])
          (refine wpAnyH_take (i := 10) (oi := ⟨_, _, _, _, _, _⟩) (v := ?_) rfl (by kernel_rfl) (by kernel_rfl) (by kernel_rfl) (fun _ _ _ h => h) (Or.inl ⟨by rfl, ?_⟩) (by assumption) ?_; rotate_left; focus ((intro w' hSw; (try dsimp only at hSw); go_simp; (try with_reducible rfl)))); (try simp only [Act.put, List.setIfInBounds_toArray, List.set_cons_zero, List.set_cons_succ])
          (refine wpAnyH_take (i := 11) (oi := ⟨_, _, _, _, _, _⟩) (v := ?_) rfl (by kernel_rfl) (by kernel_rfl) (by kernel_rfl) (fun _ _ _ h => h) (Or.inl ⟨by rfl, ?_⟩) (by assumption) ?_; rotate_left; focus ((intro w' hSw; (try dsimp only at hSw); go_simp; (try with_reducible rfl)))); (try simp only [Act.put, List.setIfInBounds_toArray, List.set_cons_zero, List.set_cons_succ])
          (refine wpAnyH_take (i := 12) (oi := ⟨_, _, _, _, _, _⟩) (v := ?_) rfl (by kernel_rfl) (by kernel_rfl) (by kernel_rfl) (fun _ _ _ h => h) (Or.inl ⟨by rfl, ?_⟩) (by assumption) ?_; rotate_left; focus ((intro w' hSw; (try dsimp only at hSw); go_simp; (try with_reducible rfl)))); (try simp only [Act.put, List.setIfInBounds_toArray, List.set_cons_zero, List.set_cons_succ])
          (refine wpAnyH_take (i := 13) (oi := ⟨_, _, _, _, _, _⟩) (v := ?_) rfl (by kernel_rfl) (by kernel_rfl) (by kernel_rfl) (fun _ _ _ h => h) (Or.inl ⟨by rfl, ?_⟩) (by assumption) ?_; rotate_left; focus ((intro w' hSw; (try dsimp only at hSw); go_simp; (try with_reducible rfl)))); (try simp only [Act.put, List.setIfInBounds_toArray, List.set_cons_zero, List.set_cons_succ])
          refine wpAnyH_done (by kernel_rfl) ?_ _
          go_upto_region 8 with (fail)
          have HWD : Hid (Below w.heap.size w wr.drew) := Lib.hid HWR.out.drew
          have HBD := Lib.hid (HBR.out.read hdrew)
          clear e0 e1 e2 e3 hself hdrew hHeld HWR HBR
          try clear d0 d1
          try clear HB
          generalize wr.drew = wr at HWD HBD ⊢
          have HWR := HWD
          have HBR := HBD
          obtain ⟨e0, e1, e2, e3⟩ := HBR.out.cells
          obtain ⟨d0, d1⟩ := HD.out wr HWR.out
          have hself : Below wr.heap.size wr wr := Below.refl _ _
          have hdrew : Below wr.heap.size wr wr.drew := hself.drew
          have HZ1 : Hid (w.heap.size + 1 ≤ wr.heap.size) := Lib.hid (by have := HBR.out.le; have := HNB.out; omega)
          have hz1 := HZ1.out
          have HRS := Lib.hid (rowX_start (E := kdE) (e := 72) (w := wr) (lo := w.heap.size + 1) hz1)
          have HWA : Hid (Below w.heap.size w (wr.alloc (.cells #[] 72))) := Lib.hid (HWR.out.alloc (by omega) _)
          have HBA := Lib.hid (HBR.out.read (belowAlloc (Below.refl _ _) (.cells #[] 72)))
          have HTC : Hid (∀ (W : World), Below w.heap.size w W → ∀ (j : Nat) (u : Value), (cellsE kdE (L.take (i)))[j]? = some u → W.cell? ((⟨g, off, none⟩ : Addr).add j) = some u) := Lib.hid fun W hW j u hj => by
            rw [addr_add]
            refine HCELL.out W hW j u ?_
            rw [← List.take_append_drop (i) L, cellsE_append, List.getElem?_append_left (List.getElem?_eq_some_iff.1 hj).1]
            exact hj
          have HDC : Hid (∀ (W : World), Below w.heap.size w W → ∀ (j : Nat) (u : Value), (cellsE kdE (L.drop (i)))[j]? = some u → W.cell? ((⟨g, off + (i) * 2, none⟩ : Addr).add j) = some u) := Lib.hid fun W hW j u hj => by
            have hlk : (cellsE kdE (L.take (i))).length = (i) * 2 := by rw [cellsE_length, List.length_take, show min (i) L.length = (i) from by have := HLN.out; omega]; rfl
            have e := HCELL.out W hW ((i) * 2 + j) u (by rw [← List.take_append_drop (i) L, cellsE_append, List.getElem?_append_right (by rw [hlk]; omega), hlk, Nat.add_sub_cancel_left]; exact hj)
            rw [← Nat.add_assoc] at e
            rw [addr_add]
            exact e
          have HEND2 : Hid (∀ v W, RowX kdE 72 W (w.heap.size + 1) v ((([] ++ (L.take (i)).map Prod.fst) ++ [((⟨t.num, k⟩ : Kd), Value.slice none 0 0)].map Prod.fst) ++ (L.drop (i)).map Prod.fst) → Below w.heap.size w W → AkP (insK l (i) ⟨t.num, k⟩) true w (.returned (.tuple #[v, .bool true])) W) := Lib.hid fun v W h hW => by
            have e : insK l (i) ⟨t.num, k⟩ = (([] ++ (L.take (i)).map Prod.fst) ++ [((⟨t.num, k⟩ : Kd), Value.slice none 0 0)].map Prod.fst) ++ (L.drop (i)).map Prod.fst := by
              have h1 : l.take (i) = (L.take (i)).map Prod.fst := by rw [HLL.out, List.map_take]
              have h2 : l.drop (i) = (L.drop (i)).map Prod.fst := by rw [HLL.out, List.map_drop]
              rw [insK, h1, h2]
              simp
            rw [← e] at h
            exact ⟨v, rfl, h.list, h.cap (by rw [insK, List.length_append, List.length_cons]; omega), hW⟩
          have hKI : (((i : Nat)) : Int) ≤ (l.length : Int) := by omega
          have hKC : (((i : Nat)) : Int) ≤ (cap : Int) := by omega
          have hK0 : (0 : Int) ≤ ((i : Nat) : Int) := by omega
          have hcI : (0 : Int) ≤ (cap : Int) := by omega
          clear hz1
          go_upto_region 9 with (at_builtin; refine append_rowX rfl _ _ 30 rfl kdE (w.heap.size + 1) 72 i0 _ 16 Tryz.underlying30 HII.out.1 HII.out.2.1 HII.out.2.2.1 HII.out.2.2.2 rfl (by omega) _ _ rfl HRS.out (some ⟨g, off, none⟩) (i) cap rfl (L.take (i)) (by have := HLN.out; rw [List.length_take]; omega) (fun h => by cases h) (fun ad h j u hj => by cases h; exact HTC.out _ HWA.out j u hj) (kd_one _) (fun _ _ _ => trivial) (by simp; omega) (by have := HZ1.out; simp at this ⊢; omega) ?_; intro v21 w21 hown21 hb21; have HO21 := Lib.hid hown21; have HX21 := Lib.hid hb21; clear hown21 hb21)
          have HW21 : Hid (Below w.heap.size w w21) := Lib.hid (HWA.out.trans (HX21.out.mono (Nat.le_succ _)))
          have HB21 := Lib.hid (HBA.out.of_below HX21.out (by have := HNB.out; omega))
          obtain ⟨q0, q1', q2', q3⟩ := HB21.out.cells
          have HR21 := Lib.hid (HO21.out.kept (belowAlloc (Below.refl _ _) (.cells #[.int .i64 t.num, .int .i64 k] 72)))
          have HWB : Hid (Below w.heap.size w (w21.alloc (.cells #[.int .i64 t.num, .int .i64 k] 72))) := Lib.hid (HW21.out.alloc HW21.out.size _)
          have HL21 : Hid (([] ++ (L.take (i)).map Prod.fst : List Kd).length ≤ 1048577) := Lib.hid (by rw [List.nil_append, List.length_map, List.length_take]; omega)
          have HZ21 : Hid (w.heap.size + 1 ≤ w21.heap.size) := Lib.hid (by have := HZ1.out; have := HX21.out.size; simp at this; omega)
          clear HRS HX21 HWA HBA HTC
          go_upto_region 10 with (at_builtin; refine append_rowX rfl _ _ 30 rfl kdE (w.heap.size + 1) 72 i0 _ 16 Tryz.underlying30 HII.out.1 HII.out.2.1 HII.out.2.2.1 HII.out.2.2.2 rfl (by omega) v21 _ rfl HR21.out (some ⟨w21.heap.size, 0, none⟩) 1 1 rfl [((⟨t.num, k⟩ : Kd), Value.slice none 0 0)] rfl (fun h => by cases h) (fun ad h j u hj => by cases h; rw [cellsE_one] at hj; exact World.news_of_block (heap_alloc_new w21 _) j u hj) (kd_one _) (fun _ _ _ => trivial) (by have := HL21.out; omega) (by have := HZ21.out; simp; omega) ?_; intro v22 w22 hown22 hb22; have HO22 := Lib.hid hown22; have HX22 := Lib.hid hb22; clear hown22 hb22)
          have HW22 : Hid (Below w.heap.size w w22) := Lib.hid (HWB.out.trans (HX22.out.mono (Nat.le_succ _)))
          have HL22 : Hid ((([] ++ (L.take (i)).map Prod.fst) ++ [((⟨t.num, k⟩ : Kd), Value.slice none 0 0)].map Prod.fst : List Kd).length ≤ 1048578) := Lib.hid (by have := HL21.out; rw [List.length_append]; exact Nat.succ_le_succ this)
          have HZ22 : Hid (w.heap.size + 1 ≤ w22.heap.size) := Lib.hid (by have := HZ21.out; have := HX22.out.size; simp at this; omega)
          have hck2 : ¬ i = cap := by omega
          have hck3 : ¬ (i : Int) = (cap : Int) := by omega
          go_wp2_with (at_builtin; refine append_rowX rfl _ _ 30 rfl kdE (w.heap.size + 1) 72 i0 _ 16 Tryz.underlying30 HII.out.1 HII.out.2.1 HII.out.2.2.1 HII.out.2.2.2 rfl (by omega) v22 _ rfl HO22.out _ _ _ rfl (L.drop (i)) (by have := HLN.out; rw [List.length_drop]; omega) (fun h => by cases h) (fun ad h j u hj => by cases h; exact HDC.out _ HW22.out j u hj) (kd_one _) (fun _ _ _ => trivial) (by have h1 := HL22.out; omega) HZ22.out ?_; intro v23 w23 hown23 hb23; have HO23 := Lib.hid hown23; have HX23 := Lib.hid hb23; clear hown23 hb23)
          go_wp2
          go_ret2
          exact HEND2.out _ _ HO23.out (HW22.out.trans (HX23.out.mono (Nat.le_succ _)))
    · obtain rfl : i = l.length := by omega
      have HP := Lib.hid (HPOS.out l.length hi HSC.out fun y hy => by rw [List.getElem?_eq_none (Nat.le_refl _)] at hy; cases hy)
      obtain rfl := HNEW.out HK1.out l.length HP.out fun y hy => by rw [List.getElem?_eq_none (Nat.le_refl _)] at hy; cases hy
      clear HHAD HNEW HPOS HSC HB
      have hself : Below wr.heap.size wr wr := Below.refl _ _
      have hdrew : Below wr.heap.size wr wr.drew := hself.drew
      go_upto_region 4 with (fail)
      refine wp_region_held_drew (S := (fun w' => Below wr.heap.size wr w')) (by kernel_rfl) (by (try dsimp only); go_keep) (fun hHeld => ?_)
      (refine wpAnyH_take (i := 0) (oi := ⟨_, _, _, _, _, _⟩) (v := ?_) rfl (by kernel_rfl) (by kernel_rfl) (by kernel_rfl) (fun _ _ _ h => h) (Or.inl ⟨by rfl, ?_⟩) (by assumption) ?_; rotate_left; focus ((intro w' hSw; (try dsimp only at hSw); go_simp; (try with_reducible rfl)))); (try simp only [Act.put, List.setIfInBounds_toArray, List.set_cons_zero, List.set_cons_succ])
      (refine wpAnyH_take (i := 1) (oi := ⟨_, _, _, _, _, _⟩) (v := ?_) rfl (by kernel_rfl) (by kernel_rfl) (by kernel_rfl) (fun _ _ _ h => h) (Or.inl ⟨by rfl, ?_⟩) (by assumption) ?_; rotate_left; focus ((intro w' hSw; (try dsimp only at hSw); go_simp; (try with_reducible rfl)))); (try simp only [Act.put, List.setIfInBounds_toArray, List.set_cons_zero, List.set_cons_succ])
      (refine wpAnyH_take (i := 2) (oi := ⟨_, _, _, _, _, _⟩) (v := ?_) rfl (by kernel_rfl) (by kernel_rfl) (by kernel_rfl) (fun _ _ _ h => h) (Or.inl ⟨by rfl, ?_⟩) (by assumption) ?_; rotate_left; focus ((intro w' hSw; (try dsimp only at hSw); go_simp; (try with_reducible rfl)))); (try simp only [Act.put, List.setIfInBounds_toArray, List.set_cons_zero, List.set_cons_succ])
      (refine wpAnyH_take (i := 3) (oi := ⟨_, _, _, _, _, _⟩) (v := ?_) rfl (by kernel_rfl) (by kernel_rfl) (by kernel_rfl) (fun _ _ _ h => h) (Or.inl ⟨by rfl, ?_⟩) (by assumption) ?_; rotate_left; focus ((intro w' hSw; (try dsimp only at hSw); go_simp; (try with_reducible rfl)))); (try simp only [Act.put, List.setIfInBounds_toArray, List.set_cons_zero, List.set_cons_succ])
      (refine wpAnyH_take (i := 4) (oi := ⟨_, _, _, _, _, _⟩) (v := ?_) rfl (by kernel_rfl) (by kernel_rfl) (by kernel_rfl) (fun _ _ _ h => h) (Or.inl ⟨by rfl, ?_⟩) (by assumption) ?_; rotate_left; focus ((intro w' hSw; (try dsimp only at hSw); go_simp; (try with_reducible rfl)))); (try simp only [Act.put, List.setIfInBounds_toArray, List.set_cons_zero, List.set_cons_succ])
      (refine wpAnyH_take (i := 5) (oi := ⟨_, _, _, _, _, _⟩) (v := undef) rfl (by kernel_rfl) (by kernel_rfl) (by kernel_rfl) (fun _ _ _ h => h) (Or.inr ⟨by rfl, rfl⟩) (by assumption) ?_); (try simp only [Act.put, List.setIfInBounds_toArray, List.set_cons_zero, List.set_cons_succ])
      (refine wpAnyH_take (i := 6) (oi := ⟨_, _, _, _, _, _⟩) (v := undef) rfl (by kernel_rfl) (by kernel_rfl) (by kernel_rfl) (fun _ _ _ h => h) (Or.inr ⟨by rfl, rfl⟩) (by assumption) ?_); (try simp only [Act.put, List.setIfInBounds_toArray, List.set_cons_zero, List.set_cons_succ])
      (refine wpAnyH_take (i := 7) (oi := ⟨_, _, _, _, _, _⟩) (v := undef) rfl (by kernel_rfl) (by kernel_rfl) (by kernel_rfl) (fun _ _ _ h => h) (Or.inr ⟨by rfl, rfl⟩) (by assumption) ?_); (try simp only [Act.put, List.setIfInBounds_toArray, List.set_cons_zero, List.set_cons_succ])
      (refine wpAnyH_take (i := 8) (oi := ⟨_, _, _, _, _, _⟩) (v := undef) rfl (by kernel_rfl) (by kernel_rfl) (by kernel_rfl) (fun _ _ _ h => h) (Or.inr ⟨by rfl, rfl⟩) (by assumption) ?_); (try simp only [Act.put, List.setIfInBounds_toArray, List.set_cons_zero, List.set_cons_succ])
      (refine wpAnyH_take (i := 9) (oi := ⟨_, _, _, _, _, _⟩) (v := undef) rfl (by kernel_rfl) (by kernel_rfl) (by kernel_rfl) (fun _ _ _ h => h) (Or.inr ⟨by rfl, rfl⟩) (by assumption) ?_); (try simp only [Act.put, List.setIfInBounds_toArray, List.set_cons_zero, List.set_cons_succ])
      (refine wpAnyH_take (i := 10) (oi := ⟨_, _, _, _, _, _⟩) (v := undef) rfl (by kernel_rfl) (by kernel_rfl) (by kernel_rfl) (fun _ _ _ h => h) (Or.inr ⟨by rfl, rfl⟩) (by assumption) ?_); (try simp only [Act.put, List.setIfInBounds_toArray, List.set_cons_zero, List.set_cons_succ])
      (refine wpAnyH_take (i := 11) (oi := ⟨_, _, _, _, _, _⟩) (v := undef) rfl (by kernel_rfl) (by kernel_rfl) (by kernel_rfl) (fun _ _ _ h => h) (Or.inr ⟨by rfl, rfl⟩) (by assumption) ?_); (try simp only [Act.put, List.setIfInBounds_toArray, List.set_cons_zero, List.set_cons_succ])
      (refine wpAnyH_take (i := 12) (oi := ⟨_, _, _, _, _, _⟩) (v := undef) rfl (by kernel_rfl) (by kernel_rfl) (by kernel_rfl) (fun _ _ _ h => h) (Or.inr ⟨by rfl, rfl⟩) (by assumption) ?_); (try simp only [Act.put, List.setIfInBounds_toArray, List.set_cons_zero, List.set_cons_succ])
      (refine wpAnyH_take (i := 13) (oi := ⟨_, _, _, _, _, _⟩) (v := ?_) rfl (by kernel_rfl) (by kernel_rfl) (by kernel_rfl) (fun _ _ _ h => h) (Or.inl ⟨by rfl, ?_⟩) (by assumption) ?_; rotate_left; focus ((intro w' hSw; (try dsimp only at hSw); go_simp; (try with_reducible rfl)))); (try simp only [Act.put, List.setIfInBounds_toArray, List.set_cons_zero, List.set_cons_succ])
      refine wpAnyH_done (by kernel_rfl) ?_ _
      go_upto_region 6 with (fail)
      have HWD : Hid (Below w.heap.size w wr.drew) := Lib.hid HWR.out.drew
      have HBD := Lib.hid (HBR.out.read hdrew)
      clear e0 e1 e2 e3 hself hdrew hHeld HWR HBR
      try clear d0 d1
      try clear HB
      generalize wr.drew = wr at HWD HBD ⊢
      have HWR := HWD
      have HBR := HBD
      obtain ⟨e0, e1, e2, e3⟩ := HBR.out.cells
      skip
      have hself : Below wr.heap.size wr wr := Below.refl _ _
      have hdrew : Below wr.heap.size wr wr.drew := hself.drew
      refine wp_region_held_drew (S := (fun w' => Below wr.heap.size wr w')) (by kernel_rfl) (by (try dsimp only); go_keep) (fun hHeld => ?_)
      (refine wpAnyH_take (i := 0) (oi := ⟨_, _, _, _, _, _⟩) (v := ?_) rfl (by kernel_rfl) (by kernel_rfl) (by kernel_rfl) (fun _ _ _ h => h) (Or.inl ⟨by rfl, ?_⟩) (by assumption) ?_; rotate_left; focus ((intro w' hSw; (try dsimp only at hSw); go_simp; (try with_reducible rfl)))); (try simp only [Act.put, List.setIfInBounds_toArray, List.set_cons_zero, List.set_cons_succ])
      (refine wpAnyH_take (i := 1) (oi := ⟨_, _, _, _, _, _⟩) (v := ?_) rfl (by kernel_rfl) (by kernel_rfl) (by kernel_rfl) (fun _ _ _ h => h) (Or.inl ⟨by rfl, ?_⟩) (by assumption) ?_; rotate_left; focus ((intro w' hSw; (try dsimp only at hSw); go_simp; (try with_reducible rfl)))); (try simp only [Act.put, List.setIfInBounds_toArray, List.set_cons_zero, List.set_cons_succ])
      (refine wpAnyH_take (i := 2) (oi := ⟨_, _, _, _, _, _⟩) (v := ?_) rfl (by kernel_rfl) (by kernel_rfl) (by kernel_rfl) (fun _ _ _ h => h) (Or.inl ⟨by rfl, ?_⟩) (by assumption) ?_; rotate_left; focus ((intro w' hSw; (try dsimp only at hSw); go_simp; (try with_reducible rfl)))); (try simp only [Act.put, List.setIfInBounds_toArray, List.set_cons_zero, List.set_cons_succ])
      (refine wpAnyH_take (i := 3) (oi := ⟨_, _, _, _, _, _⟩) (v := ?_) rfl (by kernel_rfl) (by kernel_rfl) (by kernel_rfl) (fun _ _ _ h => h) (Or.inl ⟨by rfl, ?_⟩) (by assumption) ?_; rotate_left; focus ((intro w' hSw; (try dsimp only at hSw); go_simp; (try with_reducible rfl)))); (try simp only [Act.put, List.setIfInBounds_toArray, List.set_cons_zero, List.set_cons_succ])
      (refine wpAnyH_take (i := 4) (oi := ⟨_, _, _, _, _, _⟩) (v := ?_) rfl (by kernel_rfl) (by kernel_rfl) (by kernel_rfl) (fun _ _ _ h => h) (Or.inl ⟨by rfl, ?_⟩) (by assumption) ?_; rotate_left; focus ((intro w' hSw; (try dsimp only at hSw); go_simp; (try with_reducible rfl)))); (try simp only [Act.put, List.setIfInBounds_toArray, List.set_cons_zero, List.set_cons_succ])
      (refine wpAnyH_take (i := 5) (oi := ⟨_, _, _, _, _, _⟩) (v := undef) rfl (by kernel_rfl) (by kernel_rfl) (by kernel_rfl) (fun _ _ _ h => h) (Or.inr ⟨by rfl, rfl⟩) (by assumption) ?_); (try simp only [Act.put, List.setIfInBounds_toArray, List.set_cons_zero, List.set_cons_succ])
      (refine wpAnyH_take (i := 6) (oi := ⟨_, _, _, _, _, _⟩) (v := undef) rfl (by kernel_rfl) (by kernel_rfl) (by kernel_rfl) (fun _ _ _ h => h) (Or.inr ⟨by rfl, rfl⟩) (by assumption) ?_); (try simp only [Act.put, List.setIfInBounds_toArray, List.set_cons_zero, List.set_cons_succ])
      (refine wpAnyH_take (i := 7) (oi := ⟨_, _, _, _, _, _⟩) (v := undef) rfl (by kernel_rfl) (by kernel_rfl) (by kernel_rfl) (fun _ _ _ h => h) (Or.inr ⟨by rfl, rfl⟩) (by assumption) ?_); (try simp only [Act.put, List.setIfInBounds_toArray, List.set_cons_zero, List.set_cons_succ])
      (refine wpAnyH_take (i := 8) (oi := ⟨_, _, _, _, _, _⟩) (v := undef) rfl (by kernel_rfl) (by kernel_rfl) (by kernel_rfl) (fun _ _ _ h => h) (Or.inr ⟨by rfl, rfl⟩) (by assumption) ?_); (try simp only [Act.put, List.setIfInBounds_toArray, List.set_cons_zero, List.set_cons_succ])
      (refine wpAnyH_take (i := 9) (oi := ⟨_, _, _, _, _, _⟩) (v := undef) rfl (by kernel_rfl) (by kernel_rfl) (by kernel_rfl) (fun _ _ _ h => h) (Or.inr ⟨by rfl, rfl⟩) (by assumption) ?_); (try simp only [Act.put, List.setIfInBounds_toArray, List.set_cons_zero, List.set_cons_succ])
      (refine wpAnyH_take (i := 10) (oi := ⟨_, _, _, _, _, _⟩) (v := undef) rfl (by kernel_rfl) (by kernel_rfl) (by kernel_rfl) (fun _ _ _ h => h) (Or.inr ⟨by rfl, rfl⟩) (by assumption) ?_); (try simp only [Act.put, List.setIfInBounds_toArray, List.set_cons_zero, List.set_cons_succ])
      (refine wpAnyH_take (i := 11) (oi := ⟨_, _, _, _, _, _⟩) (v := undef) rfl (by kernel_rfl) (by kernel_rfl) (by kernel_rfl) (fun _ _ _ h => h) (Or.inr ⟨by rfl, rfl⟩) (by assumption) ?_); (try simp only [Act.put, List.setIfInBounds_toArray, List.set_cons_zero, List.set_cons_succ])
      (refine wpAnyH_take (i := 12) (oi := ⟨_, _, _, _, _, _⟩) (v := undef) rfl (by kernel_rfl) (by kernel_rfl) (by kernel_rfl) (fun _ _ _ h => h) (Or.inr ⟨by rfl, rfl⟩) (by assumption) ?_); (try simp only [Act.put, List.setIfInBounds_toArray, List.set_cons_zero, List.set_cons_succ])
      (refine wpAnyH_take (i := 13) (oi := ⟨_, _, _, _, _, _⟩) (v := ?_) rfl (by kernel_rfl) (by kernel_rfl) (by kernel_rfl) (fun _ _ _ h => h) (Or.inl ⟨by rfl, ?_⟩) (by assumption) ?_; rotate_left; focus ((intro w' hSw; (try dsimp only at hSw); go_simp; (try with_reducible rfl)))); (try simp only [Act.put, List.setIfInBounds_toArray, List.set_cons_zero, List.set_cons_succ])
      refine wpAnyH_done (by kernel_rfl) ?_ _
      go_upto_region 8 with (fail)
      have HWD : Hid (Below w.heap.size w wr.drew) := Lib.hid HWR.out.drew
      have HBD := Lib.hid (HBR.out.read hdrew)
      clear e0 e1 e2 e3 hself hdrew hHeld HWR HBR
      try clear d0 d1
      try clear HB
      generalize wr.drew = wr at HWD HBD ⊢
      have HWR := HWD
      have HBR := HBD
      obtain ⟨e0, e1, e2, e3⟩ := HBR.out.cells
      skip
      have hself : Below wr.heap.size wr wr := Below.refl _ _
      have hdrew : Below wr.heap.size wr wr.drew := hself.drew
      have HZ1 : Hid (w.heap.size + 1 ≤ wr.heap.size) := Lib.hid (by have := HBR.out.le; have := HNB.out; omega)
      have hz1 := HZ1.out
      have HRS := Lib.hid (rowX_start (E := kdE) (e := 72) (w := wr) (lo := w.heap.size + 1) hz1)
      have HWA : Hid (Below w.heap.size w (wr.alloc (.cells #[] 72))) := Lib.hid (HWR.out.alloc (by omega) _)
      have HBA := Lib.hid (HBR.out.read (belowAlloc (Below.refl _ _) (.cells #[] 72)))
      have HTC : Hid (∀ (W : World), Below w.heap.size w W → ∀ (j : Nat) (u : Value), (cellsE kdE (L.take (l.length)))[j]? = some u → W.cell? ((⟨g, off, none⟩ : Addr).add j) = some u) := Lib.hid fun W hW j u hj => by
        rw [addr_add]
        refine HCELL.out W hW j u ?_
        rw [← List.take_append_drop (l.length) L, cellsE_append, List.getElem?_append_left (List.getElem?_eq_some_iff.1 hj).1]
        exact hj
      have HDC : Hid (∀ (W : World), Below w.heap.size w W → ∀ (j : Nat) (u : Value), (cellsE kdE (L.drop (l.length)))[j]? = some u → W.cell? ((⟨g, off + (l.length) * 2, none⟩ : Addr).add j) = some u) := Lib.hid fun W hW j u hj => by
        have hlk : (cellsE kdE (L.take (l.length))).length = (l.length) * 2 := by rw [cellsE_length, List.length_take, show min (l.length) L.length = (l.length) from by have := HLN.out; omega]; rfl
        have e := HCELL.out W hW ((l.length) * 2 + j) u (by rw [← List.take_append_drop (l.length) L, cellsE_append, List.getElem?_append_right (by rw [hlk]; omega), hlk, Nat.add_sub_cancel_left]; exact hj)
        rw [← Nat.add_assoc] at e
        rw [addr_add]
        exact e
      have HEND2 : Hid (∀ v W, RowX kdE 72 W (w.heap.size + 1) v ((([] ++ (L.take (l.length)).map Prod.fst) ++ [((⟨t.num, k⟩ : Kd), Value.slice none 0 0)].map Prod.fst) ++ (L.drop (l.length)).map Prod.fst) → Below w.heap.size w W → AkP (insK l (l.length) ⟨t.num, k⟩) true w (.returned (.tuple #[v, .bool true])) W) := Lib.hid fun v W h hW => by
        have e : insK l (l.length) ⟨t.num, k⟩ = (([] ++ (L.take (l.length)).map Prod.fst) ++ [((⟨t.num, k⟩ : Kd), Value.slice none 0 0)].map Prod.fst) ++ (L.drop (l.length)).map Prod.fst := by
          have h1 : l.take l.length = (L.take l.length).map Prod.fst := by rw [List.map_take, ← HLL.out]
          have h2 : l.drop l.length = (L.drop l.length).map Prod.fst := by rw [List.map_drop, ← HLL.out]
          rw [insK, h1, h2]
          simp
        rw [← e] at h
        exact ⟨v, rfl, h.list, h.cap (by rw [insK, List.length_append, List.length_cons]; omega), hW⟩
      have hKI : (((l.length : Nat)) : Int) ≤ (l.length : Int) := by omega
      have hKC : (((l.length : Nat)) : Int) ≤ (cap : Int) := by omega
      have hK0 : (0 : Int) ≤ ((l.length : Nat) : Int) := by omega
      have hcI : (0 : Int) ≤ (cap : Int) := by omega
      clear hz1
      go_upto_region 9 with (at_builtin; refine append_rowX rfl _ _ 30 rfl kdE (w.heap.size + 1) 72 i0 _ 16 Tryz.underlying30 HII.out.1 HII.out.2.1 HII.out.2.2.1 HII.out.2.2.2 rfl (by omega) _ _ rfl HRS.out (some ⟨g, off, none⟩) (l.length) cap rfl (L.take (l.length)) (by have := HLN.out; rw [List.length_take]; omega) (fun h => by cases h) (fun ad h j u hj => by cases h; exact HTC.out _ HWA.out j u hj) (kd_one _) (fun _ _ _ => trivial) (by simp; omega) (by have := HZ1.out; simp at this ⊢; omega) ?_; intro v21 w21 hown21 hb21; have HO21 := Lib.hid hown21; have HX21 := Lib.hid hb21; clear hown21 hb21)
      have HW21 : Hid (Below w.heap.size w w21) := Lib.hid (HWA.out.trans (HX21.out.mono (Nat.le_succ _)))
      have HB21 := Lib.hid (HBA.out.of_below HX21.out (by have := HNB.out; omega))
      obtain ⟨q0, q1', q2', q3⟩ := HB21.out.cells
      have HR21 := Lib.hid (HO21.out.kept (belowAlloc (Below.refl _ _) (.cells #[.int .i64 t.num, .int .i64 k] 72)))
      have HWB : Hid (Below w.heap.size w (w21.alloc (.cells #[.int .i64 t.num, .int .i64 k] 72))) := Lib.hid (HW21.out.alloc HW21.out.size _)
      have HL21 : Hid (([] ++ (L.take (l.length)).map Prod.fst : List Kd).length ≤ 1048577) := Lib.hid (by rw [List.nil_append, List.length_map, List.length_take]; omega)
      have HZ21 : Hid (w.heap.size + 1 ≤ w21.heap.size) := Lib.hid (by have := HZ1.out; have := HX21.out.size; simp at this; omega)
      clear HRS HX21 HWA HBA HTC
      go_upto_region 10 with (at_builtin; refine append_rowX rfl _ _ 30 rfl kdE (w.heap.size + 1) 72 i0 _ 16 Tryz.underlying30 HII.out.1 HII.out.2.1 HII.out.2.2.1 HII.out.2.2.2 rfl (by omega) v21 _ rfl HR21.out (some ⟨w21.heap.size, 0, none⟩) 1 1 rfl [((⟨t.num, k⟩ : Kd), Value.slice none 0 0)] rfl (fun h => by cases h) (fun ad h j u hj => by cases h; rw [cellsE_one] at hj; exact World.news_of_block (heap_alloc_new w21 _) j u hj) (kd_one _) (fun _ _ _ => trivial) (by have := HL21.out; omega) (by have := HZ21.out; simp; omega) ?_; intro v22 w22 hown22 hb22; have HO22 := Lib.hid hown22; have HX22 := Lib.hid hb22; clear hown22 hb22)
      have HW22 : Hid (Below w.heap.size w w22) := Lib.hid (HWB.out.trans (HX22.out.mono (Nat.le_succ _)))
      have HL22 : Hid ((([] ++ (L.take (l.length)).map Prod.fst) ++ [((⟨t.num, k⟩ : Kd), Value.slice none 0 0)].map Prod.fst : List Kd).length ≤ 1048578) := Lib.hid (by have := HL21.out; rw [List.length_append]; exact Nat.succ_le_succ this)
      have HZ22 : Hid (w.heap.size + 1 ≤ w22.heap.size) := Lib.hid (by have := HZ21.out; have := HX22.out.size; simp at this; omega)
      by_cases hck : cap = l.length
      · subst hck
        go_wp2_with (at_builtin; refine append_rowX rfl _ _ 30 rfl kdE (w.heap.size + 1) 72 i0 _ 16 Tryz.underlying30 HII.out.1 HII.out.2.1 HII.out.2.2.1 HII.out.2.2.2 rfl (by omega) v22 _ rfl HO22.out _ _ _ rfl (L.drop (l.length)) (by have := HLN.out; rw [List.length_drop]; omega) (fun h => by cases h) (fun ad h j u hj => by rw [List.drop_of_length_le (by have h1 := HLN.out; omega)] at hj; simp [cellsE] at hj) (kd_one _) (fun _ _ _ => trivial) (by have h1 := HL22.out; omega) HZ22.out ?_; intro v23 w23 hown23 hb23; have HO23 := Lib.hid hown23; have HX23 := Lib.hid hb23; clear hown23 hb23)
        go_wp2
        go_ret2
        exact HEND2.out _ _ HO23.out (HW22.out.trans (HX23.out.mono (Nat.le_succ _)))
      · have hck2 : ¬ l.length = cap := fun e => hck e.symm
        have hck3 : ¬ (l.length : Int) = (cap : Int) := by omega
        go_wp2_with (at_builtin; refine append_rowX rfl _ _ 30 rfl kdE (w.heap.size + 1) 72 i0 _ 16 Tryz.underlying30 HII.out.1 HII.out.2.1 HII.out.2.2.1 HII.out.2.2.2 rfl (by omega) v22 _ rfl HO22.out _ _ _ rfl (L.drop (l.length)) (by have := HLN.out; rw [List.length_drop]; omega) (fun h => by cases h) (fun ad h j u hj => by cases h; exact HDC.out _ HW22.out j u hj) (kd_one _) (fun _ _ _ => trivial) (by have h1 := HL22.out; omega) HZ22.out ?_; intro v23 w23 hown23 hb23; have HO23 := Lib.hid hown23; have HX23 := Lib.hid hb23; clear hown23 hb23)
        go_wp2
        go_ret2
        exact HEND2.out _ _ HO23.out (HW22.out.trans (HX23.out.mono (Nat.le_succ _)))
end Go.Proofs.YtnmdnajbafpfiaaGreat

