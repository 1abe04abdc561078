/-
  A list of Marks cut where the variable changes, plain; the program's byVariable. (Written by wip/tools/gen_demgr.py.)
-/
import Derived.Test.YtnmdnajbafpfiaaDemJM
import Derived.Test.YtnmdnajbafpfiaaDemH
import Derived.Deep.RegionHeld3
import Derived.Handy
namespace Go.Proofs.Ytnmdnajbafpfiaa
open Go.RowKit
set_option linter.unusedVariables false
set_option linter.unusedSimpArgs false

/-- The elements from st to k have one variable. -/
def ChainM (l : List Mk) (st k : Nat) : Prop := ∀ (j : Nat) (x y : Mk), st ≤ j → j < k → l[j]? = some x → l[j + 1]? = some y → x.v = y.v
/-- Lists that are not empty and have one variable each; together they are the first st elements. -/
def GrpM (l : List Mk) (G : List (List Mk)) (st : Nat) : Prop := (∀ L ∈ G, L ≠ [] ∧ ∃ v, ∀ x ∈ L, x.v = v) ∧ G.flatten = l.take st
theorem chainM_all {l : List Mk} {st k : Nat} (h : ChainM l st k) (hk : k < l.length) {x : Mk} (hx : l[st]? = some x) : ∀ (d : Nat) (y : Mk), st + d ≤ k → l[st + d]? = some y → y.v = x.v := by
  intro d
  induction d with
  | zero => intro y _ hy; cases hx.symm.trans hy; rfl
  | succ d ih =>
    intro y hd hy
    obtain ⟨z, hz⟩ : ∃ z, l[st + d]? = some z := ⟨_, List.getElem?_eq_getElem (by omega)⟩
    rw [← ih z (by omega) hz]
    exact (h (st + d) z y (by omega) (by omega) hz hy).symm
theorem grpM_snoc {l : List Mk} {G : List (List Mk)} {st k : Nat} (h : GrpM l G st) (hk : st ≤ k) (hk2 : k < l.length) (hc : ChainM l st k) : GrpM l (G ++ [(l.take (k + 1)).drop st]) (k + 1) := by
  refine ⟨fun L hL => ?_, ?_⟩
  · rcases List.mem_append.1 hL with hL | hL
    · exact h.1 L hL
    · rw [List.mem_singleton] at hL
      subst hL
      refine ⟨fun e => ?_, ?_⟩
      · have := congrArg List.length e
        rw [List.length_drop, List.length_take] at this
        simp at this
        omega
      · obtain ⟨x, hx⟩ : ∃ x, l[st]? = some x := ⟨_, List.getElem?_eq_getElem (by omega)⟩
        refine ⟨x.v, fun y hy => ?_⟩
        obtain ⟨d, hd⟩ := List.getElem?_of_mem hy
        rw [List.getElem?_drop, List.getElem?_take] at hd
        split at hd
        · exact chainM_all hc hk2 hx d y (by omega) hd
        · cases hd
  · rw [List.flatten_append, h.2]
    show l.take st ++ ((l.take (k + 1)).drop st ++ []) = _
    rw [List.append_nil]
    have e : (l.take (k + 1)).take st = l.take st := by rw [List.take_take, Nat.min_eq_left (by omega)]
    rw [← e, List.take_append_drop]
theorem fieldNumM (v : Int) (W : World) : (Instr.field 28 (.agg #[.int .i64 1, .int .i64 v, .string ⟨#[]⟩, .slice none 0 0]) 1).run Try.prog W = .ok (.int .i64 v) W := by kernel_rfl
theorem infoDLM : (Try.prog.info? 86).map (fun i => (i.zero, i.size, i.bytes)) = some (some (.slice none 0 0), 1, 24) := by kernel_rfl
/-- What byVariable gives. -/
def ByVM (l : List Mk) (w : World) (e : Ending) (w' : World) : Prop :=
  ∃ (u : Value) (gs : List Value) (G : List (List Mk)), e = .returned u ∧ Row w' w.heap.size 86 u gs ∧ gs.length = G.length ∧ (∀ (j : Nat) (p : Value) (L : List Mk), gs[j]? = some p → G[j]? = some L → ListS mkE w Any p L) ∧ GrpM l G l.length ∧ Below w.heap.size w w'

set_option maxRecDepth 100000 in
set_option maxHeartbeats 16000000 in
theorem mkByVariable_any (l : List Mk) (V : Value) (w : World) (hA : ListS mkE w Any V l) (hC : CapL V l.length) (hL : l.length ≤ 1048577) :
    Calls Try.prog 81 #[V] w (ByVM l w) := by
  obtain ⟨A0, cap, rfl, hnc, hcm, _⟩ := hC.slice
  obtain ⟨i1, hi, hz0, hz1, hz2⟩ := info_parts infoDLM
  have HII := Lib.hid (And.intro hi (And.intro hz0 (And.intro hz1 hz2)))
  obtain ⟨nl, hnl⟩ : ∃ n : Nat, n = l.length := ⟨_, rfl⟩
  rw [← hnl] at hA hnc hL
  rw [← hnl]
  have HNL := Lib.hid hnl
  have HA := Lib.hid hA
  clear hi hz0 hz1 hz2 hA hC hnl
  go_enter Try.func81, Try.ntmps81
  go_wp2
  go_loopw [3, 4, 10] (fun v3 sv kv wr => ∃ (k st : Nat) (gs : List Value) (G : List (List Mk)), k ≤ nl ∧ kv = .int .i64 k ∧ sv = .int .i64 st ∧ st ≤ k ∧ Hid (Row wr w.heap.size 86 v3 gs) ∧ Hid (gs.length = G.length ∧ ∀ (j : Nat) (p : Value) (L : List Mk), gs[j]? = some p → G[j]? = some L → ListS mkE w Any p L) ∧ Hid (gs.length ≤ st) ∧ Hid (GrpM l G st) ∧ Hid (ChainM l st k) ∧ Hid (k = nl → st = nl) ∧ Hid (Below w.heap.size w wr)) (fun _ _ kv _ => nl - (intOf kv).toNat)
  case atStart => exact ⟨0, 0, [], [], Nat.zero_le _, rfl, rfl, Nat.le_refl _, Lib.hid (Row.nil _ _ _), Lib.hid ⟨rfl, fun j p L h => by simp at h⟩, Lib.hid (Nat.le_refl _), Lib.hid ⟨fun L h => by simp at h, by simp⟩, Lib.hid (fun j x y _ h => absurd h (Nat.not_lt_zero _)), Lib.hid id, Lib.hid (Below.refl _ _)⟩
  case round =>
    obtain ⟨k, st, gs, G, hk, rfl, rfl, hst, HROW, HGS, HGL, HG, HCH, HEN, HB⟩ := hrel
    by_cases hlt : k < nl
    · have hltI : (k : Int) < (nl : Int) := by omega
      have hk0 : (0 : Int) ≤ (k : Int) := by omega
      have hs0 : (0 : Int) ≤ (st : Int) := by omega
      obtain ⟨x, hx⟩ : ∃ x, l[k]? = some x := ⟨_, List.getElem?_eq_getElem (by rw [← HNL.out]; exact hlt)⟩
      obtain ⟨g, off, rfl, hg, hq, hc⟩ := HA.out.mk hx
      obtain ⟨d0, d1⟩ := hc wr HB.out
      have HX := Lib.hid hx
      obtain ⟨xv, xs⟩ := x
      have hkc : (k : Int) + 1 = ((k + 1 : Nat) : Int) := by omega
      obtain ⟨sg, so, hsv, hsl⟩ := cut_mid (E := mkE) 86 49 Try.underlying86 (fun W => by kernel_rfl) HNL.out HA.out (lo := st) (hi := k + 1) (by omega) (by omega) hnc hkc
      have HSV := Lib.hid hsv
      have HSL := Lib.hid hsl
      clear hx hq hc hsv hsl hkc
      go_upto_region 7 with (fail)
      have hal : Below wr.heap.size wr (wr.alloc (.cells #[.int .i64 xv, .string xs] 49)) := belowAlloc (Below.refl _ _) _
      have HBX := Lib.hid (at_box_of wr #[.int .i64 xv, .string xs] 49 wr.heap.size rfl)
      have HW1 := Lib.hid (belowOn HB.out (Nat.le_refl _) hal)
      have HR1 := Lib.hid (HROW.out.kept hal)
      obtain ⟨nb, hnb⟩ : ∃ n : Nat, n = wr.heap.size := ⟨_, rfl⟩
      clear hal d0 d1
      rw [← hnb] at HBX ⊢
      have HGB : Hid (g < nb) := Lib.hid (by have := HB.out.size; omega)
      clear hnb HB HROW
      generalize hw1 : wr.alloc (.cells #[.int .i64 xv, .string xs] 49) = w1 at HBX HW1 HR1 ⊢
      clear hw1
      have hself : Below w1.heap.size w1 w1 := Below.refl _ _
      have hdrew : Below w1.heap.size w1 w1.drew := hself.drew
      have HTR : Hid (∀ a b, Below w1.heap.size w1 a → Below a.heap.size a b → Below w1.heap.size w1 b) := Lib.hid fun a b h1 h2 => belowOn h1 (Nat.le_refl _) h2
      have HCB : Hid (∀ W, Below w1.heap.size w1 W → W.cell? ⟨nb, 0, none⟩ = some (.int .i64 xv) ∧ W.cell? ⟨nb, 1, none⟩ = some (.string xs)) := Lib.hid fun W hW => by
        obtain ⟨y0, y1, _⟩ := box_cells2mk (HBX.out.read hW).now
        exact ⟨y0, y1⟩
      obtain ⟨e0, e1⟩ := HCB.out w1 hself
      by_cases hend : k + 1 = nl
      · have qe : ((k : Int) + 1 == (nl : Int)) = true := by rw [beq_iff_eq]; omega
        have qn : (k + 1 == nl) = true := by rw [beq_iff_eq]; exact hend
        refine wp_region_held_drew (S := (fun w' => Below w1.heap.size w1 w')) (by kernel_rfl) (by (try dsimp only); go_keep) (fun hHeld => ?_)
        (refine wpAnyH_take (i := 0) (oi := ⟨_, _, _, _, _, _⟩) (v := ?_) rfl (by kernel_rfl) (by kernel_rfl) (by kernel_rfl) (fun _ _ _ h => h) (Or.inl ⟨by rfl, ?_⟩) (by assumption) ?_; rotate_left; focus ((intro w' hSw; (try dsimp only at hSw); go_simp; (try with_reducible rfl)))); (try simp only [Act.put, List.setIfInBounds_toArray, List.set_cons_zero, List.set_cons_succ])
        (refine wpAnyH_take (i := 1) (oi := ⟨_, _, _, _, _, _⟩) (v := ?_) rfl (by kernel_rfl) (by kernel_rfl) (by kernel_rfl) (fun _ _ _ h => h) (Or.inl ⟨by rfl, ?_⟩) (by assumption) ?_; rotate_left; focus ((intro w' hSw; (try dsimp only at hSw); go_simp; (try with_reducible rfl)))); (try simp only [Act.put, List.setIfInBounds_toArray, List.set_cons_zero, List.set_cons_succ])
        (refine wpAnyH_take (i := 2) (oi := ⟨_, _, _, _, _, _⟩) (v := ?_) rfl (by kernel_rfl) (by kernel_rfl) (by kernel_rfl) (fun _ _ _ h => h) (Or.inl ⟨by rfl, ?_⟩) (by assumption) ?_; rotate_left; focus ((intro w' hSw; (try dsimp only at hSw); go_simp; (try with_reducible rfl)))); (try simp only [Act.put, List.setIfInBounds_toArray, List.set_cons_zero, List.set_cons_succ])
        (refine wpAnyH_take (i := 3) (oi := ⟨_, _, _, _, _, _⟩) (v := ?_) rfl (by kernel_rfl) (by kernel_rfl) (by kernel_rfl) (fun _ _ _ h => h) (Or.inl ⟨by rfl, ?_⟩) (by assumption) ?_; rotate_left; focus ((intro w' hSw; (try dsimp only at hSw); go_simp; (try with_reducible rfl)))); (try simp only [Act.put, List.setIfInBounds_toArray, List.set_cons_zero, List.set_cons_succ])
        (refine wpAnyH_take (i := 4) (oi := ⟨_, _, _, _, _, _⟩) (v := ?_) rfl (by kernel_rfl) (by kernel_rfl) (by kernel_rfl) (fun _ _ _ h => h) (Or.inl ⟨by rfl, ?_⟩) (by assumption) ?_; rotate_left; focus ((intro w' hSw; (try dsimp only at hSw); go_simp; (try with_reducible rfl)))); (try simp only [Act.put, List.setIfInBounds_toArray, List.set_cons_zero, List.set_cons_succ])
        (refine wpAnyH_take (i := 5) (oi := ⟨_, _, _, _, _, _⟩) (v := undef) rfl (by kernel_rfl) (by kernel_rfl) (by kernel_rfl) (fun _ _ _ h => h) (Or.inr ⟨by rfl, rfl⟩) (by assumption) ?_); (try simp only [Act.put, List.setIfInBounds_toArray, List.set_cons_zero, List.set_cons_succ])
        (refine wpAnyH_take (i := 6) (oi := ⟨_, _, _, _, _, _⟩) (v := undef) rfl (by kernel_rfl) (by kernel_rfl) (by kernel_rfl) (fun _ _ _ h => h) (Or.inr ⟨by rfl, rfl⟩) (by assumption) ?_); (try simp only [Act.put, List.setIfInBounds_toArray, List.set_cons_zero, List.set_cons_succ])
        (refine wpAnyH_take (i := 7) (oi := ⟨_, _, _, _, _, _⟩) (v := undef) rfl (by kernel_rfl) (by kernel_rfl) (by kernel_rfl) (fun _ _ _ h => h) (Or.inr ⟨by rfl, rfl⟩) (by assumption) ?_); (try simp only [Act.put, List.setIfInBounds_toArray, List.set_cons_zero, List.set_cons_succ])
        (refine wpAnyH_take (i := 8) (oi := ⟨_, _, _, _, _, _⟩) (v := undef) rfl (by kernel_rfl) (by kernel_rfl) (by kernel_rfl) (fun _ _ _ h => h) (Or.inr ⟨by rfl, rfl⟩) (by assumption) ?_); (try simp only [Act.put, List.setIfInBounds_toArray, List.set_cons_zero, List.set_cons_succ])
        (refine wpAnyH_take (i := 9) (oi := ⟨_, _, _, _, _, _⟩) (v := undef) rfl (by kernel_rfl) (by kernel_rfl) (by kernel_rfl) (fun _ _ _ h => h) (Or.inr ⟨by rfl, rfl⟩) (by assumption) ?_); (try simp only [Act.put, List.setIfInBounds_toArray, List.set_cons_zero, List.set_cons_succ])
        (refine wpAnyH_take (i := 10) (oi := ⟨_, _, _, _, _, _⟩) (v := undef) rfl (by kernel_rfl) (by kernel_rfl) (by kernel_rfl) (fun _ _ _ h => h) (Or.inr ⟨by rfl, rfl⟩) (by assumption) ?_); (try simp only [Act.put, List.setIfInBounds_toArray, List.set_cons_zero, List.set_cons_succ])
        (refine wpAnyH_take (i := 11) (oi := ⟨_, _, _, _, _, _⟩) (v := undef) rfl (by kernel_rfl) (by kernel_rfl) (by kernel_rfl) (fun _ _ _ h => h) (Or.inr ⟨by rfl, rfl⟩) (by assumption) ?_); (try simp only [Act.put, List.setIfInBounds_toArray, List.set_cons_zero, List.set_cons_succ])
        (refine wpAnyH_take (i := 12) (oi := ⟨_, _, _, _, _, _⟩) (v := undef) rfl (by kernel_rfl) (by kernel_rfl) (by kernel_rfl) (fun _ _ _ h => h) (Or.inr ⟨by rfl, rfl⟩) (by assumption) ?_); (try simp only [Act.put, List.setIfInBounds_toArray, List.set_cons_zero, List.set_cons_succ])
        (refine wpAnyH_take (i := 13) (oi := ⟨_, _, _, _, _, _⟩) (v := undef) rfl (by kernel_rfl) (by kernel_rfl) (by kernel_rfl) (fun _ _ _ h => h) (Or.inr ⟨by rfl, rfl⟩) (by assumption) ?_); (try simp only [Act.put, List.setIfInBounds_toArray, List.set_cons_zero, List.set_cons_succ])
        (refine wpAnyH_take (i := 14) (oi := ⟨_, _, _, _, _, _⟩) (v := undef) rfl (by kernel_rfl) (by kernel_rfl) (by kernel_rfl) (fun _ _ _ h => h) (Or.inr ⟨by rfl, rfl⟩) (by assumption) ?_); (try simp only [Act.put, List.setIfInBounds_toArray, List.set_cons_zero, List.set_cons_succ])
        (refine wpAnyH_take (i := 15) (oi := ⟨_, _, _, _, _, _⟩) (v := undef) rfl (by kernel_rfl) (by kernel_rfl) (by kernel_rfl) (fun _ _ _ h => h) (Or.inr ⟨by rfl, rfl⟩) (by assumption) ?_); (try simp only [Act.put, List.setIfInBounds_toArray, List.set_cons_zero, List.set_cons_succ])
        (refine wpAnyH_take (i := 16) (oi := ⟨_, _, _, _, _, _⟩) (v := undef) rfl (by kernel_rfl) (by kernel_rfl) (by kernel_rfl) (fun _ _ _ h => h) (Or.inr ⟨by rfl, rfl⟩) (by assumption) ?_); (try simp only [Act.put, List.setIfInBounds_toArray, List.set_cons_zero, List.set_cons_succ])
        (refine wpAnyH_take (i := 17) (oi := ⟨_, _, _, _, _, _⟩) (v := ?_) rfl (by kernel_rfl) (by kernel_rfl) (by kernel_rfl) (fun _ _ _ h => h) (Or.inl ⟨by rfl, ?_⟩) (by assumption) ?_; rotate_left; focus ((intro w' hSw; (try dsimp only at hSw); go_simp; (try with_reducible rfl)))); (try simp only [Act.put, List.setIfInBounds_toArray, List.set_cons_zero, List.set_cons_succ])
        refine wpAnyH_done (by kernel_rfl) ?_ _
        have HW2 : Hid (Below w.heap.size w w1.drew) := Lib.hid HW1.out.drew
        have HR2 := Lib.hid (HR1.out.kept hdrew)
        have hwz : w.heap.size ≤ w1.heap.size := HW1.out.size
        clear HCB HBX HTR e0 e1 hself hdrew HR1
        try clear hHeld
        have hsl := HSL.out
        generalize w1.drew = w2 at HW2 HR2 ⊢
        have hwz2 : w.heap.size ≤ w2.heap.size := HW2.out.size
        clear hend
        go_wp2_with (at_builtin; refine append_one rfl _ _ 127 rfl w.heap.size 86 i1 _ 24 Try.underlying127 HII.out.1 HII.out.2.1 HII.out.2.2.1 HII.out.2.2.2 rfl (by omega) _ gs rfl HR2.out _ rfl rfl (by have := HGL.out; omega) hwz2 ?_; intro v8 w8 hown8 hb8; have HO8 := Lib.hid hown8; have HX8 := Lib.hid hb8; clear hown8 hb8)
        go_roundw
        case rel => exact ⟨k + 1, k + 1, gs ++ [.slice (some ⟨sg, so, none⟩) (k + 1 - st) (cap - st)], G ++ [(l.take (k + 1)).drop st], by omega, by go_num, by go_num, Nat.le_refl _, HO8, Lib.hid ⟨by rw [List.length_append, List.length_append, HGS.out.1]; rfl, fun j p L hp hL => by
          by_cases hj : j < gs.length
          · rw [List.getElem?_append_left hj] at hp
            rw [List.getElem?_append_left (by rw [← HGS.out.1]; exact hj)] at hL
            exact HGS.out.2 j p L hp hL
          · rw [List.getElem?_append_right (by omega)] at hp
            rw [List.getElem?_append_right (by rw [← HGS.out.1]; omega)] at hL
            have h0 : j - gs.length = 0 := by have := (List.getElem?_eq_some_iff.1 hp).1; simpa using this
            rw [h0] at hp
            rw [← HGS.out.1, h0] at hL
            simp at hp hL
            subst hp
            subst hL
            exact HSV.out⟩, Lib.hid (by rw [List.length_append, List.length_singleton]; have := HGL.out; omega), Lib.hid (grpM_snoc HG.out hst (by rw [← HNL.out]; exact hlt) HCH.out), Lib.hid (fun j a b h1 h2 => by omega), Lib.hid id, Lib.hid (HW2.out.trans HX8.out)⟩
        case measure => simp [intOf]; omega
      · have qe : ((k : Int) + 1 == (nl : Int)) = false := by rw [beq_eq_false_iff_ne]; omega
        have qn : (k + 1 == nl) = false := by rw [beq_eq_false_iff_ne]; exact hend
        have hnx : k + 1 < nl := by omega
        have hnxI : (k : Int) + 1 < (nl : Int) := by omega
        have hnx0 : (0 : Int) ≤ (k : Int) + 1 := by omega
        obtain ⟨y, hy⟩ : ∃ y, l[k + 1]? = some y := ⟨_, List.getElem?_eq_getElem (by rw [← HNL.out]; exact hnx)⟩
        obtain ⟨g', off', he, _, hq', hcy⟩ := HA.out.mk hy
        simp only [Option.some.injEq, Addr.mk.injEq, and_true] at he
        obtain ⟨rfl, rfl⟩ := he
        have HY := Lib.hid hy
        obtain ⟨yv, ys⟩ := y
        have HCY : Hid (∀ W, Below w1.heap.size w1 W → W.cell? ⟨g, off + (k + 1) * 2, none⟩ = some (.int .i64 yv) ∧ W.cell? ⟨g, off + (k + 1) * 2 + 1, none⟩ = some (.string ys)) := Lib.hid fun W hW => hcy W (belowOn HW1.out (Nat.le_refl _) hW)
        have HVX : Hid (∀ W, Calls Try.prog 157 #[.agg #[.int .i64 xv, .string xs]] W fun e w' => e = .returned (.agg #[.int .i64 1, .int .i64 xv, .string ⟨#[]⟩, .slice none 0 0]) ∧ Below W.heap.size W w') := Lib.hid fun W => mkVariable_any ⟨xv, xs⟩ W
        have HVY : Hid (∀ W, Calls Try.prog 157 #[.agg #[.int .i64 yv, .string ys]] W fun e w' => e = .returned (.agg #[.int .i64 1, .int .i64 yv, .string ⟨#[]⟩, .slice none 0 0]) ∧ Below W.heap.size W w') := Lib.hid fun W => mkVariable_any ⟨yv, ys⟩ W
        obtain ⟨c0, c1⟩ := HCY.out w1 hself
        have hfx := fieldNumM xv
        have hfy := fieldNumM yv
        have hgb : g < nb := HGB.out
        clear hy hq' hcy
        refine wp_region_held_drew (S := (fun w' => Below w1.heap.size w1 w' ∧ w'.cell? ⟨nb, 0, none⟩ = some (.int .i64 xv) ∧ w'.cell? ⟨nb, 1, none⟩ = some (.string xs) ∧ w'.cell? ⟨g, off + (k + 1) * 2, none⟩ = some (.int .i64 yv) ∧ w'.cell? ⟨g, off + (k + 1) * 2 + 1, none⟩ = some (.string ys))) (by kernel_rfl) (by (try dsimp only); go_keep) (fun hHeld => ?_)
        (refine wpAnyH_take (i := 0) (oi := ⟨_, _, _, _, _, _⟩) (v := ?_) rfl (by kernel_rfl) (by kernel_rfl) (by kernel_rfl) (fun _ _ _ h => h) (Or.inl ⟨by rfl, ?_⟩) (by assumption) ?_; rotate_left; focus ((intro w' hSw; (try dsimp only at hSw); go_simp; (try with_reducible rfl)))); (try simp only [Act.put, List.setIfInBounds_toArray, List.set_cons_zero, List.set_cons_succ])
        (refine wpAnyH_take (i := 1) (oi := ⟨_, _, _, _, _, _⟩) (v := ?_) rfl (by kernel_rfl) (by kernel_rfl) (by kernel_rfl) (fun _ _ _ h => h) (Or.inl ⟨by rfl, ?_⟩) (by assumption) ?_; rotate_left; focus ((intro w' hSw; (try dsimp only at hSw); go_simp; (try with_reducible rfl)))); (try simp only [Act.put, List.setIfInBounds_toArray, List.set_cons_zero, List.set_cons_succ])
        (refine wpAnyH_take (i := 2) (oi := ⟨_, _, _, _, _, _⟩) (v := ?_) rfl (by kernel_rfl) (by kernel_rfl) (by kernel_rfl) (fun _ _ _ h => h) (Or.inl ⟨by rfl, ?_⟩) (by assumption) ?_; rotate_left; focus ((intro w' hSw; (try dsimp only at hSw); go_simp; (try with_reducible rfl)))); (try simp only [Act.put, List.setIfInBounds_toArray, List.set_cons_zero, List.set_cons_succ])
        (refine wpAnyH_take (i := 3) (oi := ⟨_, _, _, _, _, _⟩) (v := ?_) rfl (by kernel_rfl) (by kernel_rfl) (by kernel_rfl) (fun _ _ _ h => h) (Or.inl ⟨by rfl, ?_⟩) (by assumption) ?_; rotate_left; focus ((intro w' hSw; (try dsimp only at hSw); go_simp; (try with_reducible rfl)))); (try simp only [Act.put, List.setIfInBounds_toArray, List.set_cons_zero, List.set_cons_succ])
        (refine wpAnyH_take (i := 4) (oi := ⟨_, _, _, _, _, _⟩) (v := ?_) rfl (by kernel_rfl) (by kernel_rfl) (by kernel_rfl) (fun _ _ _ h => h) (Or.inl ⟨by rfl, ?_⟩) (by assumption) ?_; rotate_left; focus ((intro w' hSw; (try dsimp only at hSw); go_simp; (try with_reducible rfl)))); (try simp only [Act.put, List.setIfInBounds_toArray, List.set_cons_zero, List.set_cons_succ])
        (refine wpAnyH_take (i := 5) (oi := ⟨_, _, _, _, _, _⟩) (v := ?_) rfl (by kernel_rfl) (by kernel_rfl) (by kernel_rfl) (fun _ _ _ h => h) (Or.inl ⟨by rfl, ?_⟩) (by assumption) ?_; rotate_left; focus ((intro w' hSw; (try dsimp only at hSw); go_simp; (try with_reducible rfl)))); (try simp only [Act.put, List.setIfInBounds_toArray, List.set_cons_zero, List.set_cons_succ])
        (refine wpAnyH_take (i := 6) (oi := ⟨_, _, _, _, _, _⟩) (v := ?_) rfl (by kernel_rfl) (by kernel_rfl) (by kernel_rfl) (fun _ _ _ h => h) (Or.inl ⟨by rfl, ?_⟩) (by assumption) ?_; rotate_left; focus ((intro w' hSw; (try dsimp only at hSw); go_simp; (try with_reducible rfl)))); (try simp only [Act.put, List.setIfInBounds_toArray, List.set_cons_zero, List.set_cons_succ])
        (refine wpAnyH_take (i := 7) (oi := ⟨_, _, _, _, _, _⟩) (v := ?_) rfl (by kernel_rfl) (by kernel_rfl) (by kernel_rfl) (fun _ _ _ h => h) (Or.inl ⟨by rfl, ?_⟩) (by assumption) ?_; rotate_left; focus ((intro w' hSw; (try dsimp only at hSw); go_simp; (try with_reducible rfl)))); (try simp only [Act.put, List.setIfInBounds_toArray, List.set_cons_zero, List.set_cons_succ])
        (refine wpAnyH_take (i := 8) (oi := ⟨_, _, _, _, _, _⟩) (v := ?_) rfl (by kernel_rfl) (by kernel_rfl) (by kernel_rfl) (fun _ _ _ h => h) (Or.inl ⟨by rfl, ?_⟩) (by assumption) ?_; rotate_left; focus ((intro w' hSw; (try dsimp only at hSw); go_simp; (try with_reducible rfl)))); (try simp only [Act.put, List.setIfInBounds_toArray, List.set_cons_zero, List.set_cons_succ])
        (refine wpAnyH_take (i := 9) (oi := ⟨_, _, _, _, _, _⟩) (v := ?_) rfl (by kernel_rfl) (by kernel_rfl) (by kernel_rfl) (fun _ _ _ h => h) (Or.inl ⟨by rfl, ?_⟩) (by assumption) ?_; rotate_left; focus ((intro w' hSw; (try dsimp only at hSw); go_simp; (try with_reducible rfl)))); (try simp only [Act.put, List.setIfInBounds_toArray, List.set_cons_zero, List.set_cons_succ])
        (refine wpAnyH_take (i := 12) (oi := ⟨_, _, _, _, _, _⟩) (v := ?_) rfl (by kernel_rfl) (by kernel_rfl) (by kernel_rfl) (fun _ _ _ h => h) (Or.inl ⟨by rfl, ?_⟩) (by assumption) ?_; rotate_left; focus ((intro w' hSw; (try dsimp only at hSw); go_simp; (try with_reducible rfl)))); (try simp only [Act.put, List.setIfInBounds_toArray, List.set_cons_zero, List.set_cons_succ])
        (refine wpAnyH_take (i := 13) (oi := ⟨_, _, _, _, _, _⟩) (v := ?_) rfl (by kernel_rfl) (by kernel_rfl) (by kernel_rfl) (fun _ _ _ h => h) (Or.inl ⟨by rfl, ?_⟩) (by assumption) ?_; rotate_left; focus ((intro w' hSw; (try dsimp only at hSw); go_simp; (try with_reducible rfl)))); (try simp only [Act.put, List.setIfInBounds_toArray, List.set_cons_zero, List.set_cons_succ])
        refine wpAnyH_ready (rs := [10]) (by kernel_rfl) (by simp) ?_
        refine AllReadyH.cons (o := ⟨_, _, _, _, _, _⟩) rfl (fun K hK => ?_) AllReadyH.nil
        go_simp
        (try (go_invoke; go_simp))
        (first | (go_at_call 157; (with_reducible refine Calls.mono (HVY.out _) ?_); rintro e w2 ⟨rfl, hb2⟩; have hB2 := HTR.out _ _ (by assumption) hb2; obtain ⟨k0, k1⟩ := HCB.out _ hB2; obtain ⟨k2, k3⟩ := HCY.out _ hB2))
        (try go_wp2_with fail)
        refine hK.out _ _ (by (try dsimp only); (first | go_keep | (refine ⟨by assumption, ?_⟩; go_keep))) (fun hHeld => ?_)
        clear hK K
        (try simp only [Act.put, List.setIfInBounds_toArray, List.set_cons_zero, List.set_cons_succ])
        (refine wpAnyH_take (i := 11) (oi := ⟨_, _, _, _, _, _⟩) (v := ?_) rfl (by kernel_rfl) (by kernel_rfl) (by kernel_rfl) (fun _ _ _ h => h) (Or.inl ⟨by rfl, ?_⟩) (by assumption) ?_; rotate_left; focus ((intro w' hSw; (try dsimp only at hSw); go_simp; (try with_reducible rfl)))); (try simp only [Act.put, List.setIfInBounds_toArray, List.set_cons_zero, List.set_cons_succ])
        refine wpAnyH_ready (rs := [14]) (by kernel_rfl) (by simp) ?_
        refine AllReadyH.cons (o := ⟨_, _, _, _, _, _⟩) rfl (fun K hK => ?_) AllReadyH.nil
        go_simp
        (try (go_invoke; go_simp))
        (first | (go_at_call 157; (with_reducible refine Calls.mono (HVX.out _) ?_); rintro e w3 ⟨rfl, hb3⟩; have hB3 := HTR.out _ _ hB2 hb3; clear k0 k1 k2 k3; obtain ⟨k0, k1⟩ := HCB.out _ hB3; obtain ⟨k2, k3⟩ := HCY.out _ hB3))
        (try go_wp2_with fail)
        refine hK.out _ _ (by (try dsimp only); (first | go_keep | (refine ⟨by assumption, ?_⟩; go_keep))) (fun hHeld => ?_)
        clear hK K
        (try simp only [Act.put, List.setIfInBounds_toArray, List.set_cons_zero, List.set_cons_succ])
        (refine wpAnyH_take (i := 15) (oi := ⟨_, _, _, _, _, _⟩) (v := ?_) rfl (by kernel_rfl) (by kernel_rfl) (by kernel_rfl) (fun _ _ _ h => h) (Or.inl ⟨by rfl, ?_⟩) (by assumption) ?_; rotate_left; focus ((intro w' hSw; (try dsimp only at hSw); go_simp; (try with_reducible rfl)))); (try simp only [Act.put, List.setIfInBounds_toArray, List.set_cons_zero, List.set_cons_succ])
        (refine wpAnyH_take (i := 16) (oi := ⟨_, _, _, _, _, _⟩) (v := ?_) rfl (by kernel_rfl) (by kernel_rfl) (by kernel_rfl) (fun _ _ _ h => h) (Or.inl ⟨by rfl, ?_⟩) (by assumption) ?_; rotate_left; focus ((intro w' hSw; (try dsimp only at hSw); go_simp; (try with_reducible rfl)))); (try simp only [Act.put, List.setIfInBounds_toArray, List.set_cons_zero, List.set_cons_succ])
        (refine wpAnyH_take (i := 17) (oi := ⟨_, _, _, _, _, _⟩) (v := ?_) rfl (by kernel_rfl) (by kernel_rfl) (by kernel_rfl) (fun _ _ _ h => h) (Or.inl ⟨by rfl, ?_⟩) (by assumption) ?_; rotate_left; focus ((intro w' hSw; (try dsimp only at hSw); go_simp; (try with_reducible rfl)))); (try simp only [Act.put, List.setIfInBounds_toArray, List.set_cons_zero, List.set_cons_succ])
        refine wpAnyH_done (by kernel_rfl) ?_ _
        have HB2 : Hid (Below w1.heap.size w1 w3) := Lib.hid hB3
        have HW2 : Hid (Below w.heap.size w w3) := Lib.hid (belowOn HW1.out (Nat.le_refl _) HB2.out)
        have HR2 := Lib.hid (HR1.out.kept HB2.out)
        have hwz2 : w.heap.size ≤ w3.heap.size := HW2.out.size
        clear HCB HBX HTR e0 e1 hself hdrew HR1 c0 c1 hHeld hfx hfy hB2 hB3 hb2 hb3 HVX HVY HCY HB2
        try clear k0 k1 k2 k3
        by_cases hv : yv = xv
        · have q1 : (yv != xv) = false := by simp [hv]
          have HNX : Hid (ChainM l st (k + 1)) := Lib.hid (fun j a b h1 h2 ha hb => by
            by_cases e : j = k
            · subst e
              cases ha.symm.trans HX.out
              cases hb.symm.trans HY.out
              exact hv.symm
            · exact HCH.out j a b h1 (by omega) ha hb)
          clear hv
          go_wp2
          go_roundw
          case rel => exact ⟨k + 1, st, gs, G, by omega, by go_num, rfl, by omega, HR2, HGS, HGL, HG, HNX, Lib.hid (fun e => absurd e hend), HW2⟩
          case measure => simp [intOf]; omega
        · have q1 : (yv != xv) = true := by rw [bne_iff_ne]; exact hv
          have hsl := HSL.out
          clear hv hend
          generalize w3 = w2 at HW2 HR2 hwz2 ⊢
          go_wp2_with (at_builtin; refine append_one rfl _ _ 127 rfl w.heap.size 86 i1 _ 24 Try.underlying127 HII.out.1 HII.out.2.1 HII.out.2.2.1 HII.out.2.2.2 rfl (by omega) _ gs rfl HR2.out _ rfl rfl (by have := HGL.out; omega) hwz2 ?_; intro v8 w8 hown8 hb8; have HO8 := Lib.hid hown8; have HX8 := Lib.hid hb8; clear hown8 hb8)
          go_roundw
          case rel => exact ⟨k + 1, k + 1, gs ++ [.slice (some ⟨sg, so, none⟩) (k + 1 - st) (cap - st)], G ++ [(l.take (k + 1)).drop st], by omega, by go_num, by go_num, Nat.le_refl _, HO8, Lib.hid ⟨by rw [List.length_append, List.length_append, HGS.out.1]; rfl, fun j p L hp hL => by
            by_cases hj : j < gs.length
            · rw [List.getElem?_append_left hj] at hp
              rw [List.getElem?_append_left (by rw [← HGS.out.1]; exact hj)] at hL
              exact HGS.out.2 j p L hp hL
            · rw [List.getElem?_append_right (by omega)] at hp
              rw [List.getElem?_append_right (by rw [← HGS.out.1]; omega)] at hL
              have h0 : j - gs.length = 0 := by have := (List.getElem?_eq_some_iff.1 hp).1; simpa using this
              rw [h0] at hp
              rw [← HGS.out.1, h0] at hL
              simp at hp hL
              subst hp
              subst hL
              exact HSV.out⟩, Lib.hid (by rw [List.length_append, List.length_singleton]; have := HGL.out; omega), Lib.hid (grpM_snoc HG.out hst (by rw [← HNL.out]; exact hlt) HCH.out), Lib.hid (fun j a b h1 h2 => by omega), Lib.hid id, Lib.hid (HW2.out.trans HX8.out)⟩
          case measure => simp [intOf]; omega
    · obtain rfl : nl = k := by omega
      have hse := HEN.out rfl
      have HGF : Hid (GrpM l G nl) := Lib.hid (by have h := HG.out; rw [hse] at h; exact h)
      clear hse
      go_wp2
      go_ret
      exact ⟨_, gs, G, rfl, HROW.out, HGS.out.1, HGS.out.2, by have h := HGF.out; rwa [HNL.out] at h, HB.out⟩
end Go.Proofs.Ytnmdnajbafpfiaa

