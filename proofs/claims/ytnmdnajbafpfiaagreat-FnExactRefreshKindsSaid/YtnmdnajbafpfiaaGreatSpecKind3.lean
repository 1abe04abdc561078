/-
  RefreshKinds: plain, and the model's. (Written by wip/tools/gen_speckind3.py.)
-/
import Derived.Test.YtnmdnajbafpfiaaGreatSpecKind2
import Derived.Test.YtnmdnajbafpfiaaGreatSpecU5
namespace Go.Proofs.YtnmdnajbafpfiaaGreat
open Go.RowKit
set_option linter.unusedVariables false
set_option linter.unusedSimpArgs false

/-- What is left of the requirements l, those of acc taken already. -/
def rfR (s : List Bd) : List Kd → List Kd → List Kd × Bool
  | [], acc => (acc, true)
  | x :: l, acc => if (akR acc (walkT s (varTm x.v)) x.k).2 = true then rfR s l (akR acc (walkT s (varTm x.v)) x.k).1 else ([], false)
theorem rfR_nil (s : List Bd) (acc : List Kd) : rfR s [] acc = (acc, true) := rfl
theorem rfR_on {s : List Bd} {l acc : List Kd} {k : Nat} {x : Kd} (hx : l[k]? = some x) (h : (akR acc (walkT s (varTm x.v)) x.k).2 = true) : rfR s (l.drop k) acc = rfR s (l.drop (k + 1)) (akR acc (walkT s (varTm x.v)) x.k).1 := by
  obtain ⟨hk, rfl⟩ := List.getElem?_eq_some_iff.1 hx
  rw [List.drop_eq_getElem_cons hk, rfR, if_pos h]
theorem rfR_off {s : List Bd} {l acc : List Kd} {k : Nat} {x : Kd} (hx : l[k]? = some x) (h : (akR acc (walkT s (varTm x.v)) x.k).2 = false) : rfR s (l.drop k) acc = ([], false) := by
  obtain ⟨hk, rfl⟩ := List.getElem?_eq_some_iff.1 hx
  rw [List.drop_eq_getElem_cons hk, rfR, if_neg (by rw [h]; exact Bool.false_ne_true)]
theorem rfR_len (s : List Bd) : ∀ (l acc : List Kd), (rfR s l acc).1.length ≤ acc.length + l.length
  | [], acc => Nat.le_refl _
  | x :: l, acc => by
    rw [rfR]
    split
    · have h1 := rfR_len s l (akR acc (walkT s (varTm x.v)) x.k).1
      have h2 := akR_len acc (walkT s (varTm x.v)) x.k
      rw [List.length_cons]
      omega
    · exact Nat.zero_le _

set_option maxRecDepth 100000 in
set_option maxHeartbeats 16000000 in
theorem specKinds_any (s : List Bd) (Vs : Value) (l : List Kd) (Vl : Value) (w : World) (hS : ListS bdE w Any Vs s) (hLs : s.length ≤ 1048576) (hA : ListS kdE w Any Vl l) (hL : l.length ≤ 1048577) :
    Calls Tryz.prog 48 #[Vs, Vl] w (OldK2 (rfR s l []).1 (rfR s l []).2 w) := by
  obtain ⟨la, lc, rfl⟩ := hA.slice
  have HA := Lib.hid hA
  have HS := Lib.hid hS
  have HST : Hid (rfR s (l.drop 0) [] = rfR s l []) := Lib.hid (by rw [List.drop_zero])
  generalize rfR s l [] = R at HST ⊢
  clear hA hS
  have hB0 : Below w.heap.size w (w.alloc (.cells #[] 72)) := belowAlloc (Below.refl _ _) _
  have HB0 := Lib.hid hB0
  have HR0 := Lib.hid (rowX_start (E := kdE) (e := 72) (w := w) (lo := w.heap.size) (Nat.le_refl _))
  clear hB0
  go_enter Tryz.func48, Tryz.ntmps48
  go_wp2
  go_loopw [6, 13] (fun ov iv wr => ∃ (k : Nat) (acc : List Kd), k ≤ l.length ∧ iv = .int .i64 k ∧ Hid (rfR s (l.drop k) acc = R) ∧ acc.length ≤ k ∧ Hid (ListS kdE wr Any ov acc) ∧ Hid (CapOk ov acc.length) ∧ Hid (Below w.heap.size w wr)) (fun _ iv _ => l.length - (intOf iv).toNat)
  case atStart => exact ⟨0, [], Nat.zero_le _, rfl, HST, Nat.le_refl _, Lib.hid HR0.out.list, Lib.hid ⟨_, _, _, rfl, Nat.le_refl _, by omega⟩, HB0⟩
  case round =>
    obtain ⟨k, acc, hk, rfl, HR, hacc, HO, HCO, HB⟩ := hrel
    obtain ⟨g6, o6, c6, rfl, h6a, h6b⟩ := HCO.out
    by_cases hlt : k < l.length
    · have hltI : (k : Int) < (l.length : Int) := by omega
      have hk0 : (0 : Int) ≤ (k : Int) := by omega
      obtain ⟨x, hx⟩ : ∃ x, l[k]? = some x := ⟨_, List.getElem?_eq_getElem hlt⟩
      obtain ⟨g, off, rfl, hg, hq, hc⟩ := HA.out.kd hx
      obtain ⟨d0, d1⟩ := hc wr HB.out
      have HON := Lib.hid (fun h => rfR_on (s := s) (acc := acc) hx h)
      have HOFF := Lib.hid (fun h => rfR_off (s := s) (acc := acc) hx h)
      obtain ⟨v, kk⟩ := x
      clear hx hq hc
      obtain ⟨y, hy⟩ : ∃ y, walkT s (varTm v) = y := ⟨_, rfl⟩
      simp only [hy] at HON HOFF
      go_upto_region 6 with (fail)
      have hal : Below wr.heap.size wr (wr.alloc (.cells #[.int .i64 v, .int .i64 kk] 72)) := belowAlloc (Below.refl _ _) _
      have HBX := Lib.hid (at_box_of wr #[.int .i64 v, .int .i64 kk] 72 wr.heap.size rfl)
      have HW1 := Lib.hid (belowOn HB.out (Nat.le_refl _) hal)
      have HO1 := Lib.hid (HO.out.kept hal)
      obtain ⟨nb, hnb⟩ : ∃ n : Nat, n = wr.heap.size := ⟨_, rfl⟩
      clear hal d0 d1 HO
      rw [← hnb] at HBX ⊢
      clear hnb HB
      generalize hw1 : wr.alloc (.cells #[.int .i64 v, .int .i64 kk] 72) = w1 at HBX HW1 HO1 ⊢
      clear hw1
      have hself : Below w1.heap.size w1 w1 := Below.refl _ _
      have hdrew : Below w1.heap.size w1 w1.drew := hself.drew
      have HTR : Hid (∀ a b, Below w1.heap.size w1 a → Below a.heap.size a b → Below w1.heap.size w1 b) := Lib.hid fun a b h1 h2 => belowOn h1 (Nat.le_refl _) h2
      have HCB : Hid (∀ W, Below w1.heap.size w1 W → W.cell? ⟨nb, 0, none⟩ = some (.int .i64 v) ∧ W.cell? ⟨nb, 1, none⟩ = some (.int .i64 kk)) := Lib.hid fun W hW => by
        obtain ⟨y0, y1, _⟩ := box_cells2kd (HBX.out.read hW).now
        exact ⟨y0, y1⟩
      have HEND : Hid (∀ W, Below w1.heap.size w1 W → Below w.heap.size w W) := Lib.hid fun W hW => belowOn HW1.out (Nat.le_refl _) hW
      have HVR : Hid (∀ W, Calls Tryz.prog 71 #[.int .i64 v] W fun e w' => e = .returned (.agg #[.int .i64 1, .int .i64 v, .string ⟨#[]⟩, .slice none 0 0]) ∧ Below W.heap.size W w') := Lib.hid fun W => var_any v W
      have HWK : Hid (∀ W, Below w1.heap.size w1 W → Calls Tryz.prog 70 #[Vs, .agg #[.int .i64 1, .int .i64 v, .string ⟨#[]⟩, .slice none 0 0]] W fun e w' => ∃ u, e = .returned (.agg #[.int .i64 y.kind, .int .i64 y.num, .string y.name, u]) ∧ ArgsAt w' u y.args ∧ Below W.heap.size W w') := Lib.hid fun W hW => by
        have h := specWalk5_any s (varTm v) Vs (.slice none 0 0) (fun k => k < W.heap.size) W hLs (HS.out.kept (HEND.out W hW)).lowB (.nil none 0) (fun k h => h)
        rw [hy] at h
        exact h.mono fun e w' ⟨u, he, ha, hb⟩ => ⟨u, he, ha.at, hb⟩
      have HK8 : Hid (∀ W u, Below w1.heap.size w1 W → ArgsAt W u y.args → Calls Tryz.prog 37 #[.slice (some ⟨g6, o6, none⟩) acc.length c6, .agg #[.int .i64 y.kind, .int .i64 y.num, .string y.name, u], .int .i64 kk] W (AkP (akR acc y kk).1 (akR acc y kk).2 W)) := Lib.hid fun W u hW hu => specKind1_any acc _ y u kk W (HO1.out.kept hW) HCO.out hu (by omega)
      have HLEN := Lib.hid (akR_len acc y kk)
      generalize akR acc y kk = r at HON HOFF HK8 HLEN
      clear hy HBX HCO HO1
      obtain ⟨r1, r2⟩ := r
      obtain ⟨e0, e1⟩ := HCB.out w1 hself
      cases r2 with
      | false =>
        obtain rfl := (HOFF.out rfl).symm.trans HR.out
        clear HON HOFF HR
        refine wp_region_held_drew (S := (fun w' => Below w1.heap.size w1 w' ∧ w'.cell? ⟨nb, 0, none⟩ = some (.int .i64 v) ∧ w'.cell? ⟨nb, 1, none⟩ = some (.int .i64 kk))) (by kernel_rfl) (by (try dsimp only); go_keep) (fun hHeld => ?_)
        (refine wpAnyH_take (i := 0) (oi := ⟨_, _, _, _, _, _⟩) (v := ?_) rfl (by kernel_rfl) (by kernel_rfl) (by kernel_rfl) (fun _ _ _ h => h) (Or.inl ⟨by rfl, ?_⟩) (by assumption) ?_; rotate_left; focus ((intro w' hSw; (try dsimp only at hSw); go_simp; (try with_reducible rfl)))); (try simp only [Act.put, List.setIfInBounds_toArray, List.set_cons_zero, List.set_cons_succ])
        (refine wpAnyH_take (i := 1) (oi := ⟨_, _, _, _, _, _⟩) (v := ?_) rfl (by kernel_rfl) (by kernel_rfl) (by kernel_rfl) (fun _ _ _ h => h) (Or.inl ⟨by rfl, ?_⟩) (by assumption) ?_; rotate_left; focus ((intro w' hSw; (try dsimp only at hSw); go_simp; (try with_reducible rfl)))); (try simp only [Act.put, List.setIfInBounds_toArray, List.set_cons_zero, List.set_cons_succ])
        (refine wpAnyH_take (i := 2) (oi := ⟨_, _, _, _, _, _⟩) (v := ?_) rfl (by kernel_rfl) (by kernel_rfl) (by kernel_rfl) (fun _ _ _ h => h) (Or.inl ⟨by rfl, ?_⟩) (by assumption) ?_; rotate_left; focus ((intro w' hSw; (try dsimp only at hSw); go_simp; (try with_reducible rfl)))); (try simp only [Act.put, List.setIfInBounds_toArray, List.set_cons_zero, List.set_cons_succ])
        (refine wpAnyH_take (i := 3) (oi := ⟨_, _, _, _, _, _⟩) (v := ?_) rfl (by kernel_rfl) (by kernel_rfl) (by kernel_rfl) (fun _ _ _ h => h) (Or.inl ⟨by rfl, ?_⟩) (by assumption) ?_; rotate_left; focus ((intro w' hSw; (try dsimp only at hSw); go_simp; (try with_reducible rfl)))); (try simp only [Act.put, List.setIfInBounds_toArray, List.set_cons_zero, List.set_cons_succ])
        (refine wpAnyH_take (i := 6) (oi := ⟨_, _, _, _, _, _⟩) (v := ?_) rfl (by kernel_rfl) (by kernel_rfl) (by kernel_rfl) (fun _ _ _ h => h) (Or.inl ⟨by rfl, ?_⟩) (by assumption) ?_; rotate_left; focus ((intro w' hSw; (try dsimp only at hSw); go_simp; (try with_reducible rfl)))); (try simp only [Act.put, List.setIfInBounds_toArray, List.set_cons_zero, List.set_cons_succ])
        (refine wpAnyH_take (i := 7) (oi := ⟨_, _, _, _, _, _⟩) (v := ?_) rfl (by kernel_rfl) (by kernel_rfl) (by kernel_rfl) (fun _ _ _ h => h) (Or.inl ⟨by rfl, ?_⟩) (by assumption) ?_; rotate_left; focus ((intro w' hSw; (try dsimp only at hSw); go_simp; (try with_reducible rfl)))); (try simp only [Act.put, List.setIfInBounds_toArray, List.set_cons_zero, List.set_cons_succ])
        refine wpAnyH_ready (rs := [4]) (by kernel_rfl) (by simp) ?_
        refine AllReadyH.cons (o := ⟨_, _, _, _, _, _⟩) rfl (fun K hK => ?_) AllReadyH.nil
        go_simp
        (first | (go_at_call 71; (with_reducible refine Calls.mono (HVR.out _) ?_); rintro e w' ⟨rfl, hb⟩; have hB' := HTR.out _ _ (by assumption) hb; obtain ⟨k0, k1⟩ := HCB.out _ hB') | (go_at_call 70; (with_reducible refine Calls.mono (HWK.out _ ?_) ?_); (assumption); rintro e w' ⟨u, rfl, hu, hb⟩; have hB' := HTR.out _ _ (by assumption) hb; obtain ⟨k0, k1⟩ := HCB.out _ hB') | (go_at_call 37; (with_reducible refine Calls.mono (HK8.out _ _ ?_ ?_) ?_); (assumption); (assumption); rintro e w' ⟨u8, rfl, hl8, hc8, hb⟩; have hB' := HTR.out _ _ (by assumption) hb; obtain ⟨k0, k1⟩ := HCB.out _ hB'))
        (try go_wp2_with fail)
        refine hK.out _ _ (by (try dsimp only); (first | go_keep | (refine ⟨by assumption, ?_⟩; go_keep))) (fun hHeld => ?_)
        clear hK K
        (try simp only [Act.put, List.setIfInBounds_toArray, List.set_cons_zero, List.set_cons_succ])
        refine wpAnyH_ready (rs := [5]) (by kernel_rfl) (by simp) ?_
        refine AllReadyH.cons (o := ⟨_, _, _, _, _, _⟩) rfl (fun K hK => ?_) AllReadyH.nil
        go_simp
        (first | (go_at_call 71; (with_reducible refine Calls.mono (HVR.out _) ?_); rintro e w' ⟨rfl, hb⟩; have hB' := HTR.out _ _ (by assumption) hb; obtain ⟨k0, k1⟩ := HCB.out _ hB') | (go_at_call 70; (with_reducible refine Calls.mono (HWK.out _ ?_) ?_); (assumption); rintro e w' ⟨u, rfl, hu, hb⟩; have hB' := HTR.out _ _ (by assumption) hb; obtain ⟨k0, k1⟩ := HCB.out _ hB') | (go_at_call 37; (with_reducible refine Calls.mono (HK8.out _ _ ?_ ?_) ?_); (assumption); (assumption); rintro e w' ⟨u8, rfl, hl8, hc8, hb⟩; have hB' := HTR.out _ _ (by assumption) hb; obtain ⟨k0, k1⟩ := HCB.out _ hB'))
        (try go_wp2_with fail)
        refine hK.out _ _ (by (try dsimp only); (first | go_keep | (refine ⟨by assumption, ?_⟩; go_keep))) (fun hHeld => ?_)
        clear hK K
        (try simp only [Act.put, List.setIfInBounds_toArray, List.set_cons_zero, List.set_cons_succ])
        refine wpAnyH_ready (rs := [8]) (by kernel_rfl) (by simp) ?_
        refine AllReadyH.cons (o := ⟨_, _, _, _, _, _⟩) rfl (fun K hK => ?_) AllReadyH.nil
        go_simp
        (first | (go_at_call 71; (with_reducible refine Calls.mono (HVR.out _) ?_); rintro e w' ⟨rfl, hb⟩; have hB' := HTR.out _ _ (by assumption) hb; obtain ⟨k0, k1⟩ := HCB.out _ hB') | (go_at_call 70; (with_reducible refine Calls.mono (HWK.out _ ?_) ?_); (assumption); rintro e w' ⟨u, rfl, hu, hb⟩; have hB' := HTR.out _ _ (by assumption) hb; obtain ⟨k0, k1⟩ := HCB.out _ hB') | (go_at_call 37; (with_reducible refine Calls.mono (HK8.out _ _ ?_ ?_) ?_); (assumption); (assumption); rintro e w' ⟨u8, rfl, hl8, hc8, hb⟩; have hB' := HTR.out _ _ (by assumption) hb; obtain ⟨k0, k1⟩ := HCB.out _ hB'))
        (try go_wp2_with fail)
        refine hK.out _ _ (by (try dsimp only); (first | go_keep | (refine ⟨by assumption, ?_⟩; go_keep))) (fun hHeld => ?_)
        clear hK K
        (try simp only [Act.put, List.setIfInBounds_toArray, List.set_cons_zero, List.set_cons_succ])
        (refine wpAnyH_take (i := 9) (oi := ⟨_, _, _, _, _, _⟩) (v := ?_) rfl (by kernel_rfl) (by kernel_rfl) (by kernel_rfl) (fun _ _ _ h => h) (Or.inl ⟨by rfl, ?_⟩) (by assumption) ?_; rotate_left; focus ((intro w' hSw; (try dsimp only at hSw); go_simp; (try with_reducible rfl)))); (try simp only [Act.put, List.setIfInBounds_toArray, List.set_cons_zero, List.set_cons_succ])
        (refine wpAnyH_take (i := 10) (oi := ⟨_, _, _, _, _, _⟩) (v := ?_) rfl (by kernel_rfl) (by kernel_rfl) (by kernel_rfl) (fun _ _ _ h => h) (Or.inl ⟨by rfl, ?_⟩) (by assumption) ?_; rotate_left; focus ((intro w' hSw; (try dsimp only at hSw); go_simp; (try with_reducible rfl)))); (try simp only [Act.put, List.setIfInBounds_toArray, List.set_cons_zero, List.set_cons_succ])
        (refine wpAnyH_take (i := 11) (oi := ⟨_, _, _, _, _, _⟩) (v := ?_) rfl (by kernel_rfl) (by kernel_rfl) (by kernel_rfl) (fun _ _ _ h => h) (Or.inl ⟨by rfl, ?_⟩) (by assumption) ?_; rotate_left; focus ((intro w' hSw; (try dsimp only at hSw); go_simp; (try with_reducible rfl)))); (try simp only [Act.put, List.setIfInBounds_toArray, List.set_cons_zero, List.set_cons_succ])
        (refine wpAnyH_take (i := 12) (oi := ⟨_, _, _, _, _, _⟩) (v := ?_) rfl (by kernel_rfl) (by kernel_rfl) (by kernel_rfl) (fun _ _ _ h => h) (Or.inl ⟨by rfl, ?_⟩) (by assumption) ?_; rotate_left; focus ((intro w' hSw; (try dsimp only at hSw); go_simp; (try with_reducible rfl)))); (try simp only [Act.put, List.setIfInBounds_toArray, List.set_cons_zero, List.set_cons_succ])
        (refine wpAnyH_take (i := 13) (oi := ⟨_, _, _, _, _, _⟩) (v := ?_) rfl (by kernel_rfl) (by kernel_rfl) (by kernel_rfl) (fun _ _ _ h => h) (Or.inl ⟨by rfl, ?_⟩) (by assumption) ?_; rotate_left; focus ((intro w' hSw; (try dsimp only at hSw); go_simp; (try with_reducible rfl)))); (try simp only [Act.put, List.setIfInBounds_toArray, List.set_cons_zero, List.set_cons_succ])
        refine wpAnyH_done (by kernel_rfl) ?_ _
        go_wp2
        go_ret2
        exact ⟨_, rfl, .nil _ _, HEND.out _ (by assumption)⟩
      | true =>
        have HR2 := Lib.hid ((HON.out rfl).symm.trans HR.out)
        clear HON HOFF HR
        refine wp_region_held_drew (S := (fun w' => Below w1.heap.size w1 w' ∧ w'.cell? ⟨nb, 0, none⟩ = some (.int .i64 v) ∧ w'.cell? ⟨nb, 1, none⟩ = some (.int .i64 kk))) (by kernel_rfl) (by (try dsimp only); go_keep) (fun hHeld => ?_)
        (refine wpAnyH_take (i := 0) (oi := ⟨_, _, _, _, _, _⟩) (v := ?_) rfl (by kernel_rfl) (by kernel_rfl) (by kernel_rfl) (fun _ _ _ h => h) (Or.inl ⟨by rfl, ?_⟩) (by assumption) ?_; rotate_left; focus ((intro w' hSw; (try dsimp only at hSw); go_simp; (try with_reducible rfl)))); (try simp only [Act.put, List.setIfInBounds_toArray, List.set_cons_zero, List.set_cons_succ])
        (refine wpAnyH_take (i := 1) (oi := ⟨_, _, _, _, _, _⟩) (v := ?_) rfl (by kernel_rfl) (by kernel_rfl) (by kernel_rfl) (fun _ _ _ h => h) (Or.inl ⟨by rfl, ?_⟩) (by assumption) ?_; rotate_left; focus ((intro w' hSw; (try dsimp only at hSw); go_simp; (try with_reducible rfl)))); (try simp only [Act.put, List.setIfInBounds_toArray, List.set_cons_zero, List.set_cons_succ])
        (refine wpAnyH_take (i := 2) (oi := ⟨_, _, _, _, _, _⟩) (v := ?_) rfl (by kernel_rfl) (by kernel_rfl) (by kernel_rfl) (fun _ _ _ h => h) (Or.inl ⟨by rfl, ?_⟩) (by assumption) ?_; rotate_left; focus ((intro w' hSw; (try dsimp only at hSw); go_simp; (try with_reducible rfl)))); (try simp only [Act.put, List.setIfInBounds_toArray, List.set_cons_zero, List.set_cons_succ])
        (refine wpAnyH_take (i := 3) (oi := ⟨_, _, _, _, _, _⟩) (v := ?_) rfl (by kernel_rfl) (by kernel_rfl) (by kernel_rfl) (fun _ _ _ h => h) (Or.inl ⟨by rfl, ?_⟩) (by assumption) ?_; rotate_left; focus ((intro w' hSw; (try dsimp only at hSw); go_simp; (try with_reducible rfl)))); (try simp only [Act.put, List.setIfInBounds_toArray, List.set_cons_zero, List.set_cons_succ])
        (refine wpAnyH_take (i := 6) (oi := ⟨_, _, _, _, _, _⟩) (v := ?_) rfl (by kernel_rfl) (by kernel_rfl) (by kernel_rfl) (fun _ _ _ h => h) (Or.inl ⟨by rfl, ?_⟩) (by assumption) ?_; rotate_left; focus ((intro w' hSw; (try dsimp only at hSw); go_simp; (try with_reducible rfl)))); (try simp only [Act.put, List.setIfInBounds_toArray, List.set_cons_zero, List.set_cons_succ])
        (refine wpAnyH_take (i := 7) (oi := ⟨_, _, _, _, _, _⟩) (v := ?_) rfl (by kernel_rfl) (by kernel_rfl) (by kernel_rfl) (fun _ _ _ h => h) (Or.inl ⟨by rfl, ?_⟩) (by assumption) ?_; rotate_left; focus ((intro w' hSw; (try dsimp only at hSw); go_simp; (try with_reducible rfl)))); (try simp only [Act.put, List.setIfInBounds_toArray, List.set_cons_zero, List.set_cons_succ])
        refine wpAnyH_ready (rs := [4]) (by kernel_rfl) (by simp) ?_
        refine AllReadyH.cons (o := ⟨_, _, _, _, _, _⟩) rfl (fun K hK => ?_) AllReadyH.nil
        go_simp
        (first | (go_at_call 71; (with_reducible refine Calls.mono (HVR.out _) ?_); rintro e w' ⟨rfl, hb⟩; have hB' := HTR.out _ _ (by assumption) hb; obtain ⟨k0, k1⟩ := HCB.out _ hB') | (go_at_call 70; (with_reducible refine Calls.mono (HWK.out _ ?_) ?_); (assumption); rintro e w' ⟨u, rfl, hu, hb⟩; have hB' := HTR.out _ _ (by assumption) hb; obtain ⟨k0, k1⟩ := HCB.out _ hB') | (go_at_call 37; (with_reducible refine Calls.mono (HK8.out _ _ ?_ ?_) ?_); (assumption); (assumption); rintro e w' ⟨u8, rfl, hl8, hc8, hb⟩; have hB' := HTR.out _ _ (by assumption) hb; obtain ⟨k0, k1⟩ := HCB.out _ hB'))
        (try go_wp2_with fail)
        refine hK.out _ _ (by (try dsimp only); (first | go_keep | (refine ⟨by assumption, ?_⟩; go_keep))) (fun hHeld => ?_)
        clear hK K
        (try simp only [Act.put, List.setIfInBounds_toArray, List.set_cons_zero, List.set_cons_succ])
        refine wpAnyH_ready (rs := [5]) (by kernel_rfl) (by simp) ?_
        refine AllReadyH.cons (o := ⟨_, _, _, _, _, _⟩) rfl (fun K hK => ?_) AllReadyH.nil
        go_simp
        (first | (go_at_call 71; (with_reducible refine Calls.mono (HVR.out _) ?_); rintro e w' ⟨rfl, hb⟩; have hB' := HTR.out _ _ (by assumption) hb; obtain ⟨k0, k1⟩ := HCB.out _ hB') | (go_at_call 70; (with_reducible refine Calls.mono (HWK.out _ ?_) ?_); (assumption); rintro e w' ⟨u, rfl, hu, hb⟩; have hB' := HTR.out _ _ (by assumption) hb; obtain ⟨k0, k1⟩ := HCB.out _ hB') | (go_at_call 37; (with_reducible refine Calls.mono (HK8.out _ _ ?_ ?_) ?_); (assumption); (assumption); rintro e w' ⟨u8, rfl, hl8, hc8, hb⟩; have hB' := HTR.out _ _ (by assumption) hb; obtain ⟨k0, k1⟩ := HCB.out _ hB'))
        (try go_wp2_with fail)
        refine hK.out _ _ (by (try dsimp only); (first | go_keep | (refine ⟨by assumption, ?_⟩; go_keep))) (fun hHeld => ?_)
        clear hK K
        (try simp only [Act.put, List.setIfInBounds_toArray, List.set_cons_zero, List.set_cons_succ])
        refine wpAnyH_ready (rs := [8]) (by kernel_rfl) (by simp) ?_
        refine AllReadyH.cons (o := ⟨_, _, _, _, _, _⟩) rfl (fun K hK => ?_) AllReadyH.nil
        go_simp
        (first | (go_at_call 71; (with_reducible refine Calls.mono (HVR.out _) ?_); rintro e w' ⟨rfl, hb⟩; have hB' := HTR.out _ _ (by assumption) hb; obtain ⟨k0, k1⟩ := HCB.out _ hB') | (go_at_call 70; (with_reducible refine Calls.mono (HWK.out _ ?_) ?_); (assumption); rintro e w' ⟨u, rfl, hu, hb⟩; have hB' := HTR.out _ _ (by assumption) hb; obtain ⟨k0, k1⟩ := HCB.out _ hB') | (go_at_call 37; (with_reducible refine Calls.mono (HK8.out _ _ ?_ ?_) ?_); (assumption); (assumption); rintro e w' ⟨u8, rfl, hl8, hc8, hb⟩; have hB' := HTR.out _ _ (by assumption) hb; obtain ⟨k0, k1⟩ := HCB.out _ hB'))
        (try go_wp2_with fail)
        refine hK.out _ _ (by (try dsimp only); (first | go_keep | (refine ⟨by assumption, ?_⟩; go_keep))) (fun hHeld => ?_)
        clear hK K
        (try simp only [Act.put, List.setIfInBounds_toArray, List.set_cons_zero, List.set_cons_succ])
        (refine wpAnyH_take (i := 9) (oi := ⟨_, _, _, _, _, _⟩) (v := ?_) rfl (by kernel_rfl) (by kernel_rfl) (by kernel_rfl) (fun _ _ _ h => h) (Or.inl ⟨by rfl, ?_⟩) (by assumption) ?_; rotate_left; focus ((intro w' hSw; (try dsimp only at hSw); go_simp; (try with_reducible rfl)))); (try simp only [Act.put, List.setIfInBounds_toArray, List.set_cons_zero, List.set_cons_succ])
        (refine wpAnyH_take (i := 10) (oi := ⟨_, _, _, _, _, _⟩) (v := ?_) rfl (by kernel_rfl) (by kernel_rfl) (by kernel_rfl) (fun _ _ _ h => h) (Or.inl ⟨by rfl, ?_⟩) (by assumption) ?_; rotate_left; focus ((intro w' hSw; (try dsimp only at hSw); go_simp; (try with_reducible rfl)))); (try simp only [Act.put, List.setIfInBounds_toArray, List.set_cons_zero, List.set_cons_succ])
        (refine wpAnyH_take (i := 11) (oi := ⟨_, _, _, _, _, _⟩) (v := ?_) rfl (by kernel_rfl) (by kernel_rfl) (by kernel_rfl) (fun _ _ _ h => h) (Or.inl ⟨by rfl, ?_⟩) (by assumption) ?_; rotate_left; focus ((intro w' hSw; (try dsimp only at hSw); go_simp; (try with_reducible rfl)))); (try simp only [Act.put, List.setIfInBounds_toArray, List.set_cons_zero, List.set_cons_succ])
        (refine wpAnyH_take (i := 12) (oi := ⟨_, _, _, _, _, _⟩) (v := ?_) rfl (by kernel_rfl) (by kernel_rfl) (by kernel_rfl) (fun _ _ _ h => h) (Or.inl ⟨by rfl, ?_⟩) (by assumption) ?_; rotate_left; focus ((intro w' hSw; (try dsimp only at hSw); go_simp; (try with_reducible rfl)))); (try simp only [Act.put, List.setIfInBounds_toArray, List.set_cons_zero, List.set_cons_succ])
        (refine wpAnyH_take (i := 13) (oi := ⟨_, _, _, _, _, _⟩) (v := ?_) rfl (by kernel_rfl) (by kernel_rfl) (by kernel_rfl) (fun _ _ _ h => h) (Or.inl ⟨by rfl, ?_⟩) (by assumption) ?_; rotate_left; focus ((intro w' hSw; (try dsimp only at hSw); go_simp; (try with_reducible rfl)))); (try simp only [Act.put, List.setIfInBounds_toArray, List.set_cons_zero, List.set_cons_succ])
        refine wpAnyH_done (by kernel_rfl) ?_ _
        go_wp2
        go_roundw
        case rel => exact ⟨k + 1, r1, by omega, by go_num, HR2, Nat.le_trans HLEN.out (Nat.succ_le_succ hacc), Lib.hid (by assumption), Lib.hid (by assumption), Lib.hid (HEND.out _ (by assumption))⟩
        case measure => simp [intOf]; omega
    · obtain rfl : k = l.length := by omega
      obtain rfl : (acc, true) = R := by
        have h := HR.out
        rw [List.drop_of_length_le (Nat.le_refl _), rfR_nil] at h
        exact h
      go_wp2
      go_ret2
      exact ⟨_, rfl, HO.out, HB.out⟩

def RfP (s : List Bd) (l : List Kd) : Prop := SubstP s ∧ KdsP l ∧ (rfR s l []).2 = true
open Classical in
noncomputable def rfB (s : List Bd) (l : List Kd) : Bool := decide (RfP s l)
open Classical in
noncomputable def rfL (s : List Bd) (l : List Kd) : List Kd := if SubstP s ∧ KdsP l then (rfR s l []).1 else []
theorem rf_yes {s : List Bd} {l : List Kd} (h : SubstP s ∧ KdsP l) : rfL s l = (rfR s l []).1 ∧ rfB s l = (rfR s l []).2 := by
  refine ⟨if_pos h, ?_⟩
  cases e : (rfR s l []).2 with
  | true => simp [rfB, RfP, h, e]
  | false => simp [rfB, RfP, h, e]
theorem rf_no {s : List Bd} {l : List Kd} (h : ¬ (SubstP s ∧ KdsP l)) : rfL s l = [] ∧ rfB s l = false := ⟨if_neg h, by
  have h2 : ¬ RfP s l := fun hh => h ⟨hh.1, hh.2.1⟩
  simp [rfB, h2]⟩
theorem rf_len (s : List Bd) (l : List Kd) : (rfL s l).length ≤ l.length := by
  by_cases h : SubstP s ∧ KdsP l
  · rw [(rf_yes h).1]; have := rfR_len s l []; simpa using this
  · rw [(rf_no h).1]; exact Nat.zero_le _

set_option maxRecDepth 100000 in
set_option maxHeartbeats 4000000 in
theorem specRefreshKinds_any (s : List Bd) (Vs : Value) (l : List Kd) (Vl : Value) (w : World) (hS : ListS bdE w Any Vs s) (hZs : szB s ≤ 1048576) (hA : ListS kdE w Any Vl l) (hL : l.length ≤ 1048577) :
    Calls Tryz.prog 22 #[Vs, Vl] w (OldK2 (rfL s l) (rfB s l) w) := by
  have HC := Lib.hid (specSubstOk_any s Vs w hS (eachB_of hZs))
  have HS := Lib.hid hS
  have HA := Lib.hid hA
  have hLs : s.length ≤ 1048576 := (eachB_of hZs).1
  have HNO : Hid (¬ (SubstP s ∧ KdsP l) → rfL s l = [] ∧ rfB s l = false) := Lib.hid rf_no
  have HYES : Hid (SubstP s ∧ KdsP l → rfL s l = (rfR s l []).1 ∧ rfB s l = (rfR s l []).2) := Lib.hid rf_yes
  generalize rfL s l = rl at HNO HYES ⊢
  generalize rfB s l = rb at HNO HYES ⊢
  clear hS hA
  go_enter Tryz.func22, Tryz.ntmps22
  go_wp2_with fail
  refine HC.out.mono ?_
  rintro e w1 ⟨rfl, hb⟩
  have HW1 := Lib.hid hb
  clear hb HC
  cases hs : substB s with
  | false =>
    obtain ⟨rfl, rfl⟩ := HNO.out fun h => substB_false.1 hs h.1
    clear hs HNO HYES
    go_wp2
    go_ret2
    exact ⟨_, rfl, .nil _ _, HW1.out⟩
  | true =>
    have HSP := Lib.hid (substB_true.1 hs)
    clear hs
    have HK := Lib.hid (specKindsOk_any l Vl w1 (HA.out.kept HW1.out) hL)
    go_wp2_with fail
    refine HK.out.mono ?_
    rintro e w2 ⟨rfl, hb⟩
    have HW2 := Lib.hid (HW1.out.trans (hb.mono HW1.out.size))
    clear hb HK
    cases hkd : kdsB l with
    | false =>
      obtain ⟨rfl, rfl⟩ := HNO.out fun h => kdsB_false.1 hkd h.2
      clear hkd HNO HYES
      go_wp2
      go_ret2
      exact ⟨_, rfl, .nil _ _, HW2.out⟩
    | true =>
      obtain ⟨rfl, rfl⟩ := HYES.out ⟨HSP.out, kdsB_true.1 hkd⟩
      clear hkd HNO HYES
      have HC3 := Lib.hid (specKinds_any s Vs l Vl w2 (HS.out.kept HW2.out) hLs (HA.out.kept HW2.out) hL)
      go_wp2_with fail
      refine HC3.out.mono ?_
      rintro e w3 ⟨v3, rfl, hl3, hb3⟩
      have HL3 := Lib.hid hl3
      have HW3 := Lib.hid (HW2.out.trans (hb3.mono HW2.out.size))
      clear hl3 hb3 HC3
      go_wp2
      go_ret2
      exact ⟨_, rfl, HL3.out, HW3.out⟩
end Go.Proofs.YtnmdnajbafpfiaaGreat

