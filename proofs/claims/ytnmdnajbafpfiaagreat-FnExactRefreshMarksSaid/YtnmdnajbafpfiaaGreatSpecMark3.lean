/-
  The model's RefreshMarks. (Written by wip/tools/gen_specmark3.py.)
-/
import Derived.Test.YtnmdnajbafpfiaaGreatSpecMark2
import Derived.Test.YtnmdnajbafpfiaaGreatDemRfM
import Derived.Test.YtnmdnajbafpfiaaGreatSpecU5
namespace Go.Proofs.YtnmdnajbafpfiaaGreat
open Go.RowKit
set_option linter.unusedVariables false
set_option linter.unusedSimpArgs false

theorem poM_any (a b : Int) (tag : ByteArray) (t : Tm) : poM [⟨a, tag⟩] t = poM [⟨b, tag⟩] t := rfl
theorem foldM_on {s : List Bd} {l acc : List Mk} {k : Nat} {x : Mk} (hx : l[k]? = some x) : demM.fold s (l.drop k) acc = ((poM [x] (tv s x.v)).bind (jn ordM acc)).bind (demM.fold s (l.drop (k + 1))) := by
  obtain ⟨hk, rfl⟩ := List.getElem?_eq_some_iff.1 hx
  rw [List.drop_eq_getElem_cons hk, DemT.fold]
  rfl
theorem stepM_len {acc r : List Mk} {x : Mk} {t : Tm} (ht : Ok t) (h : (poM [x] t).bind (jn ordM acc) = some r) : r.length ≤ acc.length + 5000 := by
  cases hp : poM [x] t with
  | none => rw [hp] at h; cases h
  | some p =>
    rw [hp] at h
    have h1 := poM_one ht hp
    have := jn_len (acc.length + p.length) acc p r (Nat.le_refl _) h
    omega
theorem stepM_asc {s : List Bd} {acc r : List Mk} {x : Mk} (ha : AscO ordM acc) (h : (poM [x] (tv s x.v)).bind (jn ordM acc) = some r) : AscO ordM r := by
  cases hp : poM [x] (tv s x.v) with
  | none => rw [hp] at h; cases h
  | some p =>
    rw [hp] at h
    have hpa : AscO ordM p := by
      rw [(po_some (D := demM) hp).2]
      exact one_asc demM s x
    exact (jn_yes ha hpa h).1

set_option maxRecDepth 100000 in
set_option maxHeartbeats 16000000 in
theorem specMarks_any (s : List Bd) (Vs : Value) (l : List Mk) (Vl : Value) (w : World) (hS : ListS bdE w Any Vs s) (hLs : s.length ≤ 1048576) (hSP : SubstP s) (hA : ListS mkE w Any Vl l) (hFM : fineM l) (hM : MksP l) (hL : l.length ≤ 1048577) :
    Calls Tryz.prog 57 #[Vs, Vl] w (OldM2 ((demM.fold s l []).getD []) (demM.fold s l []).isSome w) := by
  obtain ⟨la, lc, rfl⟩ := hA.slice
  have HA := Lib.hid hA
  have HS := Lib.hid hS
  have HSP := Lib.hid hSP
  have HFM := Lib.hid hFM
  have HMP := Lib.hid hM
  have HST : Hid (demM.fold s (l.drop 0) [] = demM.fold s l []) := Lib.hid (by rw [List.drop_zero])
  generalize demM.fold s l [] = R at HST ⊢
  clear hA hS hSP hFM hM
  have hB0 : Below w.heap.size w (w.alloc (.cells #[] 92)) := belowAlloc (Below.refl _ _) _
  have HB0 := Lib.hid hB0
  have HR0 := Lib.hid (rowX_start (E := mkE) (e := 92) (w := w) (lo := w.heap.size) (Nat.le_refl _))
  clear hB0
  go_enter Tryz.func57, Tryz.ntmps57
  go_wp2
  go_loopw [6, 13] (fun ov iv wr => ∃ (k : Nat) (acc : List Mk), k ≤ l.length ∧ iv = .int .i64 k ∧ Hid (demM.fold s (l.drop k) acc = R) ∧ Hid (acc.length ≤ 5000 * k) ∧ Hid (AscO ordM acc) ∧ Hid (ListS mkE wr Any ov acc) ∧ Hid (CapL ov acc.length) ∧ Hid (Below w.heap.size w wr)) (fun _ iv _ => l.length - (intOf iv).toNat)
  case atStart => exact ⟨0, [], Nat.zero_le _, rfl, HST, Lib.hid (Nat.le_refl _), Lib.hid List.Pairwise.nil, Lib.hid HR0.out.list, Lib.hid HR0.out.capL, HB0⟩
  case round =>
    obtain ⟨k, acc, hk, rfl, HR, HACC, HASC, HO, HCO, HB⟩ := hrel
    obtain ⟨A6, c6, rfl, h6a, h6b, h6c⟩ := HCO.out.slice
    clear h6c
    by_cases hlt : k < l.length
    · have hltI : (k : Int) < (l.length : Int) := by omega
      have hk0 : (0 : Int) ≤ (k : Int) := by omega
      obtain ⟨x, hx⟩ : ∃ x, l[k]? = some x := ⟨_, List.getElem?_eq_getElem hlt⟩
      obtain ⟨g, off, rfl, hg, hq, hc⟩ := HA.out.mk hx
      obtain ⟨d0, d1⟩ := hc wr HB.out
      have HON := Lib.hid ((foldM_on (s := s) (acc := acc) hx).symm.trans HR.out)
      have HXT := Lib.hid (HFM.out x (List.mem_of_getElem? hx))
      have HXO := Lib.hid (HMP.out k x hx).1
      have HYO := Lib.hid (tv_ok HSP.out HXO.out.1)
      have HSL : Hid (∀ r, (poM [x] (tv s x.v)).bind (jn ordM acc) = some r → r.length ≤ acc.length + 5000) := Lib.hid fun r h => stepM_len HYO.out.1 h
      have HSA : Hid (∀ r, (poM [x] (tv s x.v)).bind (jn ordM acc) = some r → AscO ordM r) := Lib.hid fun r h => stepM_asc HASC.out h
      obtain ⟨v, kk⟩ := x
      clear hx hq hc
      have hw : walkT s (varTm v) = tv s v := by
        unfold tv
        rw [putT_var rfl, walkT]
        exact if_pos rfl
      obtain ⟨y, hy⟩ : ∃ y, tv s v = y := ⟨_, rfl⟩
      rw [hy] at hw
      simp only [hy] at HON HYO HSL HSA
      have HWY := Lib.hid hw
      clear hw hy HR
      go_upto_region 6 with (fail)
      have hal : Below wr.heap.size wr (wr.alloc (.cells #[.int .i64 v, .string kk] 92)) := belowAlloc (Below.refl _ _) _
      have HBX := Lib.hid (at_box_of wr #[.int .i64 v, .string kk] 92 wr.heap.size rfl)
      have HW1 := Lib.hid (belowOn HB.out (Nat.le_refl _) hal)
      have HO1 := Lib.hid (HO.out.kept hal)
      obtain ⟨nb, hnb⟩ : ∃ n : Nat, n = wr.heap.size := ⟨_, rfl⟩
      clear hal d0 d1 HO
      rw [← hnb] at HBX ⊢
      clear hnb HB
      generalize hw1 : wr.alloc (.cells #[.int .i64 v, .string kk] 92) = w1 at HBX HW1 HO1 ⊢
      clear hw1
      have hself : Below w1.heap.size w1 w1 := Below.refl _ _
      have hdrew : Below w1.heap.size w1 w1.drew := hself.drew
      have HTR : Hid (∀ a b, Below w1.heap.size w1 a → Below a.heap.size a b → Below w1.heap.size w1 b) := Lib.hid fun a b h1 h2 => belowOn h1 (Nat.le_refl _) h2
      have HCB : Hid (∀ W, Below w1.heap.size w1 W → W.cell? ⟨nb, 0, none⟩ = some (.int .i64 v) ∧ W.cell? ⟨nb, 1, none⟩ = some (.string kk)) := Lib.hid fun W hW => by
        obtain ⟨y0, y1, _⟩ := box_cells2mk (HBX.out.read hW).now
        exact ⟨y0, y1⟩
      have HEND : Hid (∀ W, Below w1.heap.size w1 W → Below w.heap.size w W) := Lib.hid fun W hW => belowOn HW1.out (Nat.le_refl _) hW
      have HVR : Hid (∀ W, Calls Tryz.prog 71 #[.int .i64 v] W fun e w' => e = .returned (.agg #[.int .i64 1, .int .i64 v, .string ⟨#[]⟩, .slice none 0 0]) ∧ Below W.heap.size W w') := Lib.hid fun W => var_any v W
      have HWK : Hid (∀ W, Below w1.heap.size w1 W → Calls Tryz.prog 70 #[Vs, .agg #[.int .i64 1, .int .i64 v, .string ⟨#[]⟩, .slice none 0 0]] W fun e w' => ∃ u, e = .returned (.agg #[.int .i64 y.kind, .int .i64 y.num, .string y.name, u]) ∧ ArgsAt w' u y.args ∧ Below W.heap.size W w') := Lib.hid fun W hW => by
        have h := specWalk5_any s (varTm v) Vs (.slice none 0 0) (fun k => k < W.heap.size) W hLs (HS.out.kept (HEND.out W hW)).lowB (.nil none 0) (fun k h => h)
        rw [HWY.out] at h
        exact h.mono fun e w' ⟨u, he, ha, hb⟩ => ⟨u, he, ha.at, hb⟩
      have HK8 : Hid (∀ W u, Below w1.heap.size w1 W → ArgsAt W u y.args → Calls Tryz.prog 53 #[.slice A6 acc.length c6, .agg #[.int .i64 y.kind, .int .i64 y.num, .string y.name, u], .string kk] W (AmP ((poM [⟨v, kk⟩] y).bind (jn ordM acc)) W)) := Lib.hid fun W u hW hu => by
        rw [poM_any v 0]
        exact specMark_any acc _ y u kk W (HO1.out.kept hW) HCO.out (by have := HACC.out; omega) HASC.out hu HYO.out.2 HYO.out.1 HXT.out
      generalize (poM [⟨v, kk⟩] y).bind (jn ordM acc) = r at HON HK8 HSL HSA
      clear HBX HO1
      obtain ⟨e0, e1⟩ := HCB.out w1 hself
      cases r with
      | none =>
        obtain rfl : none = R := HON.out
        clear HON HCO
        refine wp_region_held_drew (S := (fun w' => Below w1.heap.size w1 w' ∧ w'.cell? ⟨nb, 0, none⟩ = some (.int .i64 v) ∧ w'.cell? ⟨nb, 1, none⟩ = some (.string kk))) (by kernel_rfl) (by (try dsimp only); go_keep) (fun hHeld => ?_)
        (refine wpAnyH_take (i := 0) (oi := ⟨_, _, _, _, _, _⟩) (v := ?_) rfl (by kernel_rfl) (by kernel_rfl) (by kernel_rfl) (fun _ _ _ h => h) (Or.inl ⟨by rfl, ?_⟩) (by assumption) ?_; rotate_left; focus ((intro w' hSw; (try dsimp only at hSw); go_simp; (try with_reducible rfl)))); (try simp only [Act.put, List.setIfInBounds_toArray, List.set_cons_zero, List.set_cons_succ])
        (refine wpAnyH_take (i := 1) (oi := ⟨_, _, _, _, _, _⟩) (v := ?_) rfl (by kernel_rfl) (by kernel_rfl) (by kernel_rfl) (fun _ _ _ h => h) (Or.inl ⟨by rfl, ?_⟩) (by assumption) ?_; rotate_left; focus ((intro w' hSw; (try dsimp only at hSw); go_simp; (try with_reducible rfl)))); (try simp only [Act.put, List.setIfInBounds_toArray, List.set_cons_zero, List.set_cons_succ])
        (refine wpAnyH_take (i := 2) (oi := ⟨_, _, _, _, _, _⟩) (v := ?_) rfl (by kernel_rfl) (by kernel_rfl) (by kernel_rfl) (fun _ _ _ h => h) (Or.inl ⟨by rfl, ?_⟩) (by assumption) ?_; rotate_left; focus ((intro w' hSw; (try dsimp only at hSw); go_simp; (try with_reducible rfl)))); (try simp only [Act.put, List.setIfInBounds_toArray, List.set_cons_zero, List.set_cons_succ])
        (refine wpAnyH_take (i := 3) (oi := ⟨_, _, _, _, _, _⟩) (v := ?_) rfl (by kernel_rfl) (by kernel_rfl) (by kernel_rfl) (fun _ _ _ h => h) (Or.inl ⟨by rfl, ?_⟩) (by assumption) ?_; rotate_left; focus ((intro w' hSw; (try dsimp only at hSw); go_simp; (try with_reducible rfl)))); (try simp only [Act.put, List.setIfInBounds_toArray, List.set_cons_zero, List.set_cons_succ])
        (refine wpAnyH_take (i := 6) (oi := ⟨_, _, _, _, _, _⟩) (v := ?_) rfl (by kernel_rfl) (by kernel_rfl) (by kernel_rfl) (fun _ _ _ h => h) (Or.inl ⟨by rfl, ?_⟩) (by assumption) ?_; rotate_left; focus ((intro w' hSw; (try dsimp only at hSw); go_simp; (try with_reducible rfl)))); (try simp only [Act.put, List.setIfInBounds_toArray, List.set_cons_zero, List.set_cons_succ])
        (refine wpAnyH_take (i := 7) (oi := ⟨_, _, _, _, _, _⟩) (v := ?_) rfl (by kernel_rfl) (by kernel_rfl) (by kernel_rfl) (fun _ _ _ h => h) (Or.inl ⟨by rfl, ?_⟩) (by assumption) ?_; rotate_left; focus ((intro w' hSw; (try dsimp only at hSw); go_simp; (try with_reducible rfl)))); (try simp only [Act.put, List.setIfInBounds_toArray, List.set_cons_zero, List.set_cons_succ])
        refine wpAnyH_ready (rs := [4]) (by kernel_rfl) (by simp) ?_
        refine AllReadyH.cons (o := ⟨_, _, _, _, _, _⟩) rfl (fun K hK => ?_) AllReadyH.nil
        go_simp
        (first | (go_at_call 71; (with_reducible refine Calls.mono (HVR.out _) ?_); rintro e w' ⟨rfl, hb⟩; have hB' := HTR.out _ _ (by assumption) hb; obtain ⟨k0, k1⟩ := HCB.out _ hB') | (go_at_call 70; (with_reducible refine Calls.mono (HWK.out _ ?_) ?_); (assumption); rintro e w' ⟨u, rfl, hu, hb⟩; have hB' := HTR.out _ _ (by assumption) hb; obtain ⟨k0, k1⟩ := HCB.out _ hB') | (go_at_call 53; (with_reducible refine Calls.mono (HK8.out _ _ ?_ ?_) ?_); (assumption); (assumption); rintro e w' ⟨u8, rfl, hl8, hc8, hb⟩; have hB' := HTR.out _ _ (by assumption) hb; obtain ⟨k0, k1⟩ := HCB.out _ hB'))
        (try go_wp2_with fail)
        refine hK.out _ _ (by (try dsimp only); (first | go_keep | (refine ⟨by assumption, ?_⟩; go_keep))) (fun hHeld => ?_)
        clear hK K
        (try simp only [Act.put, List.setIfInBounds_toArray, List.set_cons_zero, List.set_cons_succ])
        refine wpAnyH_ready (rs := [5]) (by kernel_rfl) (by simp) ?_
        refine AllReadyH.cons (o := ⟨_, _, _, _, _, _⟩) rfl (fun K hK => ?_) AllReadyH.nil
        go_simp
        (first | (go_at_call 71; (with_reducible refine Calls.mono (HVR.out _) ?_); rintro e w' ⟨rfl, hb⟩; have hB' := HTR.out _ _ (by assumption) hb; obtain ⟨k0, k1⟩ := HCB.out _ hB') | (go_at_call 70; (with_reducible refine Calls.mono (HWK.out _ ?_) ?_); (assumption); rintro e w' ⟨u, rfl, hu, hb⟩; have hB' := HTR.out _ _ (by assumption) hb; obtain ⟨k0, k1⟩ := HCB.out _ hB') | (go_at_call 53; (with_reducible refine Calls.mono (HK8.out _ _ ?_ ?_) ?_); (assumption); (assumption); rintro e w' ⟨u8, rfl, hl8, hc8, hb⟩; have hB' := HTR.out _ _ (by assumption) hb; obtain ⟨k0, k1⟩ := HCB.out _ hB'))
        (try go_wp2_with fail)
        refine hK.out _ _ (by (try dsimp only); (first | go_keep | (refine ⟨by assumption, ?_⟩; go_keep))) (fun hHeld => ?_)
        clear hK K
        (try simp only [Act.put, List.setIfInBounds_toArray, List.set_cons_zero, List.set_cons_succ])
        refine wpAnyH_ready (rs := [8]) (by kernel_rfl) (by simp) ?_
        refine AllReadyH.cons (o := ⟨_, _, _, _, _, _⟩) rfl (fun K hK => ?_) AllReadyH.nil
        go_simp
        (first | (go_at_call 71; (with_reducible refine Calls.mono (HVR.out _) ?_); rintro e w' ⟨rfl, hb⟩; have hB' := HTR.out _ _ (by assumption) hb; obtain ⟨k0, k1⟩ := HCB.out _ hB') | (go_at_call 70; (with_reducible refine Calls.mono (HWK.out _ ?_) ?_); (assumption); rintro e w' ⟨u, rfl, hu, hb⟩; have hB' := HTR.out _ _ (by assumption) hb; obtain ⟨k0, k1⟩ := HCB.out _ hB') | (go_at_call 53; (with_reducible refine Calls.mono (HK8.out _ _ ?_ ?_) ?_); (assumption); (assumption); rintro e w' ⟨u8, rfl, hl8, hc8, hb⟩; have hB' := HTR.out _ _ (by assumption) hb; obtain ⟨k0, k1⟩ := HCB.out _ hB'))
        (try go_wp2_with fail)
        refine hK.out _ _ (by (try dsimp only); (first | go_keep | (refine ⟨by assumption, ?_⟩; go_keep))) (fun hHeld => ?_)
        clear hK K
        (try simp only [Act.put, List.setIfInBounds_toArray, List.set_cons_zero, List.set_cons_succ])
        (refine wpAnyH_take (i := 9) (oi := ⟨_, _, _, _, _, _⟩) (v := ?_) rfl (by kernel_rfl) (by kernel_rfl) (by kernel_rfl) (fun _ _ _ h => h) (Or.inl ⟨by rfl, ?_⟩) (by assumption) ?_; rotate_left; focus ((intro w' hSw; (try dsimp only at hSw); go_simp; (try with_reducible rfl)))); (try simp only [Act.put, List.setIfInBounds_toArray, List.set_cons_zero, List.set_cons_succ])
        (refine wpAnyH_take (i := 10) (oi := ⟨_, _, _, _, _, _⟩) (v := ?_) rfl (by kernel_rfl) (by kernel_rfl) (by kernel_rfl) (fun _ _ _ h => h) (Or.inl ⟨by rfl, ?_⟩) (by assumption) ?_; rotate_left; focus ((intro w' hSw; (try dsimp only at hSw); go_simp; (try with_reducible rfl)))); (try simp only [Act.put, List.setIfInBounds_toArray, List.set_cons_zero, List.set_cons_succ])
        (refine wpAnyH_take (i := 11) (oi := ⟨_, _, _, _, _, _⟩) (v := ?_) rfl (by kernel_rfl) (by kernel_rfl) (by kernel_rfl) (fun _ _ _ h => h) (Or.inl ⟨by rfl, ?_⟩) (by assumption) ?_; rotate_left; focus ((intro w' hSw; (try dsimp only at hSw); go_simp; (try with_reducible rfl)))); (try simp only [Act.put, List.setIfInBounds_toArray, List.set_cons_zero, List.set_cons_succ])
        (refine wpAnyH_take (i := 12) (oi := ⟨_, _, _, _, _, _⟩) (v := ?_) rfl (by kernel_rfl) (by kernel_rfl) (by kernel_rfl) (fun _ _ _ h => h) (Or.inl ⟨by rfl, ?_⟩) (by assumption) ?_; rotate_left; focus ((intro w' hSw; (try dsimp only at hSw); go_simp; (try with_reducible rfl)))); (try simp only [Act.put, List.setIfInBounds_toArray, List.set_cons_zero, List.set_cons_succ])
        (refine wpAnyH_take (i := 13) (oi := ⟨_, _, _, _, _, _⟩) (v := ?_) rfl (by kernel_rfl) (by kernel_rfl) (by kernel_rfl) (fun _ _ _ h => h) (Or.inl ⟨by rfl, ?_⟩) (by assumption) ?_; rotate_left; focus ((intro w' hSw; (try dsimp only at hSw); go_simp; (try with_reducible rfl)))); (try simp only [Act.put, List.setIfInBounds_toArray, List.set_cons_zero, List.set_cons_succ])
        refine wpAnyH_done (by kernel_rfl) ?_ _
        go_wp2
        go_ret2
        exact ⟨_, rfl, .nil _ _, HEND.out _ (by assumption)⟩
      | some r =>
        have HR2 : Hid (demM.fold s (l.drop (k + 1)) r = R) := Lib.hid HON.out
        have HRL := Lib.hid (HSL.out r rfl)
        have HRA := Lib.hid (HSA.out r rfl)
        clear HON HSL HSA HCO
        refine wp_region_held_drew (S := (fun w' => Below w1.heap.size w1 w' ∧ w'.cell? ⟨nb, 0, none⟩ = some (.int .i64 v) ∧ w'.cell? ⟨nb, 1, none⟩ = some (.string kk))) (by kernel_rfl) (by (try dsimp only); go_keep) (fun hHeld => ?_)
        (refine wpAnyH_take (i := 0) (oi := ⟨_, _, _, _, _, _⟩) (v := ?_) rfl (by kernel_rfl) (by kernel_rfl) (by kernel_rfl) (fun _ _ _ h => h) (Or.inl ⟨by rfl, ?_⟩) (by assumption) ?_; rotate_left; focus ((intro w' hSw; (try dsimp only at hSw); go_simp; (try with_reducible rfl)))); (try simp only [Act.put, List.setIfInBounds_toArray, List.set_cons_zero, List.set_cons_succ])
        (refine wpAnyH_take (i := 1) (oi := ⟨_, _, _, _, _, _⟩) (v := ?_) rfl (by kernel_rfl) (by kernel_rfl) (by kernel_rfl) (fun _ _ _ h => h) (Or.inl ⟨by rfl, ?_⟩) (by assumption) ?_; rotate_left; focus ((intro w' hSw; (try dsimp only at hSw); go_simp; (try with_reducible rfl)))); (try simp only [Act.put, List.setIfInBounds_toArray, List.set_cons_zero, List.set_cons_succ])
        (refine wpAnyH_take (i := 2) (oi := ⟨_, _, _, _, _, _⟩) (v := ?_) rfl (by kernel_rfl) (by kernel_rfl) (by kernel_rfl) (fun _ _ _ h => h) (Or.inl ⟨by rfl, ?_⟩) (by assumption) ?_; rotate_left; focus ((intro w' hSw; (try dsimp only at hSw); go_simp; (try with_reducible rfl)))); (try simp only [Act.put, List.setIfInBounds_toArray, List.set_cons_zero, List.set_cons_succ])
        (refine wpAnyH_take (i := 3) (oi := ⟨_, _, _, _, _, _⟩) (v := ?_) rfl (by kernel_rfl) (by kernel_rfl) (by kernel_rfl) (fun _ _ _ h => h) (Or.inl ⟨by rfl, ?_⟩) (by assumption) ?_; rotate_left; focus ((intro w' hSw; (try dsimp only at hSw); go_simp; (try with_reducible rfl)))); (try simp only [Act.put, List.setIfInBounds_toArray, List.set_cons_zero, List.set_cons_succ])
        (refine wpAnyH_take (i := 6) (oi := ⟨_, _, _, _, _, _⟩) (v := ?_) rfl (by kernel_rfl) (by kernel_rfl) (by kernel_rfl) (fun _ _ _ h => h) (Or.inl ⟨by rfl, ?_⟩) (by assumption) ?_; rotate_left; focus ((intro w' hSw; (try dsimp only at hSw); go_simp; (try with_reducible rfl)))); (try simp only [Act.put, List.setIfInBounds_toArray, List.set_cons_zero, List.set_cons_succ])
        (refine wpAnyH_take (i := 7) (oi := ⟨_, _, _, _, _, _⟩) (v := ?_) rfl (by kernel_rfl) (by kernel_rfl) (by kernel_rfl) (fun _ _ _ h => h) (Or.inl ⟨by rfl, ?_⟩) (by assumption) ?_; rotate_left; focus ((intro w' hSw; (try dsimp only at hSw); go_simp; (try with_reducible rfl)))); (try simp only [Act.put, List.setIfInBounds_toArray, List.set_cons_zero, List.set_cons_succ])
        refine wpAnyH_ready (rs := [4]) (by kernel_rfl) (by simp) ?_
        refine AllReadyH.cons (o := ⟨_, _, _, _, _, _⟩) rfl (fun K hK => ?_) AllReadyH.nil
        go_simp
        (first | (go_at_call 71; (with_reducible refine Calls.mono (HVR.out _) ?_); rintro e w' ⟨rfl, hb⟩; have hB' := HTR.out _ _ (by assumption) hb; obtain ⟨k0, k1⟩ := HCB.out _ hB') | (go_at_call 70; (with_reducible refine Calls.mono (HWK.out _ ?_) ?_); (assumption); rintro e w' ⟨u, rfl, hu, hb⟩; have hB' := HTR.out _ _ (by assumption) hb; obtain ⟨k0, k1⟩ := HCB.out _ hB') | (go_at_call 53; (with_reducible refine Calls.mono (HK8.out _ _ ?_ ?_) ?_); (assumption); (assumption); rintro e w' ⟨u8, rfl, hl8, hc8, hb⟩; have hB' := HTR.out _ _ (by assumption) hb; obtain ⟨k0, k1⟩ := HCB.out _ hB'))
        (try go_wp2_with fail)
        refine hK.out _ _ (by (try dsimp only); (first | go_keep | (refine ⟨by assumption, ?_⟩; go_keep))) (fun hHeld => ?_)
        clear hK K
        (try simp only [Act.put, List.setIfInBounds_toArray, List.set_cons_zero, List.set_cons_succ])
        refine wpAnyH_ready (rs := [5]) (by kernel_rfl) (by simp) ?_
        refine AllReadyH.cons (o := ⟨_, _, _, _, _, _⟩) rfl (fun K hK => ?_) AllReadyH.nil
        go_simp
        (first | (go_at_call 71; (with_reducible refine Calls.mono (HVR.out _) ?_); rintro e w' ⟨rfl, hb⟩; have hB' := HTR.out _ _ (by assumption) hb; obtain ⟨k0, k1⟩ := HCB.out _ hB') | (go_at_call 70; (with_reducible refine Calls.mono (HWK.out _ ?_) ?_); (assumption); rintro e w' ⟨u, rfl, hu, hb⟩; have hB' := HTR.out _ _ (by assumption) hb; obtain ⟨k0, k1⟩ := HCB.out _ hB') | (go_at_call 53; (with_reducible refine Calls.mono (HK8.out _ _ ?_ ?_) ?_); (assumption); (assumption); rintro e w' ⟨u8, rfl, hl8, hc8, hb⟩; have hB' := HTR.out _ _ (by assumption) hb; obtain ⟨k0, k1⟩ := HCB.out _ hB'))
        (try go_wp2_with fail)
        refine hK.out _ _ (by (try dsimp only); (first | go_keep | (refine ⟨by assumption, ?_⟩; go_keep))) (fun hHeld => ?_)
        clear hK K
        (try simp only [Act.put, List.setIfInBounds_toArray, List.set_cons_zero, List.set_cons_succ])
        refine wpAnyH_ready (rs := [8]) (by kernel_rfl) (by simp) ?_
        refine AllReadyH.cons (o := ⟨_, _, _, _, _, _⟩) rfl (fun K hK => ?_) AllReadyH.nil
        go_simp
        (first | (go_at_call 71; (with_reducible refine Calls.mono (HVR.out _) ?_); rintro e w' ⟨rfl, hb⟩; have hB' := HTR.out _ _ (by assumption) hb; obtain ⟨k0, k1⟩ := HCB.out _ hB') | (go_at_call 70; (with_reducible refine Calls.mono (HWK.out _ ?_) ?_); (assumption); rintro e w' ⟨u, rfl, hu, hb⟩; have hB' := HTR.out _ _ (by assumption) hb; obtain ⟨k0, k1⟩ := HCB.out _ hB') | (go_at_call 53; (with_reducible refine Calls.mono (HK8.out _ _ ?_ ?_) ?_); (assumption); (assumption); rintro e w' ⟨u8, rfl, hl8, hc8, hb⟩; have hB' := HTR.out _ _ (by assumption) hb; obtain ⟨k0, k1⟩ := HCB.out _ hB'))
        (try go_wp2_with fail)
        refine hK.out _ _ (by (try dsimp only); (first | go_keep | (refine ⟨by assumption, ?_⟩; go_keep))) (fun hHeld => ?_)
        clear hK K
        (try simp only [Act.put, List.setIfInBounds_toArray, List.set_cons_zero, List.set_cons_succ])
        (refine wpAnyH_take (i := 9) (oi := ⟨_, _, _, _, _, _⟩) (v := ?_) rfl (by kernel_rfl) (by kernel_rfl) (by kernel_rfl) (fun _ _ _ h => h) (Or.inl ⟨by rfl, ?_⟩) (by assumption) ?_; rotate_left; focus ((intro w' hSw; (try dsimp only at hSw); go_simp; (try with_reducible rfl)))); (try simp only [Act.put, List.setIfInBounds_toArray, List.set_cons_zero, List.set_cons_succ])
        (refine wpAnyH_take (i := 10) (oi := ⟨_, _, _, _, _, _⟩) (v := ?_) rfl (by kernel_rfl) (by kernel_rfl) (by kernel_rfl) (fun _ _ _ h => h) (Or.inl ⟨by rfl, ?_⟩) (by assumption) ?_; rotate_left; focus ((intro w' hSw; (try dsimp only at hSw); go_simp; (try with_reducible rfl)))); (try simp only [Act.put, List.setIfInBounds_toArray, List.set_cons_zero, List.set_cons_succ])
        (refine wpAnyH_take (i := 11) (oi := ⟨_, _, _, _, _, _⟩) (v := ?_) rfl (by kernel_rfl) (by kernel_rfl) (by kernel_rfl) (fun _ _ _ h => h) (Or.inl ⟨by rfl, ?_⟩) (by assumption) ?_; rotate_left; focus ((intro w' hSw; (try dsimp only at hSw); go_simp; (try with_reducible rfl)))); (try simp only [Act.put, List.setIfInBounds_toArray, List.set_cons_zero, List.set_cons_succ])
        (refine wpAnyH_take (i := 12) (oi := ⟨_, _, _, _, _, _⟩) (v := ?_) rfl (by kernel_rfl) (by kernel_rfl) (by kernel_rfl) (fun _ _ _ h => h) (Or.inl ⟨by rfl, ?_⟩) (by assumption) ?_; rotate_left; focus ((intro w' hSw; (try dsimp only at hSw); go_simp; (try with_reducible rfl)))); (try simp only [Act.put, List.setIfInBounds_toArray, List.set_cons_zero, List.set_cons_succ])
        (refine wpAnyH_take (i := 13) (oi := ⟨_, _, _, _, _, _⟩) (v := ?_) rfl (by kernel_rfl) (by kernel_rfl) (by kernel_rfl) (fun _ _ _ h => h) (Or.inl ⟨by rfl, ?_⟩) (by assumption) ?_; rotate_left; focus ((intro w' hSw; (try dsimp only at hSw); go_simp; (try with_reducible rfl)))); (try simp only [Act.put, List.setIfInBounds_toArray, List.set_cons_zero, List.set_cons_succ])
        refine wpAnyH_done (by kernel_rfl) ?_ _
        go_wp2
        go_roundw
        case rel => exact ⟨k + 1, r, by omega, by go_num, HR2, Lib.hid (by have h1 := HRL.out; have h2 := HACC.out; omega), HRA, Lib.hid (by assumption), Lib.hid (by assumption), Lib.hid (HEND.out _ (by assumption))⟩
        case measure => simp [intOf]; omega
    · obtain rfl : k = l.length := by omega
      obtain rfl : some acc = R := by
        have h := HR.out
        rw [List.drop_of_length_le (Nat.le_refl _)] at h
        exact h
      go_wp2
      go_ret2
      exact ⟨_, rfl, HO.out, HB.out⟩

theorem rm_fold {s : List Bd} {l : List Mk} (h : substB s = true ∧ mksB l = true) : rfVM s l = demM.fold s l [] := by rw [rfVM_yes h, fold_rf]
theorem rm_len (s : List Bd) (l : List Mk) : (rmL s l).length ≤ 5000 * l.length := by
  unfold rmL
  by_cases h : substB s = true ∧ mksB l = true
  · rw [rfVM_yes h, DemT.rf]
    split
    · cases hj : allJ demM.O l.length (l.map (demM.one s)) with
      | none => exact Nat.zero_le _
      | some r =>
        have h1 := allJ_len demM.O _ _ _ hj
        have h2 : ∀ m : List Mk, (∀ x ∈ m, x ∈ l) → lenS (m.map (demM.one s)) ≤ 5000 * m.length := by
          intro m
          induction m with
          | nil => intro _; exact Nat.zero_le _
          | cons x m ih =>
            intro hm
            have h3 := ih fun y hy => hm y (List.mem_cons_of_mem _ hy)
            obtain ⟨i, hi⟩ := List.getElem?_of_mem (hm x (List.mem_cons_self ..))
            have hok := (tv_ok (substB_true.1 h.1) (mksB_true.1 h.2 i x hi).1.1).1
            have h4 : (demM.one s x).length ≤ 5000 := by
              show (poLM [x] (varsOf (tv s x.v))).length ≤ _
              rw [poLM_len, List.length_singleton, Nat.mul_one]
              exact vars_fewM hok
            rw [List.map_cons, List.length_cons]
            simp only [lenS]
            omega
        show r.length ≤ _
        have := h2 l fun x hx => hx
        omega
    · exact Nat.zero_le _
  · rw [rfVM_no h]
    exact Nat.zero_le _

set_option maxRecDepth 100000 in
set_option maxHeartbeats 4000000 in
theorem specRefreshMarks_any (s : List Bd) (Vs : Value) (l : List Mk) (Vl : Value) (w : World) (hS : ListS bdE w Any Vs s) (hZs : szB s ≤ 1048576) (hA : ListS mkE w Any Vl l) (hFM : fineM l) (hL : l.length ≤ 1048577) :
    Calls Tryz.prog 31 #[Vs, Vl] w (OldM2 (rmL s l) (rmB s l) w) := by
  have HC := Lib.hid (specSubstOk_any s Vs w hS (eachB_of hZs))
  have HS := Lib.hid hS
  have HA := Lib.hid hA
  have HFM := Lib.hid hFM
  have hLs : s.length ≤ 1048576 := (eachB_of hZs).1
  have HNO : Hid (¬ (substB s = true ∧ mksB l = true) → rfVM s l = none) := Lib.hid rfVM_no
  have HYES : Hid (substB s = true ∧ mksB l = true → rfVM s l = demM.fold s l []) := Lib.hid rm_fold
  unfold rmL rmB
  generalize rfVM s l = R at HNO HYES ⊢
  clear hS hA hFM
  go_enter Tryz.func31, Tryz.ntmps31
  go_wp2_with fail
  refine HC.out.mono ?_
  rintro e w1 ⟨rfl, hb⟩
  have HW1 := Lib.hid hb
  clear hb HC
  cases hs : substB s with
  | false =>
    obtain rfl := HNO.out fun h => Bool.false_ne_true (hs.symm.trans h.1)
    clear hs HNO HYES
    go_wp2
    go_ret2
    exact ⟨_, rfl, .nil _ _, HW1.out⟩
  | true =>
    have HSB := Lib.hid hs
    clear hs
    have HK := Lib.hid (specMarksOk_any l Vl w1 (HA.out.kept HW1.out) HFM.out hL)
    go_wp2_with fail
    refine HK.out.mono ?_
    rintro e w2 ⟨rfl, hb⟩
    have HW2 := Lib.hid (HW1.out.trans (hb.mono HW1.out.size))
    clear hb HK
    cases hkd : mksB l with
    | false =>
      obtain rfl := HNO.out fun h => Bool.false_ne_true (hkd.symm.trans h.2)
      clear hkd HNO HYES
      go_wp2
      go_ret2
      exact ⟨_, rfl, .nil _ _, HW2.out⟩
    | true =>
      have HRE := Lib.hid (HYES.out ⟨HSB.out, hkd⟩)
      have HC3 := Lib.hid (specMarks_any s Vs l Vl w2 (HS.out.kept HW2.out) hLs (substB_true.1 HSB.out) (HA.out.kept HW2.out) HFM.out (mksB_true.1 hkd) hL)
      rw [← HRE.out] at HC3
      clear hkd HNO HYES
      go_wp2_with fail
      refine HC3.out.mono ?_
      rintro e w3 ⟨v3, rfl, hl3, hb3⟩
      have HL3 := Lib.hid hl3
      have HW3 := Lib.hid (HW2.out.trans (hb3.mono HW2.out.size))
      clear hl3 hb3 HC3
      go_wp2
      go_ret2
      exact ⟨_, rfl, HL3.out, HW3.out⟩
end Go.Proofs.YtnmdnajbafpfiaaGreat

