/-
  The program's DisequalityHolds.
-/
import Derived.Test.YtjpkkhhcpcokaaaDisH
namespace Go.Proofs.Ytjpkkhhcpcokaaa
open Go.RowKit
set_option linter.unusedVariables false
set_option linter.unusedSimpArgs false

theorem putT_szG {l : List Bd} (hl : ValuesP l) {t : Tm} (ht : Ok t) (h : (putT l t).nodes ≤ 5000) : Good (putT l t) ∧ (putT l t).sz ≤ 1048576 := by
  have hg : Good (putT l t) := putT_good (fun b hb => by
    obtain ⟨k, hk⟩ := List.getElem?_of_mem hb
    exact (hl.1 k b hk).2.2) t.nodes t (Nat.le_refl _) ht.2
  have := good_sz hg
  exact ⟨hg, by omega⟩

set_option maxRecDepth 100000 in
set_option maxHeartbeats 8000000 in
theorem implDisequalityHolds_any (d : List Bd) (Vd : Value) (l : List Bd) (Vl : Value) (w : World) (hA : ListS bdE w Any Vd d) (hZ : szB d ≤ 1048576) (hF : fineB d) (hB : ListS bdE w Any Vl l) (hZl : szB l ≤ 1048576) (hFl : fineB l) :
    Calls Try.prog 11 #[Vd, Vl] w fun r w' => r = .returned (.bool (dhB d l)) ∧ Below w.heap.size w w' := by
  obtain ⟨c0, hc0⟩ : ∃ c, dhB d l = c := ⟨_, rfl⟩
  rw [hc0]
  have HNO : Hid (¬ SubstP d → c0 = false) := Lib.hid fun h => hc0.symm.trans (dh_bad h)
  have HNO2 : Hid (¬ ValuesP l → c0 = false) := Lib.hid fun h => hc0.symm.trans (dh_bad2 h)
  have HYES : Hid (SubstP d → ValuesP l → c0 = d.any (dhOne l)) := Lib.hid fun h h2 => hc0.symm.trans (dh_impl h h2)
  clear hc0
  obtain ⟨aa, ca, rfl⟩ := hA.slice
  obtain ⟨ab, cb, rfl⟩ := hB.slice
  have HE := Lib.hid (eachB_of hZ)
  have HEL := Lib.hid (eachB_of hZl)
  have hLd : d.length ≤ 1048576 := HE.out.1
  have HA := Lib.hid hA
  have HB := Lib.hid hB
  have HFL := Lib.hid (fun b hb => (hFl b hb).2)
  have HC := Lib.hid (implSubstOk_e d _ w hA HE.out (fun b hb => (hF b hb).2))
  clear hA hB hF hFl
  go_enter Try.func11, Try.ntmps11
  go_wp2_with fail
  refine HC.out.mono ?_
  rintro r w1 ⟨rfl, hb⟩
  have HW1 := Lib.hid hb
  clear hb HC
  cases hs : substB d with
  | false =>
    obtain rfl := HNO.out (substB_false.1 hs)
    clear hs
    go_wp2
    go_ret
    exact ⟨rfl, HW1.out⟩
  | true =>
  have HS := Lib.hid (substB_true.1 hs)
  have HC := Lib.hid (implValuesOk_e l _ w1 (HB.out.kept HW1.out) HEL.out)
  clear hs HNO
  go_wp2_with fail
  refine HC.out.mono ?_
  rintro r w2 ⟨rfl, hb⟩
  have HW2 := Lib.hid (belowOn HW1.out (Nat.le_refl _) hb)
  clear hb HC HW1
  cases hs : valuesB l with
  | false =>
    obtain rfl := HNO2.out (valuesB_false.1 hs)
    clear hs
    go_wp2
    go_ret
    exact ⟨rfl, HW2.out⟩
  | true =>
  have HV := Lib.hid (valuesB_true.1 hs)
  have HEQ := Lib.hid (HYES.out HS.out HV.out)
  have HC := Lib.hid (mapOf_any l _ w2 (HB.out.kept HW2.out) HEL.out.1 HFL.out)
  clear hs HNO2 HYES
  go_wp2_with fail
  refine HC.out.mono ?_
  rintro r w3 ⟨mb, rfl, _, hmp, hb⟩
  have HM := Lib.hid (hmp.same (lastO_values HV.out))
  have HW3 := Lib.hid (belowOn HW2.out (Nat.le_refl _) hb)
  have HA3 := Lib.hid (HA.out.kept HW3.out)
  clear hb HC HW2 hmp HA
  go_wp2
  go_loopw [22] (fun iv wr => ∃ k : Nat, k ≤ d.length ∧ iv = .int .i64 k ∧ Hid ((d.take k).any (dhOne l) = false) ∧ Hid (Below w3.heap.size w3 wr)) (fun iv _ => d.length - (intOf iv).toNat)
  case atStart => exact ⟨0, Nat.zero_le _, rfl, Lib.hid (by simp), Lib.hid (Below.refl _ _)⟩
  case round =>
    obtain ⟨k, hka, rfl, HNY, HQ⟩ := hrel
    by_cases hlt : k < d.length
    · have hltI : (k : Int) < (d.length : Int) := by omega
      obtain ⟨x, hx⟩ : ∃ x, d[k]? = some x := ⟨_, List.getElem?_eq_getElem hlt⟩
      obtain ⟨ga, offa, u1, u2, hva, hga, _, hcx, hax⟩ := (HA3.out.kept HQ.out).bd hx
      cases hva
      have HXE := Lib.hid hx
      have HOKX := Lib.hid (HS.out.1.1 k x hx)
      obtain ⟨d0, d1, d2, d3, d4⟩ := hcx wr (Below.refl _ _)
      have HAX := Lib.hid hax.at
      clear hx hcx hax
      go_upto_region 7 with (fail)
      have hal : Below wr.heap.size wr (wr.alloc (.cells #[.int .i64 x.v, .int .i64 x.t.kind, .int .i64 x.t.num, .string x.t.name, .slice u1 x.t.args.length u2] 62)) := belowAlloc (Below.refl _ _) _
      have HX1 := Lib.hid (at_box_of wr #[.int .i64 x.v, .int .i64 x.t.kind, .int .i64 x.t.num, .string x.t.name, .slice u1 x.t.args.length u2] 62 wr.heap.size rfl)
      have HQ1 := Lib.hid (belowOn HQ.out (Nat.le_refl _) hal)
      replace HAX := Lib.hid (HAX.out.kept hal)
      clear d0 d1 d2 d3 d4 hal HQ hga
      generalize hw1 : wr.alloc (.cells #[.int .i64 x.v, .int .i64 x.t.kind, .int .i64 x.t.num, .string x.t.name, .slice u1 x.t.args.length u2] 62) = w4 at HX1 HQ1 HAX ⊢
      clear hw1
      generalize wr.heap.size = nb at HX1 ⊢
      have HXZ : Hid (x.t.sz ≤ 1048576) := Lib.hid (Nat.le_succ_of_le (HE.out.2 x (List.mem_of_getElem? HXE.out)))
      have HC := Lib.hid (apply_any mb l x.t _ w4 (HM.out.kept HQ1.out) HV.out.fits HAX.out HXZ.out HOKX.out.2.2)
      have HSP : Hid (dhOne l x = (fitB l x.t && !((putT l (varTm x.v)).cmp (putT l x.t) == 0))) := Lib.hid rfl
      have HFIT : Hid (fitB l x.t = true → fitT l x.t = putT l x.t ∧ (putT l x.t).nodes ≤ 5000) := Lib.hid fun h => by
        have h' : (putT l x.t).nodes ≤ 5000 := by unfold fitB at h; exact of_decide_eq_true h
        exact ⟨by rw [fitT, if_pos h'], h'⟩
      obtain ⟨e0, e1, e2, e3, e4, ef⟩ := box_cells5 HX1.out.now
      have ze := HX1.out.le
      generalize fitB l x.t = o2 at HC HSP HFIT ⊢
      generalize fitT l x.t = f2 at HC HFIT ⊢
      go_wp2_with fail
      refine HC.out.mono ?_
      rintro r w5 ⟨v2, rfl, hn⟩
      obtain ⟨p2, q2, rfl⟩ := hn.1.argsAt.slice
      have HQ5 := Lib.hid (belowOn HQ1.out (Nat.le_refl _) hn.2)
      have HX5 := Lib.hid (HX1.out.read hn.2)
      replace HAX := Lib.hid (HAX.out.kept hn.2)
      have HA2 := Lib.hid hn.1.argsAt
      clear hn HC HX1 HQ1 e0 e1 e2 e3 e4 ef ze
      go_upto_region 8 with (fail)
      have hal : Below w5.heap.size w5 (w5.alloc (.cells #[.int .i64 f2.kind, .int .i64 f2.num, .string f2.name, .slice p2 f2.args.length q2] 46)) := belowAlloc (Below.refl _ _) _
      have HY := Lib.hid (at_box_of w5 #[.int .i64 f2.kind, .int .i64 f2.num, .string f2.name, .slice p2 f2.args.length q2] 46 w5.heap.size rfl)
      have HQ6 := Lib.hid (belowOn HQ5.out (Nat.le_refl _) hal)
      have HX6 := Lib.hid (HX5.out.read hal)
      replace HA2 := Lib.hid (HA2.out.kept hal)
      replace HAX := Lib.hid (HAX.out.kept hal)
      clear hal HX5 HQ5
      generalize hw6 : w5.alloc (.cells #[.int .i64 f2.kind, .int .i64 f2.num, .string f2.name, .slice p2 f2.args.length q2] 46) = w6 at HY HQ6 HX6 HA2 HAX ⊢
      clear hw6
      generalize w5.heap.size = nc at HY ⊢
      have HKL := Lib.hid hlt
      have NEXT : Hid (dhOne l x = false → (d.take (k + 1)).any (dhOne l) = false) := Lib.hid fun h => any_snoc HXE.out HNY.out h
      cases o2 with
      | false =>
        have HN := Lib.hid (NEXT.out (by rw [HSP.out]; rfl))
        clear NEXT HSP HFIT
        go_cut [42] from 23 to 44 (fun b wx => b = .bool false ∧ Below w6.heap.size w6 wx)
        case first =>
          have hself : Below w6.heap.size w6 w6 := Below.refl _ _
          have hdrew : Below w6.heap.size w6 w6.drew := hself.drew
          clear HA3 HAX HNY HX6 HY HQ6 HM HA2 HN
          refine wp_region_held_drew (S := (fun w' => Below w6.heap.size w6 w')) (by kernel_rfl) (by (try dsimp only); go_keep) (fun hHeld => ?_)
          (refine wpAnyH_take (i := 0) (oi := ⟨_, _, _, _, _, _⟩) (v := ?_) rfl (by kernel_rfl) (by kernel_rfl) (by kernel_rfl) (fun _ _ _ h => h) (Or.inl ⟨by rfl, ?_⟩) (by assumption) ?_; rotate_left; focus ((intro w' hSw; (try dsimp only at hSw); go_simp; (try with_reducible rfl)))); (try simp only [Act.put, List.setIfInBounds_toArray, List.set_cons_zero, List.set_cons_succ])
          (refine wpAnyH_take (i := 1) (oi := ⟨_, _, _, _, _, _⟩) (v := ?_) rfl (by kernel_rfl) (by kernel_rfl) (by kernel_rfl) (fun _ _ _ h => h) (Or.inl ⟨by rfl, ?_⟩) (by assumption) ?_; rotate_left; focus ((intro w' hSw; (try dsimp only at hSw); go_simp; (try with_reducible rfl)))); (try simp only [Act.put, List.setIfInBounds_toArray, List.set_cons_zero, List.set_cons_succ])
          (refine wpAnyH_take (i := 2) (oi := ⟨_, _, _, _, _, _⟩) (v := undef) rfl (by kernel_rfl) (by kernel_rfl) (by kernel_rfl) (fun _ _ _ h => h) (Or.inr ⟨by rfl, rfl⟩) (by assumption) ?_); (try simp only [Act.put, List.setIfInBounds_toArray, List.set_cons_zero, List.set_cons_succ])
          (refine wpAnyH_take (i := 3) (oi := ⟨_, _, _, _, _, _⟩) (v := undef) rfl (by kernel_rfl) (by kernel_rfl) (by kernel_rfl) (fun _ _ _ h => h) (Or.inr ⟨by rfl, rfl⟩) (by assumption) ?_); (try simp only [Act.put, List.setIfInBounds_toArray, List.set_cons_zero, List.set_cons_succ])
          (refine wpAnyH_take (i := 4) (oi := ⟨_, _, _, _, _, _⟩) (v := undef) rfl (by kernel_rfl) (by kernel_rfl) (by kernel_rfl) (fun _ _ _ h => h) (Or.inr ⟨by rfl, rfl⟩) (by assumption) ?_); (try simp only [Act.put, List.setIfInBounds_toArray, List.set_cons_zero, List.set_cons_succ])
          (refine wpAnyH_take (i := 5) (oi := ⟨_, _, _, _, _, _⟩) (v := undef) rfl (by kernel_rfl) (by kernel_rfl) (by kernel_rfl) (fun _ _ _ h => h) (Or.inr ⟨by rfl, rfl⟩) (by assumption) ?_); (try simp only [Act.put, List.setIfInBounds_toArray, List.set_cons_zero, List.set_cons_succ])
          (refine wpAnyH_take (i := 6) (oi := ⟨_, _, _, _, _, _⟩) (v := undef) rfl (by kernel_rfl) (by kernel_rfl) (by kernel_rfl) (fun _ _ _ h => h) (Or.inr ⟨by rfl, rfl⟩) (by assumption) ?_); (try simp only [Act.put, List.setIfInBounds_toArray, List.set_cons_zero, List.set_cons_succ])
          (refine wpAnyH_take (i := 7) (oi := ⟨_, _, _, _, _, _⟩) (v := undef) rfl (by kernel_rfl) (by kernel_rfl) (by kernel_rfl) (fun _ _ _ h => h) (Or.inr ⟨by rfl, rfl⟩) (by assumption) ?_); (try simp only [Act.put, List.setIfInBounds_toArray, List.set_cons_zero, List.set_cons_succ])
          (refine wpAnyH_take (i := 8) (oi := ⟨_, _, _, _, _, _⟩) (v := undef) rfl (by kernel_rfl) (by kernel_rfl) (by kernel_rfl) (fun _ _ _ h => h) (Or.inr ⟨by rfl, rfl⟩) (by assumption) ?_); (try simp only [Act.put, List.setIfInBounds_toArray, List.set_cons_zero, List.set_cons_succ])
          (refine wpAnyH_take (i := 9) (oi := ⟨_, _, _, _, _, _⟩) (v := ?_) rfl (by kernel_rfl) (by kernel_rfl) (by kernel_rfl) (fun _ _ _ h => h) (Or.inl ⟨by rfl, ?_⟩) (by assumption) ?_; rotate_left; focus ((intro w' hSw; (try dsimp only at hSw); go_simp; (try with_reducible rfl)))); (try simp only [Act.put, List.setIfInBounds_toArray, List.set_cons_zero, List.set_cons_succ])
          refine wpAnyH_done (by kernel_rfl) ?_ _
          go_wp2_with fail
          go_meet
          exact ⟨rfl, by assumption⟩
        case rest =>
          obtain ⟨rfl, hb⟩ := hcut
          obtain ⟨w7, rfl⟩ : ∃ x : World, x = wc := ⟨_, rfl⟩
          have HQ7 := Lib.hid (belowOn HQ6.out (Nat.le_refl _) hb)
          clear hb
          go_wp2
          go_roundw
          case rel => exact ⟨k + 1, by have := HKL.out; omega, by go_num, HN, HQ7⟩
          case measure => have := HKL.out; simp [intOf]; omega
      | true =>
        obtain ⟨hf, hnd⟩ := HFIT.out rfl
        obtain rfl : f2 = putT l x.t := hf
        have HG2 := Lib.hid (putT_szG HV.out HOKX.out.2 hnd)
        have HG1 := Lib.hid (putT_szG HV.out (varTm_okR HOKX.out.1) (var_fits HV.out (v := x.v)).2)
        have HM6 := Lib.hid (HM.out.kept HQ6.out)
        have HFI := Lib.hid HV.out.fits
        have HOV := Lib.hid (varTm_okR HOKX.out.1)
        have HRES : Hid (dhOne l x = !((putT l (varTm x.v)).cmp (putT l x.t) == 0)) := Lib.hid (by rw [HSP.out, Bool.true_and])
        clear HFIT HSP hnd
        generalize hP : putT l (varTm x.v) = a1 at HG1 HRES
        generalize putT l x.t = f2 at HY HA2 HG2 HRES ⊢
        have HPV := Lib.hid hP
        clear hP
        go_cut [42] from 23 to 44 (fun b wx => b = .bool (!(a1.cmp f2 == 0)) ∧ Below w6.heap.size w6 wx)
        case first =>
          have hself : Below w6.heap.size w6 w6 := Below.refl _ _
          have hdrew : Below w6.heap.size w6 w6.drew := hself.drew
          have HCE : Hid (∀ W, Below w6.heap.size w6 W → W.cell? ⟨nb, 0, none⟩ = some (.int .i64 x.v) ∧ W.cell? ⟨nb, 1, none⟩ = some (.int .i64 x.t.kind) ∧ W.cell? ⟨nb, 2, none⟩ = some (.int .i64 x.t.num) ∧ W.cell? ⟨nb, 3, none⟩ = some (.string x.t.name) ∧ W.cell? ⟨nb, 4, none⟩ = some (.slice u1 x.t.args.length u2) ∧ W.cell? ⟨nc, 0, none⟩ = some (.int .i64 f2.kind) ∧ W.cell? ⟨nc, 1, none⟩ = some (.int .i64 f2.num) ∧ W.cell? ⟨nc, 2, none⟩ = some (.string f2.name) ∧ W.cell? ⟨nc, 3, none⟩ = some (.slice p2 f2.args.length q2)) := Lib.hid fun W hW => by
            obtain ⟨e0, e1, e2, e3, e4, ef⟩ := box_cells5 (HX6.out.read hW).now
            obtain ⟨y0, y1, y2, y3⟩ := (HY.out.read hW).cells
            exact ⟨e0, e1, e2, e3, e4, y0, y1, y2, y3⟩
          have HTR : Hid (∀ a b, Below w6.heap.size w6 a → Below a.heap.size a b → Below w6.heap.size w6 b) := Lib.hid fun a b h1 h2 => belowOn h1 (Nat.le_refl _) h2
          have HC1 : Hid (∀ W, Below w6.heap.size w6 W → Calls Try.prog 57 #[.agg #[.int .i64 x.v, .int .i64 x.t.kind, .int .i64 x.t.num, .string x.t.name, .slice u1 x.t.args.length u2]] W fun e w' => e = .returned (.agg #[.int .i64 1, .int .i64 x.v, .string ⟨#[]⟩, .slice none 0 0]) ∧ Below W.heap.size W w') := Lib.hid fun W hW => variable_any x _ W (HAX.out.kept hW)
          have HC2 : Hid (∀ W, Below w6.heap.size w6 W → Calls Try.prog 56 #[.map (some mb), .agg #[.int .i64 1, .int .i64 x.v, .string ⟨#[]⟩, .slice none 0 0]] W fun e w' => ∃ p1 q1, e = .returned (.agg #[.int .i64 a1.kind, .int .i64 a1.num, .string a1.name, .slice p1 a1.args.length q1]) ∧ Hid (∀ W2, Below w'.heap.size w' W2 → ArgsAt W2 (.slice p1 a1.args.length q1) a1.args) ∧ Below W.heap.size W w') := Lib.hid fun W hW => by
            have h := applied_any ((varTm x.v).nodes + 1) mb l (varTm x.v) (.slice none 0 0) W (Nat.lt_succ_self _) (HM6.out.kept hW) HFI.out (ArgsAt.nil none 0) (varTm_szR HOKX.out.1) HOV.out.2
            rw [HPV.out] at h
            refine Calls.mono h ?_
            rintro e w' ⟨u, he, hn⟩
            obtain ⟨p1, q1, rfl⟩ := hn.1.argsAt.slice
            exact ⟨p1, q1, he, Lib.hid fun W2 h2 => hn.1.argsAt.kept h2, hn.2⟩
          have HC3 : Hid (∀ W p1 q1, Below w6.heap.size w6 W → ArgsAt W (.slice p1 a1.args.length q1) a1.args → Calls Try.prog 58 #[.agg #[.int .i64 a1.kind, .int .i64 a1.num, .string a1.name, .slice p1 a1.args.length q1], .agg #[.int .i64 f2.kind, .int .i64 f2.num, .string f2.name, .slice p2 f2.args.length q2]] W fun e w' => e = .returned (.int .i64 (a1.cmp f2)) ∧ Below W.heap.size W w') := Lib.hid fun W p1 q1 hW h1 => compare_any (a1.nodes + 1) a1 f2 _ _ W (Nat.lt_succ_self _) h1 (HA2.out.kept hW) HG1.out.2 HG2.out.2 HG1.out.1 HG2.out.1
          have z0 : nb < w6.heap.size := HX6.out.le
          have z1 : nc < w6.heap.size := HY.out.le
          obtain ⟨k0, k1, k2, k3, k4, k5, k6, k7, k8⟩ := HCE.out _ hself
          have hbn : (a1.cmp f2 != 0) = !(a1.cmp f2 == 0) := rfl
          clear HA3 HAX HNY HX6 HY HQ6 HM6 HM HA2 NEXT
          generalize hcc : a1.cmp f2 = cc at HC3 hbn
          have HCC := Lib.hid hcc
          clear hcc
          go_region_held3 (fun w' => Below w6.heap.size w6 w' ∧ w'.cell? ⟨nb, 0, none⟩ = some (.int .i64 x.v) ∧ w'.cell? ⟨nb, 1, none⟩ = some (.int .i64 x.t.kind) ∧ w'.cell? ⟨nb, 2, none⟩ = some (.int .i64 x.t.num) ∧ w'.cell? ⟨nb, 3, none⟩ = some (.string x.t.name) ∧ w'.cell? ⟨nb, 4, none⟩ = some (.slice u1 x.t.args.length u2) ∧ w'.cell? ⟨nc, 0, none⟩ = some (.int .i64 f2.kind) ∧ w'.cell? ⟨nc, 1, none⟩ = some (.int .i64 f2.num) ∧ w'.cell? ⟨nc, 2, none⟩ = some (.string f2.name) ∧ w'.cell? ⟨nc, 3, none⟩ = some (.slice p2 f2.args.length q2)) (go_keep)
            (first
              | (go_at_call 57; refine Calls.mono (HC1.out _ ?_) ?_; (assumption); rintro r wA ⟨rfl, hb⟩; have hA' := HTR.out _ _ (by assumption) hb; obtain ⟨k0, k1, k2, k3, k4, k5, k6, k7, k8⟩ := HCE.out _ hA')
              | (go_at_call 56; refine Calls.mono (HC2.out _ ?_) ?_; (assumption); rintro r wB ⟨p1, q1, rfl, HA1, hb⟩; have hB' := HTR.out _ _ (by assumption) hb; obtain ⟨k0, k1, k2, k3, k4, k5, k6, k7, k8⟩ := HCE.out _ hB')
              | (go_at_call 58; refine Calls.mono (HC3.out _ _ _ ?_ ?_) ?_; (assumption); (first | exact HA1.out _ (Below.refl _ _) | exact HA1.out _ (Below.refl _ _).drew | exact HA1.out _ (by assumption)); rintro r wC ⟨rfl, hb⟩; have hC' := HTR.out _ _ (by assumption) hb; obtain ⟨k0, k1, k2, k3, k4, k5, k6, k7, k8⟩ := HCE.out _ hC'))
          all_goals (go_wp2_with fail; go_meet; refine ⟨?_, by assumption⟩; rw [HCC.out])
        case rest =>
          obtain ⟨rfl, hb⟩ := hcut
          obtain ⟨w7, rfl⟩ : ∃ x : World, x = wc := ⟨_, rfl⟩
          have HQ7 := Lib.hid (belowOn HQ6.out (Nat.le_refl _) hb)
          clear hb
          cases hm : (a1.cmp f2 == 0) with
          | true =>
            have HN := Lib.hid (NEXT.out (by rw [HRES.out, hm]; rfl))
            clear NEXT HRES hm
            go_wp2
            go_roundw
            case rel => exact ⟨k + 1, by have := HKL.out; omega, by go_num, HN, HQ7⟩
            case measure => have := HKL.out; simp [intOf]; omega
          | false =>
            obtain rfl : c0 = true := by rw [HEQ.out]; exact any_hit HXE.out (by rw [HRES.out, hm]; rfl)
            clear NEXT HRES hm
            go_wp2
            go_ret
            exact ⟨rfl, belowOn HW3.out (Nat.le_refl _) HQ7.out⟩
    · obtain rfl : c0 = false := by rw [HEQ.out]; have := HNY.out; rwa [List.take_of_length_le (by omega)] at this
      have hkI : ¬ ((k : Int) < (d.length : Int)) := by omega
      go_wp2
      go_ret
      exact ⟨rfl, belowOn HW3.out (Nat.le_refl _) HQ.out⟩
end Go.Proofs.Ytjpkkhhcpcokaaa

