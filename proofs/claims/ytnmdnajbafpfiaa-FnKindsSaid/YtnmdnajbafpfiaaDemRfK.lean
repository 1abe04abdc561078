/-
  The program's refreshed and RefreshKinds. (Written by wip/tools/gen_demrf.py.)
-/
import Derived.Test.YtnmdnajbafpfiaaDemR
import Derived.Test.YtnmdnajbafpfiaaDemGrK
import Derived.Test.YtnmdnajbafpfiaaDemAllK
import Derived.Test.YtnmdnajbafpfiaaDemAK
import Derived.Test.YtnmdnajbafpfiaaSpecKind3
namespace Go.Proofs.Ytnmdnajbafpfiaa
open Go.RowKit
set_option linter.unusedVariables false
set_option linter.unusedSimpArgs false

def demK : DemT Kd where
  O := ordK
  v := Kd.v
  of := ofK
  ok := kdAllows
  lt1 n m a b h := ordK_lt.2 h
  lt2 n a b h hv := absurd (ordK_lt.1 h) (by rw [hv]; exact Int.lt_irrefl _)
theorem poK_is (l : List Kd) (t : Tm) : poK l t = demK.po l t := rfl
theorem infoLTK : (Try.prog.info? 79).map (fun i => (i.zero, i.size, i.bytes)) = some (some (.slice none 0 0), 1, 24) := by kernel_rfl
/-- What refreshing gives. -/
noncomputable def rfVK (s : List Bd) (l : List Kd) : Option (List Kd) := if substB s = true ∧ kdsB l = true then demK.rf s l else none
theorem rfVK_yes {s : List Bd} {l : List Kd} (h : substB s = true ∧ kdsB l = true) : rfVK s l = demK.rf s l := if_pos h
theorem rfVK_no {s : List Bd} {l : List Kd} (h : ¬ (substB s = true ∧ kdsB l = true)) : rfVK s l = none := if_neg h
theorem lenS_le {N : Nat} {α : Type} : ∀ {Ls : List (List α)} {G : List (List α)}, Ls.length ≤ G.length → (∀ (i : Nat) (L M : List α), G[i]? = some L → Ls[i]? = some M → M.length ≤ N * L.length) → lenS Ls ≤ N * lenS G
  | [], _, _, _ => Nat.zero_le _
  | M :: Ls, [], h, _ => by simp at h
  | M :: Ls, L :: G, h, hE => by
    have h1 := hE 0 L M rfl rfl
    have h2 := lenS_le (N := N) (Ls := Ls) (G := G) (by simpa using h) (fun i L' M' hL hM => hE (i + 1) L' M' (by simpa using hL) (by simpa using hM))
    simp only [lenS]
    rw [Nat.mul_add]
    omega
theorem lenS_flatten {α : Type} : ∀ G : List (List α), lenS G = G.flatten.length
  | [] => rfl
  | L :: G => by rw [lenS, lenS_flatten G, List.flatten_cons, List.length_append]
/-- What the groups looked at so far have passed on. -/
def PassRK (s : List Bd) (G : List (List Kd)) (Ls : List (List Kd)) (j : Nat) : Prop :=
  Ls.length = j ∧ ∀ (i : Nat) (L M : List Kd) (x : Kd), G[i]? = some L → Ls[i]? = some M → L[0]? = some x → poK L (tv s x.v) = some M

set_option maxRecDepth 100000 in
set_option maxHeartbeats 16000000 in
theorem kdRefreshed_any (l : List Kd) (Vl : Value) (s : List Bd) (Vs : Value) (w : World) (hA : ListS kdE w Any Vl l) (hC : CapL Vl l.length) (hL : l.length ≤ 1048577) (hS : ListS bdE w Any Vs s) (hZs : szB s ≤ 1048576) (hF : fineB s) :
    Calls Try.prog 45 #[Vl, Vs] w (NewAK w.heap.size (rfVK s l) w) := by
  obtain ⟨i1, hi, hz0, hz1, hz2⟩ := info_parts infoLTK
  have HII := Lib.hid (And.intro hi (And.intro hz0 (And.intro hz1 hz2)))
  have HC := Lib.hid (implSubstOk_any s Vs w hS hZs hF)
  have HA := Lib.hid hA
  have HS := Lib.hid hS
  have HCL := Lib.hid hC
  have HFW := Lib.hid hF.wf
  have hLs : s.length ≤ 1048576 := (eachB_of hZs).1
  have HNO : Hid (¬ (substB s = true ∧ kdsB l = true) → rfVK s l = none) := Lib.hid rfVK_no
  have HYES : Hid (substB s = true ∧ kdsB l = true → rfVK s l = demK.rf s l) := Lib.hid rfVK_yes
  generalize rfVK s l = R at HNO HYES ⊢
  clear hi hz0 hz1 hz2 hA hC hS hF
  go_enter Try.func45, Try.ntmps45
  go_wp2_with fail
  refine HC.out.mono ?_
  rintro e w1 ⟨rfl, hb⟩
  have HW1 := Lib.hid hb
  clear hb HC
  cases hs : substB s with
  | false =>
    obtain rfl := HNO.out fun h => Bool.false_ne_true (hs.symm.trans h.1)
    clear hs
    go_wp2
    go_ret2
    exact newAK_no HW1.out
  | true =>
    have HSB := Lib.hid hs
    have HSP := Lib.hid (substB_true.1 hs)
    have HC2 := Lib.hid (kdOk_any l Vl w1 (HA.out.kept HW1.out) hL)
    clear hs
    go_wp2_with fail
    refine HC2.out.mono ?_
    rintro e w2 ⟨rfl, hb⟩
    have HW2 := Lib.hid (HW1.out.trans (hb.mono HW1.out.size))
    clear hb HC2
    cases hlb : kdsB l with
    | false =>
      obtain rfl := HNO.out fun h => Bool.false_ne_true (hlb.symm.trans h.2)
      clear hlb
      go_wp2
      go_ret2
      exact newAK_no HW2.out
    | true =>
      have HRE := Lib.hid (HYES.out ⟨HSB.out, hlb⟩)
      have HKP := Lib.hid (kdsB_true.1 hlb)
      have HC3 := Lib.hid (mapOf_any s Vs w2 (HS.out.kept HW2.out) hLs HFW.out)
      clear hlb HNO HYES
      go_wp2_with fail
      refine HC3.out.mono ?_
      rintro e w3 ⟨mb, rfl, hmb, hM, hb⟩
      have HW3 := Lib.hid (HW2.out.trans (hb.mono HW2.out.size))
      have HM := Lib.hid (hM.same fun v => lastO_subst HSP.out v)
      have HC4 := Lib.hid (kdByVariable_any l Vl w3 (HA.out.kept HW3.out) HCL.out hL)
      clear hb HC3 hmb hM
      go_wp2_with fail
      refine HC4.out.mono ?_
      rintro e w4 ⟨u, gs, G, rfl, hrow, hgl, hgs, hG, hb⟩
      have HW4 := Lib.hid (HW3.out.trans (hb.mono HW3.out.size))
      have HM4 := Lib.hid (HM.out.kept hb)
      have HGV := Lib.hid hrow.vals
      have HGL := Lib.hid hgl
      have HGS := Lib.hid (fun j p L h1 h2 => (hgs j p L h1 h2).kept hb)
      have HGR := Lib.hid hG
      have hwz4 : w.heap.size ≤ w4.heap.size := HW4.out.size
      have hux : ∃ ua uc, u = .slice ua gs.length uc := by obtain ⟨a', c', h, _⟩ := HGV.out; exact ⟨a', c', h⟩
      obtain ⟨ua, uc, rfl⟩ := hux
      have hfl : G.flatten = l := by have h := hG.2; rwa [List.take_length] at h
      have HFL := Lib.hid hfl
      have hgn : gs.length ≤ 1048577 := by
        rw [hgl]
        have h1 : G.length ≤ lenS G := by
          have h2 : ∀ G' : List (List Kd), (∀ L ∈ G', L ≠ []) → G'.length ≤ lenS G' := by
            intro G'
            induction G' with
            | nil => intro _; exact Nat.zero_le _
            | cons L G' ih =>
              intro h
              have h3 := ih fun L' h' => h L' (List.mem_cons_of_mem _ h')
              have h4 := List.length_pos_iff.2 (h L (List.mem_cons_self ..))
              simp only [lenS, List.length_cons]
              omega
          exact h2 G fun L h => (hG.1 L h).1
        rw [lenS_flatten, hfl] at h1
        omega
      obtain ⟨ng, hng⟩ : ∃ n : Nat, n = gs.length := ⟨_, rfl⟩
      rw [← hng] at HGV hgn ⊢
      have HNG := Lib.hid hng
      clear hrow hgl hgs hG hb HC4 hfl hng HM
      go_wp2
      go_loopw [7, 25] (fun v7 jv wr => ∃ (j : Nat) (Ls : List (List Kd)), j ≤ ng ∧ jv = .int .i64 j ∧ Hid (ListsR kdE 39 79 wr w4.heap.size v7 Ls) ∧ Hid (PassRK s G Ls j) ∧ Hid (Below w4.heap.size w4 wr)) (fun _ jv _ => ng - (intOf jv).toNat)
      case atStart => exact ⟨0, [], Nat.zero_le _, rfl, Lib.hid (listsR_nil _ _ _ _ _), Lib.hid ⟨rfl, fun i L M x _ h => by simp at h⟩, Lib.hid (Below.refl _ _)⟩
      case round =>
        obtain ⟨j, Ls, hj, rfl, HLS, HPR, HB⟩ := hrel
        have HWR : Hid (Below w.heap.size w wr) := Lib.hid (belowOn HW4.out (Nat.le_refl _) HB.out)
        by_cases hlt : j < ng
        · have hltI : (j : Int) < (ng : Int) := by omega
          have hj0 : (0 : Int) ≤ (j : Int) := by omega
          obtain ⟨p, hp⟩ : ∃ p, gs[j]? = some p := ⟨_, List.getElem?_eq_getElem (by rw [← HNG.out]; exact hlt)⟩
          obtain ⟨L, hLG⟩ : ∃ L, G[j]? = some L := ⟨_, List.getElem?_eq_getElem (by rw [← HGL.out, ← HNG.out]; exact hlt)⟩
          have hLR := HGS.out j p L hp hLG
          obtain ⟨hne, _, _⟩ := HGR.out.1 L (List.mem_of_getElem? hLG)
          obtain ⟨x, hx⟩ : ∃ x, L[0]? = some x := ⟨_, List.getElem?_eq_getElem (List.length_pos_iff.2 hne)⟩
          have hxl : x ∈ l := by rw [← HFL.out]; exact List.mem_flatten.2 ⟨L, List.mem_of_getElem? hLG, List.mem_of_getElem? hx⟩
          obtain ⟨ix, hix⟩ := List.getElem?_of_mem hxl
          have hxr : 0 ≤ x.v ∧ x.v ≤ 100000 := (HKP.out ix x hix).1.1
          have hLl : L.length ≤ l.length := by rw [← HFL.out]; exact (List.sublist_flatten_of_mem (List.mem_of_getElem? hLG)).length_le
          obtain ⟨a', c', hv, hr⟩ := HGV.out
          obtain ⟨gg, go, rfl, hgg, hgc⟩ := hr.resolve_left (fun e => by rw [e] at hp; simp at hp)
          have hcg := (HB.out.cell (p := ⟨gg, go + j, none⟩) hgg).trans (hgc j p hp)
          obtain ⟨pa, pc, rfl⟩ := hLR.slice
          obtain ⟨g, off, rfl, hg, hq, hc⟩ := hLR.kd hx
          obtain ⟨d0, d1⟩ := hc wr HB.out
          rw [Nat.zero_mul, Nat.add_zero] at d0 d1
          obtain ⟨nL, hnL⟩ : ∃ n : Nat, n = L.length := ⟨_, rfl⟩
          rw [← hnL] at hcg hLR hLl
          have hnp : 0 < nL := by rw [hnL]; exact List.length_pos_iff.2 hne
          have hnpI : (0 : Int) < (nL : Int) := by omega
          have HLG := Lib.hid hLG
          have HX := Lib.hid hx
          have HLR := Lib.hid (hLR.kept HB.out)
          have HXR := Lib.hid hxr
          have HNL := Lib.hid hnL
          have HMR := Lib.hid (HM4.out.kept HB.out)
          have HTV := Lib.hid (tv_ok HSP.out hxr)
          obtain ⟨xv, xs⟩ := x
          have hLx : nL ≤ 1048577 := by omega
          have HCV := Lib.hid (kdVariable_any ⟨xv, xs⟩ wr)
          cases hv
          clear hp hLG hLR hx hxl hix hxr hr hgc hc hq hne hnL
          go_wp2_with fail
          refine HCV.out.mono ?_
          rintro e w5 ⟨rfl, hb⟩
          have HB5 := Lib.hid (belowOn HB.out (Nat.le_refl _) hb)
          have HLS5 := Lib.hid (HLS.out.kept hb)
          have HLR5 := Lib.hid (HLR.out.kept hb)
          have HCA := Lib.hid (applied_any 2 mb s (varTm xv) (.slice none 0 0) w5 (by rw [varTm, Tm.nodes, nodesL]; decide) (HMR.out.kept hb) HSP.out.fits (.nil _ _) (by rw [varTm, Tm.sz, szL]; exact Nat.zero_le _) (.var xv HXR.out.1 HXR.out.2))
          rw [show putT s (varTm xv) = tv s xv from rfl] at HCA
          clear hb HCV d0 d1 HB HLS HLR HMR
          go_wp2_with fail
          refine HCA.out.mono ?_
          rintro e w6 ⟨u6, rfl, hn⟩
          have HB6 := Lib.hid (belowOn HB5.out (Nat.le_refl _) hn.2)
          have HLS6 := Lib.hid (HLS5.out.kept hn.2)
          have HLR6 := Lib.hid (HLR5.out.kept hn.2)
          have HU6 := Lib.hid hn.1.argsAt
          have HCP := Lib.hid (kdPassed_any L (.slice (some ⟨g, off, none⟩) nL pc) (tv s xv) u6 w6 HLR6.out (by rw [← HNL.out]; exact hLx) HU6.out HTV.out.2 HTV.out.1)
          have HPO : Hid (∀ M, poK L (tv s xv) = some M → poK L (tv s xv) = some M) := Lib.hid fun _ h => h
          obtain ⟨q, hq⟩ : ∃ q, poK L (tv s xv) = q := ⟨_, rfl⟩
          rw [hq] at HCP
          have HQ := Lib.hid hq
          clear hn HCA hq HPO HB5 HLS5 HLR5
          go_wp2_with fail
          refine HCP.out.mono ?_
          rintro e w7 ⟨v7, rfl, hv7, hc7, hb⟩
          have HB7 := Lib.hid (belowOn HB6.out (Nat.le_refl _) hb)
          have HLS7 := Lib.hid (HLS6.out.kept hb)
          have HV7 := Lib.hid hv7
          have HC7 := Lib.hid hc7
          have HZ67 := Lib.hid HB6.out.size
          obtain ⟨v7a, v7c, rfl⟩ := hv7.slice
          clear hv7 hc7 hb HCP HLR6 HU6 HB6
          cases q with
          | none =>
            obtain rfl : R = none := HRE.out.trans (rf_fail HGR.out.1 HFL.out (List.mem_of_getElem? HLG.out) HX.out HQ.out)
            go_wp2
            go_ret2
            exact newAK_no (belowOn HW4.out (Nat.le_refl _) HB7.out)
          | some M =>
            obtain ⟨ps, hps, hrow, hE⟩ := HLS7.out
            have HE := Lib.hid hE
            have HPS := Lib.hid hps
            have HROW := Lib.hid hrow
            have hpl : ps.length ≤ 1099511627776 := by rw [hps]; have := HPR.out.1; omega
            have hwz7 : w4.heap.size ≤ w7.heap.size := HB7.out.size
            have HVO := Lib.hid (show ListO kdE 39 w7 (fun k => w4.heap.size ≤ k ∧ k < w7.heap.size ∧ _ ≠ some k) (.slice v7a M.length v7c) M from HV7.out.sub fun k hk => ⟨Nat.le_trans HZ67.out hk.1, hk.2, fun e => by
              obtain ⟨ps6, _, hrow6, _⟩ := HLS6.out
              have h1 := hrow6.lt k e
              have h2 := hk.1
              omega⟩)
            clear hE hps hrow
            go_wp2_with (at_builtin; refine append_oneG rfl _ _ 119 rfl w4.heap.size 79 i1 _ 24 Try.underlying119 HII.out.1 HII.out.2.1 HII.out.2.2.1 HII.out.2.2.2 rfl (by omega) _ ps rfl HROW.out _ rfl rfl hpl hwz7 ?_; intro v8 w8 hown8 hb8 hk8 hv8 hs8; have HL8 := Lib.hid (ListsR.snoc HPS.out HE.out HVO.out HC7.out hown8 hk8 hv8 hs8); have HX8 := Lib.hid hb8; clear hown8 hb8 hk8 hv8 hs8)
            go_roundw
            case rel => exact ⟨j + 1, Ls ++ [M], by omega, by go_num, HL8, Lib.hid ⟨by rw [List.length_append, HPR.out.1]; rfl, fun i L' M' x' hL' hM' hx' => by
              by_cases hi : i < Ls.length
              · rw [List.getElem?_append_left hi] at hM'
                exact HPR.out.2 i L' M' x' hL' hM' hx'
              · rw [List.getElem?_append_right (by omega)] at hM'
                have h0 : i - Ls.length = 0 := by have := (List.getElem?_eq_some_iff.1 hM').1; simpa using this
                rw [h0] at hM'
                simp at hM'
                subst hM'
                have hij : i = j := by have := HPR.out.1; omega
                subst hij
                cases hL'.symm.trans HLG.out
                cases hx'.symm.trans HX.out
                exact HQ.out⟩, Lib.hid (HB7.out.trans HX8.out)⟩
            case measure => simp [intOf]; omega
        · obtain rfl : ng = j := by omega
          have hlen : Ls.length = G.length := by rw [HPR.out.1, HNG.out, HGL.out]
          have HR : Hid (R = allJ ordK Ls.length Ls) := Lib.hid (HRE.out.trans (rf_groups (kdsP_asc HKP.out) HGR.out.1 HFL.out hlen HPR.out.2))
          have hsum : lenS Ls ≤ 68719476736 := by
            have h1 : lenS Ls ≤ 5000 * lenS G := lenS_le (by omega) fun i L M hL hM => by
              obtain ⟨hne, _⟩ := HGR.out.1 L (List.mem_of_getElem? hL)
              obtain ⟨x, hx⟩ : ∃ x, L[0]? = some x := ⟨_, List.getElem?_eq_getElem (List.length_pos_iff.2 hne)⟩
              have h2 := HPR.out.2 i L M x hL hM hx
              have hxl : x ∈ l := by rw [← HFL.out]; exact List.mem_flatten.2 ⟨L, List.mem_of_getElem? hL, List.mem_of_getElem? hx⟩
              obtain ⟨ix, hix⟩ := List.getElem?_of_mem hxl
              have h3 := vars_few (tv_ok HSP.out (HKP.out ix x hix).1.1).1
              rw [(po_some (D := demK) h2).2, show demK.poL L (varsOf (tv s x.v)) = poLK L (varsOf (tv s x.v)) from rfl, poLK_len]
              exact Nat.mul_le_mul_right _ h3
            have h2 : lenS G = l.length := by rw [lenS_flatten, HFL.out]
            omega
          have HCJ := Lib.hid (kdAllJoined_any w4.heap.size Ls.length Ls _ wr (Nat.le_refl _) HLS.out.vals HLS.out.cap hsum HB.out.size (by rw [HPR.out.1]; omega))
          rw [← HR.out] at HCJ
          clear hlen hsum
          go_wp2_with fail
          refine HCJ.out.mono ?_
          rintro e w9 ⟨v9, rfl, hv9, hc9, hb⟩
          have HB9 := Lib.hid (HWR.out.trans (hb.mono HWR.out.size))
          have HV9 := Lib.hid (hv9.sub (S' := fun k => w.heap.size ≤ k ∧ k < w9.heap.size) fun k hk => ⟨Nat.le_trans hwz4 hk.1, hk.2⟩)
          have HC9 := Lib.hid hc9
          clear hv9 hc9 hb HCJ
          go_wp2
          go_ret2
          exact ⟨_, rfl, HV9.out, HC9.out, HB9.out⟩

/-! ### RefreshKinds -/
theorem rfR_fold {s : List Bd} (hs : SubstP s) : ∀ (l acc : List Kd), AscO ordK acc → (∀ x ∈ l, KdOne x) →
    demK.fold s l acc = if (rfR s l acc).2 = true then some (rfR s l acc).1 else none
  | [], acc, _, _ => by rw [rfR_nil]; rfl
  | x :: l, acc, ha, hl => by
    obtain ⟨hv, hk⟩ := hl x (List.mem_cons_self ..)
    have hw : walkT s (varTm x.v) = tv s x.v := by
      unfold tv
      rw [putT_var rfl, walkT]
      exact if_pos rfl
    have hpo : (demK.po [x] (tv s x.v)).bind (jn ordK acc) = if (akR acc (tv s x.v) x.k).2 = true then some (akR acc (tv s x.v) x.k).1 else none := akR_po (v := x.v) ha (tv_ok hs hv).1 hk
    rw [DemT.fold, show demK.po [x] (tv s (demK.v x)) = demK.po [x] (tv s x.v) from rfl, show demK.O = ordK from rfl, hpo, rfR, hw]
    by_cases hr : (akR acc (tv s x.v) x.k).2 = true
    · rw [if_pos hr, if_pos hr]
      have hasc : AscO ordK (akR acc (tv s x.v) x.k).1 := by
        rw [if_pos hr] at hpo
        have hone : demK.po [x] (tv s x.v) = some (demK.one s x) := by
          cases e : demK.po [x] (tv s x.v) with
          | none => rw [e] at hpo; cases hpo
          | some p => rw [(po_some e).2]; rfl
        rw [hone] at hpo
        exact (jn_yes ha (one_asc demK s x) hpo).1
      exact rfR_fold hs l _ hasc fun y hy => hl y (List.mem_cons_of_mem _ hy)
    · rw [if_neg hr, if_neg hr]
      rfl
theorem rf_is (s : List Bd) (l : List Kd) : rfVK s l = if rfB s l = true then some (rfL s l) else none := by
  by_cases h : substB s = true ∧ kdsB l = true
  · have hs := substB_true.1 h.1
    have hl := kdsB_true.1 h.2
    rw [rfVK_yes h, ← fold_rf, rfR_fold hs l [] List.Pairwise.nil fun x hx => by
      obtain ⟨i, hi⟩ := List.getElem?_of_mem hx
      exact (hl i x hi).1, (rf_yes ⟨hs, hl⟩).1, (rf_yes ⟨hs, hl⟩).2]
  · have hn : ¬ (SubstP s ∧ KdsP l) := fun hh => h ⟨substB_true.2 hh.1, kdsB_true.2 hh.2⟩
    rw [rfVK_no h, (rf_no hn).2, if_neg Bool.false_ne_true]
theorem rf_off {s : List Bd} {l : List Kd} (h : rfB s l = false) : rfL s l = [] := by
  by_cases hh : SubstP s ∧ KdsP l
  · rw [(rf_yes hh).1]
    rw [(rf_yes hh).2] at h
    have off : ∀ (l acc : List Kd), (rfR s l acc).2 = false → (rfR s l acc).1 = [] := by
      intro l
      induction l with
      | nil => intro acc h; rw [rfR_nil] at h; cases h
      | cons x l ih =>
        intro acc h
        rw [rfR] at h ⊢
        split
        · rename_i hc
          rw [if_pos hc] at h
          exact ih _ h
        · rfl
    exact off _ _ h
  · exact (rf_no hh).1

set_option maxRecDepth 100000 in
set_option maxHeartbeats 2000000 in
theorem implRefreshKinds_any (s : List Bd) (Vs : Value) (l : List Kd) (Vl : Value) (w : World) (hS : ListS bdE w Any Vs s) (hZs : szB s ≤ 1048576) (hF : fineB s) (hA : ListS kdE w Any Vl l) (hV : CapOk Vl l.length) (hL : l.length ≤ 1048577) :
    Calls Try.prog 16 #[Vs, Vl] w fun e w' => ∃ v, e = .returned (.tuple #[v, .bool (rfB s l)]) ∧ ListO kdE 39 w' (iv w.heap.size w'.heap.size) v (rfL s l) ∧ Below w.heap.size w w' := by
  have HC := Lib.hid (kdRefreshed_any l Vl s Vs w hA (.inr hV) hL hS hZs hF)
  rw [rf_is] at HC
  have HN : Hid (rfB s l = false → rfL s l = []) := Lib.hid rf_off
  generalize rfB s l = rb at HC HN ⊢
  generalize rfL s l = rl at HC HN ⊢
  clear hS hF hA hV
  go_enter Try.func16, Try.ntmps16
  go_wp2_with fail
  refine HC.out.mono ?_
  cases rb with
  | false =>
    rintro e w1 ⟨v, rfl, hv, hc, hb⟩
    have HV := Lib.hid hv
    have HB := Lib.hid hb
    clear hv hc hb HC
    obtain rfl := HN.out rfl
    go_wp2
    go_ret2
    exact ⟨_, rfl, HV.out, HB.out⟩
  | true =>
    rintro e w1 ⟨v, rfl, hv, hc, hb⟩
    have HV := Lib.hid hv
    have HB := Lib.hid hb
    clear hv hc hb HC
    go_wp2
    go_ret2
    exact ⟨_, rfl, HV.out, HB.out⟩
end Go.Proofs.Ytnmdnajbafpfiaa

