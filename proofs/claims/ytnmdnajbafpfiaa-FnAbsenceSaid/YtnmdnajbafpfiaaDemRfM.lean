/-
  The program's refreshed and RefreshMarks. (Written by wip/tools/gen_demrf.py.)
-/
import Derived.Test.YtnmdnajbafpfiaaDemR
import Derived.Test.YtnmdnajbafpfiaaDemGrM
import Derived.Test.YtnmdnajbafpfiaaDemAllM
import Derived.Test.YtnmdnajbafpfiaaDemAM
namespace Go.Proofs.Ytnmdnajbafpfiaa
open Go.RowKit
set_option linter.unusedVariables false
set_option linter.unusedSimpArgs false

def demM : DemT Mk where
  O := ordM
  v := Mk.v
  of := ofM
  ok := mkAllows
  lt1 n m a b h := mkLt_iff.2 (.inl h)
  lt2 n a b h hv := mkLt_iff.2 (.inr ⟨rfl, by
    rcases mkLt_iff.1 h with h | h
    · rw [hv] at h; exact absurd h (Int.lt_irrefl _)
    · exact h.2⟩)
theorem poM_is (l : List Mk) (t : Tm) : poM l t = demM.po l t := rfl
theorem infoLTM : (Try.prog.info? 86).map (fun i => (i.zero, i.size, i.bytes)) = some (some (.slice none 0 0), 1, 24) := by kernel_rfl
/-- What refreshing gives. -/
noncomputable def rfVM (s : List Bd) (l : List Mk) : Option (List Mk) := if substB s = true ∧ mksB l = true then demM.rf s l else none
theorem rfVM_yes {s : List Bd} {l : List Mk} (h : substB s = true ∧ mksB l = true) : rfVM s l = demM.rf s l := if_pos h
theorem rfVM_no {s : List Bd} {l : List Mk} (h : ¬ (substB s = true ∧ mksB l = true)) : rfVM s l = none := if_neg h
theorem lenS_leM {N : Nat} {α : Type} : ∀ {Ls : List (List α)} {G : List (List α)}, Ls.length ≤ G.length → (∀ (i : Nat) (L M : List α), G[i]? = some L → Ls[i]? = some M → M.length ≤ N * L.length) → lenS Ls ≤ N * lenS G
  | [], _, _, _ => Nat.zero_le _
  | M :: Ls, [], h, _ => by simp at h
  | M :: Ls, L :: G, h, hE => by
    have h1 := hE 0 L M rfl rfl
    have h2 := lenS_leM (N := N) (Ls := Ls) (G := G) (by simpa using h) (fun i L' M' hL hM => hE (i + 1) L' M' (by simpa using hL) (by simpa using hM))
    simp only [lenS]
    rw [Nat.mul_add]
    omega
theorem lenS_flattenM {α : Type} : ∀ G : List (List α), lenS G = G.flatten.length
  | [] => rfl
  | L :: G => by rw [lenS, lenS_flattenM G, List.flatten_cons, List.length_append]
/-- What the groups looked at so far have passed on. -/
def PassRM (s : List Bd) (G : List (List Mk)) (Ls : List (List Mk)) (j : Nat) : Prop :=
  Ls.length = j ∧ ∀ (i : Nat) (L M : List Mk) (x : Mk), G[i]? = some L → Ls[i]? = some M → L[0]? = some x → poM L (tv s x.v) = some M

set_option maxRecDepth 100000 in
set_option maxHeartbeats 16000000 in
theorem mkRefreshed_any (l : List Mk) (Vl : Value) (s : List Bd) (Vs : Value) (w : World) (hA : ListS mkE w Any Vl l) (hC : CapL Vl l.length) (hL : l.length ≤ 1048577) (hFM : fineM l) (hS : ListS bdE w Any Vs s) (hZs : szB s ≤ 1048576) (hF : fineB s) :
    Calls Try.prog 50 #[Vl, Vs] w (NewAM w.heap.size (rfVM s l) w) := by
  obtain ⟨i1, hi, hz0, hz1, hz2⟩ := info_parts infoLTM
  have HII := Lib.hid (And.intro hi (And.intro hz0 (And.intro hz1 hz2)))
  have HC := Lib.hid (implSubstOk_any s Vs w hS hZs hF)
  have HA := Lib.hid hA
  have HS := Lib.hid hS
  have HCL := Lib.hid hC
  have HFM := Lib.hid hFM
  have HFW := Lib.hid hF.wf
  have hLs : s.length ≤ 1048576 := (eachB_of hZs).1
  have HNO : Hid (¬ (substB s = true ∧ mksB l = true) → rfVM s l = none) := Lib.hid rfVM_no
  have HYES : Hid (substB s = true ∧ mksB l = true → rfVM s l = demM.rf s l) := Lib.hid rfVM_yes
  generalize rfVM s l = R at HNO HYES ⊢
  clear hi hz0 hz1 hz2 hA hC hS hF
  go_enter Try.func50, Try.ntmps50
  go_wp2_with fail
  refine HC.out.mono ?_
  rintro e w1 ⟨rfl, hb⟩
  have HW1 := Lib.hid hb
  clear hb HC
  cases hs : substB s with
  | false =>
    obtain rfl := HNO.out fun h => Bool.false_ne_true (hs.symm.trans h.1)
    clear hs
    go_wp2
    go_ret2
    exact newAM_no HW1.out
  | true =>
    have HSB := Lib.hid hs
    have HSP := Lib.hid (substB_true.1 hs)
    have HC2 := Lib.hid (mkOk_any l Vl w1 (HA.out.kept HW1.out) HFM.out hL)
    clear hs
    go_wp2_with fail
    refine HC2.out.mono ?_
    rintro e w2 ⟨rfl, hb⟩
    have HW2 := Lib.hid (HW1.out.trans (hb.mono HW1.out.size))
    clear hb HC2
    cases hlb : mksB l with
    | false =>
      obtain rfl := HNO.out fun h => Bool.false_ne_true (hlb.symm.trans h.2)
      clear hlb
      go_wp2
      go_ret2
      exact newAM_no HW2.out
    | true =>
      have HRE := Lib.hid (HYES.out ⟨HSB.out, hlb⟩)
      have HKP := Lib.hid (mksB_true.1 hlb)
      have HC3 := Lib.hid (mapOf_any s Vs w2 (HS.out.kept HW2.out) hLs HFW.out)
      clear hlb HNO HYES
      go_wp2_with fail
      refine HC3.out.mono ?_
      rintro e w3 ⟨mb, rfl, hmb, hM, hb⟩
      have HW3 := Lib.hid (HW2.out.trans (hb.mono HW2.out.size))
      have HM := Lib.hid (hM.same fun v => lastO_subst HSP.out v)
      have HC4 := Lib.hid (mkByVariable_any l Vl w3 (HA.out.kept HW3.out) HCL.out hL)
      clear hb HC3 hmb hM
      go_wp2_with fail
      refine HC4.out.mono ?_
      rintro e w4 ⟨u, gs, G, rfl, hrow, hgl, hgs, hG, hb⟩
      have HW4 := Lib.hid (HW3.out.trans (hb.mono HW3.out.size))
      have HM4 := Lib.hid (HM.out.kept hb)
      have HGV := Lib.hid hrow.vals
      have HGL := Lib.hid hgl
      have HGS := Lib.hid (fun j p L h1 h2 => (hgs j p L h1 h2).kept hb)
      have HGR := Lib.hid hG
      have hwz4 : w.heap.size ≤ w4.heap.size := HW4.out.size
      have hux : ∃ ua uc, u = .slice ua gs.length uc := by obtain ⟨a', c', h, _⟩ := HGV.out; exact ⟨a', c', h⟩
      obtain ⟨ua, uc, rfl⟩ := hux
      have hfl : G.flatten = l := by have h := hG.2; rwa [List.take_length] at h
      have HFL := Lib.hid hfl
      have hgn : gs.length ≤ 1048577 := by
        rw [hgl]
        have h1 : G.length ≤ lenS G := by
          have h2 : ∀ G' : List (List Mk), (∀ L ∈ G', L ≠ []) → G'.length ≤ lenS G' := by
            intro G'
            induction G' with
            | nil => intro _; exact Nat.zero_le _
            | cons L G' ih =>
              intro h
              have h3 := ih fun L' h' => h L' (List.mem_cons_of_mem _ h')
              have h4 := List.length_pos_iff.2 (h L (List.mem_cons_self ..))
              simp only [lenS, List.length_cons]
              omega
          exact h2 G fun L h => (hG.1 L h).1
        rw [lenS_flattenM, hfl] at h1
        omega
      obtain ⟨ng, hng⟩ : ∃ n : Nat, n = gs.length := ⟨_, rfl⟩
      rw [← hng] at HGV hgn ⊢
      have HNG := Lib.hid hng
      clear hrow hgl hgs hG hb HC4 hfl hng HM
      go_wp2
      go_loopw [7, 25] (fun v7 jv wr => ∃ (j : Nat) (Ls : List (List Mk)), j ≤ ng ∧ jv = .int .i64 j ∧ Hid (ListsR mkE 49 86 wr w4.heap.size v7 Ls) ∧ Hid (PassRM s G Ls j) ∧ Hid (Below w4.heap.size w4 wr)) (fun _ jv _ => ng - (intOf jv).toNat)
      case atStart => exact ⟨0, [], Nat.zero_le _, rfl, Lib.hid (listsR_nil _ _ _ _ _), Lib.hid ⟨rfl, fun i L M x _ h => by simp at h⟩, Lib.hid (Below.refl _ _)⟩
      case round =>
        obtain ⟨j, Ls, hj, rfl, HLS, HPR, HB⟩ := hrel
        have HWR : Hid (Below w.heap.size w wr) := Lib.hid (belowOn HW4.out (Nat.le_refl _) HB.out)
        by_cases hlt : j < ng
        · have hltI : (j : Int) < (ng : Int) := by omega
          have hj0 : (0 : Int) ≤ (j : Int) := by omega
          obtain ⟨p, hp⟩ : ∃ p, gs[j]? = some p := ⟨_, List.getElem?_eq_getElem (by rw [← HNG.out]; exact hlt)⟩
          obtain ⟨L, hLG⟩ : ∃ L, G[j]? = some L := ⟨_, List.getElem?_eq_getElem (by rw [← HGL.out, ← HNG.out]; exact hlt)⟩
          have hLR := HGS.out j p L hp hLG
          obtain ⟨hne, _, _⟩ := HGR.out.1 L (List.mem_of_getElem? hLG)
          obtain ⟨x, hx⟩ : ∃ x, L[0]? = some x := ⟨_, List.getElem?_eq_getElem (List.length_pos_iff.2 hne)⟩
          have hxl : x ∈ l := by rw [← HFL.out]; exact List.mem_flatten.2 ⟨L, List.mem_of_getElem? hLG, List.mem_of_getElem? hx⟩
          obtain ⟨ix, hix⟩ := List.getElem?_of_mem hxl
          have hxr : 0 ≤ x.v ∧ x.v ≤ 100000 := (HKP.out ix x hix).1.1
          have hLl : L.length ≤ l.length := by rw [← HFL.out]; exact (List.sublist_flatten_of_mem (List.mem_of_getElem? hLG)).length_le
          obtain ⟨a', c', hv, hr⟩ := HGV.out
          obtain ⟨gg, go, rfl, hgg, hgc⟩ := hr.resolve_left (fun e => by rw [e] at hp; simp at hp)
          have hcg := (HB.out.cell (p := ⟨gg, go + j, none⟩) hgg).trans (hgc j p hp)
          obtain ⟨pa, pc, rfl⟩ := hLR.slice
          obtain ⟨g, off, rfl, hg, hq, hc⟩ := hLR.mk hx
          obtain ⟨d0, d1⟩ := hc wr HB.out
          rw [Nat.zero_mul, Nat.add_zero] at d0 d1
          obtain ⟨nL, hnL⟩ : ∃ n : Nat, n = L.length := ⟨_, rfl⟩
          rw [← hnL] at hcg hLR hLl
          have hnp : 0 < nL := by rw [hnL]; exact List.length_pos_iff.2 hne
          have hnpI : (0 : Int) < (nL : Int) := by omega
          have HLG := Lib.hid hLG
          have HX := Lib.hid hx
          have HLR := Lib.hid (hLR.kept HB.out)
          have HXR := Lib.hid hxr
          have HNL := Lib.hid hnL
          have HMR := Lib.hid (HM4.out.kept HB.out)
          have HTV := Lib.hid (tv_ok HSP.out hxr)
          obtain ⟨xv, xs⟩ := x
          have hLx : nL ≤ 1048577 := by omega
          have HCV := Lib.hid (mkVariable_any ⟨xv, xs⟩ wr)
          cases hv
          clear hp hLG hLR hx hxl hix hxr hr hgc hc hq hne hnL
          go_wp2_with fail
          refine HCV.out.mono ?_
          rintro e w5 ⟨rfl, hb⟩
          have HB5 := Lib.hid (belowOn HB.out (Nat.le_refl _) hb)
          have HLS5 := Lib.hid (HLS.out.kept hb)
          have HLR5 := Lib.hid (HLR.out.kept hb)
          have HCA := Lib.hid (applied_any 2 mb s (varTm xv) (.slice none 0 0) w5 (by rw [varTm, Tm.nodes, nodesL]; decide) (HMR.out.kept hb) HSP.out.fits (.nil _ _) (by rw [varTm, Tm.sz, szL]; exact Nat.zero_le _) (.var xv HXR.out.1 HXR.out.2))
          rw [show putT s (varTm xv) = tv s xv from rfl] at HCA
          clear hb HCV d0 d1 HB HLS HLR HMR
          go_wp2_with fail
          refine HCA.out.mono ?_
          rintro e w6 ⟨u6, rfl, hn⟩
          have HB6 := Lib.hid (belowOn HB5.out (Nat.le_refl _) hn.2)
          have HLS6 := Lib.hid (HLS5.out.kept hn.2)
          have HLR6 := Lib.hid (HLR5.out.kept hn.2)
          have HU6 := Lib.hid hn.1.argsAt
          have HCP := Lib.hid (mkPassed_any L (.slice (some ⟨g, off, none⟩) nL pc) (tv s xv) u6 w6 HLR6.out (by rw [← HNL.out]; exact hLx) HU6.out HTV.out.2 HTV.out.1)
          have HPO : Hid (∀ M, poM L (tv s xv) = some M → poM L (tv s xv) = some M) := Lib.hid fun _ h => h
          obtain ⟨q, hq⟩ : ∃ q, poM L (tv s xv) = q := ⟨_, rfl⟩
          rw [hq] at HCP
          have HQ := Lib.hid hq
          clear hn HCA hq HPO HB5 HLS5 HLR5
          go_wp2_with fail
          refine HCP.out.mono ?_
          rintro e w7 ⟨v7, rfl, hv7, hc7, hb⟩
          have HB7 := Lib.hid (belowOn HB6.out (Nat.le_refl _) hb)
          have HLS7 := Lib.hid (HLS6.out.kept hb)
          have HV7 := Lib.hid hv7
          have HC7 := Lib.hid hc7
          have HZ67 := Lib.hid HB6.out.size
          obtain ⟨v7a, v7c, rfl⟩ := hv7.slice
          clear hv7 hc7 hb HCP HLR6 HU6 HB6
          cases q with
          | none =>
            obtain rfl : R = none := HRE.out.trans (rf_fail HGR.out.1 HFL.out (List.mem_of_getElem? HLG.out) HX.out HQ.out)
            go_wp2
            go_ret2
            exact newAM_no (belowOn HW4.out (Nat.le_refl _) HB7.out)
          | some M =>
            obtain ⟨ps, hps, hrow, hE⟩ := HLS7.out
            have HE := Lib.hid hE
            have HPS := Lib.hid hps
            have HROW := Lib.hid hrow
            have hpl : ps.length ≤ 1099511627776 := by rw [hps]; have := HPR.out.1; omega
            have hwz7 : w4.heap.size ≤ w7.heap.size := HB7.out.size
            have HVO := Lib.hid (show ListO mkE 49 w7 (fun k => w4.heap.size ≤ k ∧ k < w7.heap.size ∧ _ ≠ some k) (.slice v7a M.length v7c) M from HV7.out.sub fun k hk => ⟨Nat.le_trans HZ67.out hk.1, hk.2, fun e => by
              obtain ⟨ps6, _, hrow6, _⟩ := HLS6.out
              have h1 := hrow6.lt k e
              have h2 := hk.1
              omega⟩)
            clear hE hps hrow
            go_wp2_with (at_builtin; refine append_oneG rfl _ _ 127 rfl w4.heap.size 86 i1 _ 24 Try.underlying127 HII.out.1 HII.out.2.1 HII.out.2.2.1 HII.out.2.2.2 rfl (by omega) _ ps rfl HROW.out _ rfl rfl hpl hwz7 ?_; intro v8 w8 hown8 hb8 hk8 hv8 hs8; have HL8 := Lib.hid (ListsR.snoc HPS.out HE.out HVO.out HC7.out hown8 hk8 hv8 hs8); have HX8 := Lib.hid hb8; clear hown8 hb8 hk8 hv8 hs8)
            go_roundw
            case rel => exact ⟨j + 1, Ls ++ [M], by omega, by go_num, HL8, Lib.hid ⟨by rw [List.length_append, HPR.out.1]; rfl, fun i L' M' x' hL' hM' hx' => by
              by_cases hi : i < Ls.length
              · rw [List.getElem?_append_left hi] at hM'
                exact HPR.out.2 i L' M' x' hL' hM' hx'
              · rw [List.getElem?_append_right (by omega)] at hM'
                have h0 : i - Ls.length = 0 := by have := (List.getElem?_eq_some_iff.1 hM').1; simpa using this
                rw [h0] at hM'
                simp at hM'
                subst hM'
                have hij : i = j := by have := HPR.out.1; omega
                subst hij
                cases hL'.symm.trans HLG.out
                cases hx'.symm.trans HX.out
                exact HQ.out⟩, Lib.hid (HB7.out.trans HX8.out)⟩
            case measure => simp [intOf]; omega
        · obtain rfl : ng = j := by omega
          have hlen : Ls.length = G.length := by rw [HPR.out.1, HNG.out, HGL.out]
          have HR : Hid (R = allJ ordM Ls.length Ls) := Lib.hid (HRE.out.trans (rf_groups (mksP_asc HKP.out) HGR.out.1 HFL.out hlen HPR.out.2))
          have hsum : lenS Ls ≤ 68719476736 := by
            have h1 : lenS Ls ≤ 5000 * lenS G := lenS_leM (by omega) fun i L M hL hM => by
              obtain ⟨hne, _⟩ := HGR.out.1 L (List.mem_of_getElem? hL)
              obtain ⟨x, hx⟩ : ∃ x, L[0]? = some x := ⟨_, List.getElem?_eq_getElem (List.length_pos_iff.2 hne)⟩
              have h2 := HPR.out.2 i L M x hL hM hx
              have hxl : x ∈ l := by rw [← HFL.out]; exact List.mem_flatten.2 ⟨L, List.mem_of_getElem? hL, List.mem_of_getElem? hx⟩
              obtain ⟨ix, hix⟩ := List.getElem?_of_mem hxl
              have h3 := vars_fewM (tv_ok HSP.out (HKP.out ix x hix).1.1).1
              rw [(po_some (D := demM) h2).2, show demM.poL L (varsOf (tv s x.v)) = poLM L (varsOf (tv s x.v)) from rfl, poLM_len]
              exact Nat.mul_le_mul_right _ h3
            have h2 : lenS G = l.length := by rw [lenS_flattenM, HFL.out]
            omega
          have HCJ := Lib.hid (mkAllJoined_any w4.heap.size Ls.length Ls _ wr (Nat.le_refl _) HLS.out.vals HLS.out.cap hsum HB.out.size (by rw [HPR.out.1]; omega))
          rw [← HR.out] at HCJ
          clear hlen hsum
          go_wp2_with fail
          refine HCJ.out.mono ?_
          rintro e w9 ⟨v9, rfl, hv9, hc9, hb⟩
          have HB9 := Lib.hid (HWR.out.trans (hb.mono HWR.out.size))
          have HV9 := Lib.hid (hv9.sub (S' := fun k => w.heap.size ≤ k ∧ k < w9.heap.size) fun k hk => ⟨Nat.le_trans hwz4 hk.1, hk.2⟩)
          have HC9 := Lib.hid hc9
          clear hv9 hc9 hb HCJ
          go_wp2
          go_ret2
          exact ⟨_, rfl, HV9.out, HC9.out, HB9.out⟩

/-! ### RefreshMarks -/
noncomputable def rmL (s : List Bd) (l : List Mk) : List Mk := (rfVM s l).getD []
noncomputable def rmB (s : List Bd) (l : List Mk) : Bool := (rfVM s l).isSome
set_option maxRecDepth 100000 in
set_option maxHeartbeats 2000000 in
theorem implRefreshMarks_any (s : List Bd) (Vs : Value) (l : List Mk) (Vl : Value) (w : World) (hS : ListS bdE w Any Vs s) (hZs : szB s ≤ 1048576) (hF : fineB s) (hA : ListS mkE w Any Vl l) (hV : CapOk Vl l.length) (hFM : fineM l) (hL : l.length ≤ 1048577) :
    Calls Try.prog 21 #[Vs, Vl] w fun e w' => ∃ v, e = .returned (.tuple #[v, .bool (rmB s l)]) ∧ ListO mkE 49 w' (iv w.heap.size w'.heap.size) v (rmL s l) ∧ Below w.heap.size w w' := by
  have HC := Lib.hid (mkRefreshed_any l Vl s Vs w hA (.inr hV) hL hFM hS hZs hF)
  unfold rmL rmB
  generalize rfVM s l = R at HC ⊢
  clear hS hF hA hV hFM
  go_enter Try.func21, Try.ntmps21
  go_wp2_with fail
  refine HC.out.mono ?_
  rintro e w1 ⟨v, rfl, hv, hc, hb⟩
  have HV := Lib.hid hv
  have HB := Lib.hid hb
  clear hv hc hb HC
  go_wp2
  go_ret2
  exact ⟨_, rfl, HV.out, HB.out⟩
end Go.Proofs.Ytnmdnajbafpfiaa

