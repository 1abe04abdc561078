/-
  What a list of Marks passes on to the variables of a term, plain; the program's passedOn. (Written by wip/tools/gen_demp.py.)
-/
import Derived.Test.YtnmdnajbafpfiaaDemJM
import Derived.Test.YtnmdnajbafpfiaaVars
namespace Go.Proofs.Ytnmdnajbafpfiaa
open Go.RowKit
set_option linter.unusedVariables false
set_option linter.unusedSimpArgs false

def ofM (v : Int) (d : Mk) : Mk := ⟨v, d.tag⟩
def poLM (l : List Mk) (vs : List Int) : List Mk := vs.flatMap fun v => l.map (ofM v)
noncomputable def poM (l : List Mk) (t : Tm) : Option (List Mk) := if l.all (fun d => mkAllows d t) = true then some (poLM l (varsOf t)) else none
theorem poLM_len (l : List Mk) : ∀ vs : List Int, (poLM l vs).length = vs.length * l.length
  | [] => by simp [poLM]
  | v :: vs => by
    have h := poLM_len l vs
    unfold poLM at h ⊢
    rw [List.flatMap_cons, List.length_append, List.length_map, h, List.length_cons, Nat.succ_mul, Nat.add_comm]
theorem poLM_take (l : List Mk) {vs : List Int} {i : Nat} {v : Int} (h : vs[i]? = some v) : poLM l (vs.take (i + 1)) = poLM l (vs.take i) ++ l.map (ofM v) := by
  unfold poLM
  rw [takeE h, List.flatMap_append]
  simp
theorem poM_yes {l : List Mk} {t : Tm} (h : ∀ (i : Nat) (x : Mk), i < l.length → l[i]? = some x → mkAllows x t = true) : poM l t = some (poLM l (varsOf t)) :=
  if_pos (List.all_eq_true.2 fun x hx => by
    obtain ⟨i, hi⟩ := List.getElem?_of_mem hx
    exact h i x (List.getElem?_eq_some_iff.1 hi).1 hi)
theorem poM_no {l : List Mk} {t : Tm} {i : Nat} {x : Mk} (hx : l[i]? = some x) (h : mkAllows x t = false) : poM l t = none :=
  if_neg fun ha => Bool.false_ne_true (h.symm.trans (List.all_eq_true.1 ha x (List.mem_of_getElem? hx)))
theorem vars_fewM {t : Tm} (h : Ok t) : (varsOf t).length ≤ 5000 := by
  rw [varsOf, if_pos h, show Lib.compact (sorted t.vl) = t.vl.foldl insAsc [] from (by rw [ins_is_compact]; rfl)]
  have h1 := insL_len t.vl []
  have h2 := vl_len t
  have h3 := h.1
  simp only [List.length_nil] at h1
  omega

set_option maxRecDepth 100000 in
set_option maxHeartbeats 16000000 in
theorem mkPassed_any (l : List Mk) (Vl : Value) (t : Tm) (Vt : Value) (w : World) (hA : ListS mkE w Any Vl l) (hL : l.length ≤ 1048577) (hT : ArgsAt w Vt t.args) (hZ : t.sz ≤ 1048576) (hO : Ok t) :
    Calls Try.prog 77 #[Vl, .agg #[.int .i64 t.kind, .int .i64 t.num, .string t.name, Vt]] w (NewDM (poM l t) w) := by
  obtain ⟨a, cap, rfl⟩ := hA.slice
  obtain ⟨ta, tc, rfl⟩ := hT.slice
  obtain ⟨i0, hi, hz0, hz1, hz2⟩ := info_parts infoMark
  have HII := Lib.hid (And.intro hi (And.intro hz0 (And.intro hz1 hz2)))
  have HA := Lib.hid hA
  have HT := Lib.hid hT
  have HZT := Lib.hid (And.intro hZ hO.2)
  have HNO : Hid (∀ (i : Nat) (x : Mk), l[i]? = some x → mkAllows x t = false → poM l t = none) := Lib.hid (fun i x hx h => poM_no hx h)
  have HYES : Hid ((∀ (i : Nat) (x : Mk), i < l.length → l[i]? = some x → mkAllows x t = true) → poM l t = some (poLM l (varsOf t))) := Lib.hid poM_yes
  generalize poM l t = R at HNO HYES ⊢
  obtain ⟨vs, hvs⟩ : ∃ vs, varsOf t = vs := ⟨_, rfl⟩
  have hvl : vs.length ≤ 5000 := by rw [← hvs]; exact vars_fewM hO
  rw [hvs] at HYES
  have HVS := Lib.hid hvs
  obtain ⟨nl, hnl⟩ : ∃ n : Nat, n = l.length := ⟨_, rfl⟩
  rw [← hnl] at hL HA HYES ⊢
  have HNL := Lib.hid hnl
  have hal : Below w.heap.size w (w.alloc (.cells #[.int .i64 t.kind, .int .i64 t.num, .string t.name, .slice ta t.args.length tc] 28)) := belowAlloc (Below.refl _ _) _
  have HBX := Lib.hid (at_box_of w #[.int .i64 t.kind, .int .i64 t.num, .string t.name, .slice ta t.args.length tc] 28 w.heap.size rfl)
  have HW := Lib.hid hal
  clear hi hz0 hz1 hz2 hA hT hZ hO hvs hnl
  go_enter Try.func77, Try.ntmps77
  go_upto_region 1 with (fail)
  generalize hw0 : w.alloc (.cells #[.int .i64 t.kind, .int .i64 t.num, .string t.name, .slice ta t.args.length tc] 28) = w0 at HBX HW hal ⊢
  clear hw0 hal
  obtain ⟨nb, hnb⟩ : ∃ n : Nat, n = w.heap.size := ⟨_, rfl⟩
  rw [← hnb] at HBX ⊢
  have HNB := Lib.hid hnb
  clear hnb
  go_wp2
  go_loopw [16] (fun iv wr => ∃ k : Nat, k ≤ nl ∧ iv = .int .i64 k ∧ Hid (∀ (i : Nat) (x : Mk), i < k → l[i]? = some x → mkAllows x t = true) ∧ Hid (Below w0.heap.size w0 wr)) (fun iv _ => nl - (intOf iv).toNat)
  case atStart => exact ⟨0, Nat.zero_le _, rfl, Lib.hid (fun i x hi => absurd hi (Nat.not_lt_zero _)), Lib.hid (Below.refl _ _)⟩
  case round =>
    obtain ⟨k, hk, rfl, HV, HB⟩ := hrel
    have HWR : Hid (Below w.heap.size w wr) := Lib.hid (belowOn HW.out (Nat.le_refl _) HB.out)
    have HBR := Lib.hid (HBX.out.read HB.out)
    by_cases hlt : k < nl
    · have hltI : (k : Int) < (nl : Int) := by omega
      have hk0 : (0 : Int) ≤ (k : Int) := by omega
      obtain ⟨x, hx⟩ : ∃ x, l[k]? = some x := ⟨_, List.getElem?_eq_getElem (by rw [← HNL.out]; exact hlt)⟩
      obtain ⟨g, off, rfl, hg, hq, hc⟩ := HA.out.mk hx
      obtain ⟨d0, d1⟩ := hc wr HWR.out
      have HX := Lib.hid hx
      obtain ⟨xv, xs⟩ := x
      obtain ⟨e0, e1, e2, e3⟩ := HBR.out.cells
      have hz9 : nb < wr.heap.size := HBR.out.le
      have hne9 : ¬ nb = wr.heap.size := by omega
      have hal2 : Below wr.heap.size wr (wr.alloc (.cells #[.int .i64 xv, .string xs] 49)) := belowAlloc (Below.refl _ _) _
      have HB1 := Lib.hid (belowOn HB.out (Nat.le_refl _) hal2)
      have HC := Lib.hid (mkAllows_any ⟨xv, xs⟩ t (.slice ta t.args.length tc) (wr.alloc (.cells #[.int .i64 xv, .string xs] 49)) ((HT.out.kept HWR.out).kept hal2) HZT.out.1 HZT.out.2)
      obtain ⟨b, hb⟩ : ∃ b, mkAllows ⟨xv, xs⟩ t = b := ⟨_, rfl⟩
      rw [hb] at HC
      have HBV := Lib.hid hb
      clear hx hq hc hal2 hb
      go_wp2_with fail
      refine HC.out.mono ?_
      rintro e w2 ⟨rfl, hb⟩
      have HB2 := Lib.hid (belowOn HB1.out (Nat.le_refl _) hb)
      clear hb HC d0 d1 e0 e1 e2 e3 hz9 hne9
      cases b with
      | false =>
        obtain rfl := HNO.out _ _ HX.out HBV.out
        go_wp2
        go_ret2
        exact newDM_no (belowOn HW.out (Nat.le_refl _) HB2.out)
      | true =>
        go_wp2
        go_roundw
        case rel => exact ⟨k + 1, by omega, by go_num, Lib.hid (fun i y hi hy => by
          by_cases e : i = k
          · subst e
            cases hy.symm.trans HX.out
            exact HBV.out
          · exact HV.out i y (by omega) hy), HB2⟩
        case measure => simp [intOf]; omega
    · obtain rfl : nl = k := by omega
      obtain rfl := HYES.out fun i x hi hx => HV.out i x hi hx
      obtain ⟨e0, e1, e2, e3⟩ := HBR.out.cells
      have hz9 := HBR.out.le
      have HC := Lib.hid (implTermVars_any t (.slice ta t.args.length tc) wr (HT.out.kept HWR.out) HZT.out.1)
      rw [HVS.out] at HC
      obtain ⟨nv, hnv⟩ : ∃ n : Nat, n = vs.length := ⟨_, rfl⟩
      have HNV := Lib.hid hnv
      rw [← hnv] at hvl
      obtain ⟨np, hnp⟩ : ∃ n : Nat, n = nv * nl := ⟨_, rfl⟩
      have hnp2 : np ≤ 5242885000 := by rw [hnp]; exact Nat.le_trans (Nat.mul_le_mul hvl hL) (by decide)
      have hm : IntKind.i64.wrap ((nv : Int) * (nl : Int)) = (np : Int) := by
        rw [hnp, ← Int.natCast_mul]
        exact IntWalk.i64_in _ (by have : nv * nl ≤ 5242885000 := by rw [← hnp]; exact hnp2
                                   omega)
      have HNP := Lib.hid hnp
      clear hnv hnp HV HNO HYES
      go_wp2_with fail
      refine HC.out.mono ?_
      rintro e w2 ⟨u, rfl, hrow, hb⟩
      have HB2 : Hid (Below w.heap.size w w2) := Lib.hid (belowOn HWR.out (Nat.le_refl _) hb)
      have HVA := Lib.hid hrow.vals
      obtain ⟨va, vc, rfl⟩ := hrow.slice
      rw [← HNV.out] at HVA ⊢
      have hwz2 : w.heap.size ≤ w2.heap.size := HB2.out.size
      clear hrow hb HC e0 e1 e2 e3 hz9 HB HWR HBR HBX
      go_wp2_with (at_make; refine wpList_make_own _ rfl _ _ 86 rfl w2.heap.size 49 i0 _ 2 Try.underlying86 HII.out.1 HII.out.2.1 HII.out.2.2.1 .i64 .i64 _ np rfl rfl rfl (by rw [HII.out.2.2.2]; omega) (by unfold maxLen; omega) (Nat.le_refl _) ?_; intro w3 hown hg; have HO3 := Lib.hid hown; have HG3 := Lib.hid hg; clear hown hg)
      have HB3 := Lib.hid (below_of_grown (B := w2.heap.size) HG3.out (Nat.le_refl _) (fun k hk => by cases hk))
      have HRW : Hid (RowX mkE 49 w3 w2.heap.size (.slice (some ⟨w2.heap.size, 0, none⟩) 0 np) []) := Lib.hid ⟨[], rfl, HO3.out, fun j p hj => by simp at hj⟩
      clear HO3 HG3
      go_loopw [9, 36] (fun v9 iv wr => ∃ (i kk gg cc : Nat), i ≤ nv ∧ iv = .int .i64 i ∧ v9 = .slice (some ⟨gg, 0, none⟩) kk cc ∧ Hid (RowX mkE 49 wr w2.heap.size (.slice (some ⟨gg, 0, none⟩) kk cc) (poLM l (vs.take i))) ∧ Hid (Below w2.heap.size w2 wr)) (fun _ iv _ => nv - (intOf iv).toNat)
      case atStart => exact ⟨0, 0, w2.heap.size, np, Nat.zero_le _, rfl, rfl, HRW, HB3⟩
      case round =>
        obtain ⟨i, kk, gg, cc, hi, rfl, rfl, HRX, HB⟩ := hrel
        clear HRW HB3
        by_cases hlt : i < nv
        · have hltI : (i : Int) < (nv : Int) := by omega
          have hi0 : (0 : Int) ≤ (i : Int) := by omega
          obtain ⟨v, hv⟩ : ∃ v, vs[i]? = some v := ⟨_, List.getElem?_eq_getElem (by rw [← HNV.out]; exact hlt)⟩
          obtain ⟨va', vc', hva, hvv⟩ := HVA.out
          have hvv2 := hvv.resolve_left (fun e => by have h1 := congrArg List.length e; rw [List.length_map, ← HNV.out] at h1; simp at h1; omega)
          clear hvv
          obtain ⟨vg, vo, rfl, hvg, hvc⟩ := hvv2
          simp only [Value.slice.injEq] at hva
          obtain ⟨rfl, hva2, rfl⟩ := hva
          have hcv := (HB.out.cell (p := ⟨vg, vo + i, none⟩) hvg).trans (hvc i (.int .i64 v) (by rw [List.getElem?_map, hv]; rfl))
          have HTK := Lib.hid (poLM_take l hv)
          have hwz := HB.out.size
          clear hvc hv hva2
          obtain ⟨wo, hwo⟩ : ∃ wo : World, wo = wr := ⟨_, rfl⟩
          rw [← hwo] at HRX HB hcv hwz ⊢
          clear hwo
          go_wp2
          go_loopw [9, 42] (fun v9 jv wr => ∃ (j kk gg cc : Nat), j ≤ nl ∧ jv = .int .i64 j ∧ v9 = .slice (some ⟨gg, 0, none⟩) kk cc ∧ Hid (RowX mkE 49 wr w2.heap.size (.slice (some ⟨gg, 0, none⟩) kk cc) (poLM l (vs.take i) ++ (l.take j).map (ofM v))) ∧ Hid (Below w2.heap.size w2 wr)) (fun _ jv _ => nl - (intOf jv).toNat)
          case atStart => exact ⟨0, kk, gg, cc, Nat.zero_le _, rfl, rfl, by rw [List.take_zero, List.map_nil, List.append_nil]; exact HRX, HB⟩
          case round =>
            obtain ⟨j, kk2, gg2, cc2, hj, rfl, rfl, HRX2, HB4⟩ := hrel
            clear HRX HB
            have HBW4 := Lib.hid (belowOn HB2.out (Nat.le_refl _) HB4.out)
            by_cases hlj : j < nl
            · have hljI : (j : Int) < (nl : Int) := by omega
              have hj0 : (0 : Int) ≤ (j : Int) := by omega
              obtain ⟨x, hx⟩ : ∃ x, l[j]? = some x := ⟨_, List.getElem?_eq_getElem (by rw [← HNL.out]; exact hlj)⟩
              obtain ⟨g, off, rfl, hg, hq, hc⟩ := HA.out.mk hx
              obtain ⟨d0, d1⟩ := hc wr HBW4.out
              have HX := Lib.hid hx
              obtain ⟨xv, xs⟩ := x
              have hal2 : Below wr.heap.size wr (wr.alloc (.cells #[.int .i64 xv, .string xs] 49)) := belowAlloc (Below.refl _ _) _
              have HB5 := Lib.hid (belowOn HB4.out (Nat.le_refl _) hal2)
              have HR5 := Lib.hid (HRX2.out.kept hal2)
              have HC := Lib.hid (mkOf_any ⟨xv, xs⟩ v (wr.alloc (.cells #[.int .i64 xv, .string xs] 49)))
              clear hx hq hc hal2
              go_wp2_with fail
              refine HC.out.mono ?_
              rintro e w6 ⟨rfl, hb⟩
              have HB6 := Lib.hid (belowOn HB5.out (Nat.le_refl _) hb)
              have hal6 : Below w6.heap.size w6 (w6.alloc (.cells #[.int .i64 v, .string xs] 49)) := belowAlloc (Below.refl _ _) _
              have HR6 := Lib.hid ((HR5.out.kept hb).kept hal6)
              have HB7 := Lib.hid (belowOn HB6.out (Nat.le_refl _) hal6)
              have HLN : Hid ((poLM l (vs.take i) ++ (l.take j).map (ofM v)).length ≤ 5242885000) := Lib.hid (by
                rw [List.length_append, List.length_map, poLM_len, List.length_take, List.length_take, ← HNL.out, ← HNV.out, Nat.min_eq_left (by omega), Nat.min_eq_left (by omega)]
                have h1 : (i + 1) * nl ≤ nv * nl := Nat.mul_le_mul_right _ (by omega)
                rw [Nat.succ_mul] at h1
                have := HNP.out
                omega)
              have HTJ : Hid ((l.take (j + 1)).map (ofM v) = (l.take j).map (ofM v) ++ [⟨v, xs⟩]) := Lib.hid (by rw [takeE HX.out, List.map_append]; rfl)
              have HZ6 : Hid (w2.heap.size ≤ w6.heap.size) := Lib.hid HB6.out.size
              clear hb hal6 HC d0 d1
              go_wp2_with (at_builtin; refine append_rowY rfl _ _ 86 rfl mkE mkFlat w2.heap.size 49 i0 _ 24 Try.underlying86 HII.out.1 HII.out.2.1 HII.out.2.2.1 HII.out.2.2.2 rfl (by omega) (.slice (some ⟨gg2, 0, none⟩) kk2 cc2) _ rfl HR6.out (some ⟨w6.heap.size, 0, none⟩) 1 1 rfl [((⟨v, xs⟩ : Mk), Value.slice none 0 0)] rfl (fun h => by cases h) (fun ad h j u hj => by cases h; rw [cellsE_one] at hj; exact World.news_of_block (heap_alloc_new w6 _) j u hj) (by have := HLN.out; omega) (by have := HZ6.out; simp; omega) ?_; intro v8 w8 hown8 hb8; have HO8 := Lib.hid hown8; have HX8 := Lib.hid hb8; clear hown8 hb8)
              obtain ⟨gg3, kk3, cc3, hv8⟩ := rowX_some HO8.out (by rw [List.length_append]; exact Nat.succ_pos _)
              subst hv8
              go_wp2
              go_roundw
              case rel => exact ⟨j + 1, kk3, gg3, cc3, by omega, by go_num, rfl, Lib.hid (by rw [HTJ.out, ← List.append_assoc]; exact HO8.out), Lib.hid (HB7.out.trans HX8.out)⟩
              case measure => simp [intOf]; omega
            · obtain rfl : nl = j := by omega
              have HTN : Hid (l.take nl = l) := Lib.hid (List.take_of_length_le (by rw [← HNL.out]; omega))
              go_wp2
              go_roundw
              case rel => exact ⟨i + 1, kk2, gg2, cc2, by omega, by go_num, rfl, Lib.hid (by rw [HTK.out]; have h := HRX2.out; rw [HTN.out] at h; exact h), HB4⟩
              case measure => simp [intOf]; omega
        · obtain rfl : nv = i := by omega
          have HTN : Hid (vs.take nv = vs) := Lib.hid (List.take_of_length_le (by rw [← HNV.out]; omega))
          have h := HRX.out
          rw [HTN.out] at h
          have HRF := Lib.hid h
          clear h
          go_wp2
          go_ret2
          exact newDM_yes (rowX_base mkFlat HRF.out hwz2) (belowOn HB2.out (Nat.le_refl _) HB.out)
end Go.Proofs.Ytnmdnajbafpfiaa

