/-
  The program's added and AddAbsence. (Written by wip/tools/gen_dema.py.)
-/
import Derived.Test.YtnmdnajbafpfiaaDemPoM
import Derived.Test.YtnmdnajbafpfiaaImplApp
namespace Go.Proofs.Ytnmdnajbafpfiaa
open Go.RowKit
set_option linter.unusedVariables false
set_option linter.unusedSimpArgs false

theorem NewDM.wide {r : Option (List Mk)} {w W w' : World} {e : Ending} (h : NewDM r W e w') (hb : Below w.heap.size w W) : NewDM r w e w' := by
  obtain ⟨v, he, hv, hc, hw⟩ := h
  exact ⟨v, he, hv.sub fun k hk => ⟨Nat.le_trans hb.size hk.1, hk.2⟩, hc, hb.trans (hw.mono hb.size)⟩
/-- What adding a demand gives. -/
noncomputable def adVM (s : List Bd) (l : List Mk) (t : Tm) (d : Mk) : Option (List Mk) :=
  if apB s t = true ∧ mksB l = true ∧ mkFitB d = true then (poM [d] (apT s t)).bind (jn ordM l) else none
theorem adVM_no {s : List Bd} {l : List Mk} {t : Tm} {d : Mk} (h : ¬ (apB s t = true ∧ mksB l = true ∧ mkFitB d = true)) : adVM s l t d = none := if_neg h
theorem adVM_yes {s : List Bd} {l : List Mk} {t : Tm} {d : Mk} (h : apB s t = true ∧ mksB l = true ∧ mkFitB d = true) : adVM s l t d = (poM [d] (apT s t)).bind (jn ordM l) := if_pos h
theorem ap_isM {s : List Bd} {t : Tm} (h : apB s t = true) : SubstP s ∧ Ok t ∧ (putT s t).nodes ≤ 5000 := Classical.byContradiction fun hn => by
  rw [(ap_no hn).2] at h
  cases h
theorem ap_okTM {s : List Bd} {t : Tm} (h : apB s t = true) : Ok (apT s t) ∧ (apT s t).sz ≤ 1048576 := by
  obtain ⟨h1, h2, h3⟩ := ap_isM h
  have hf := fitT_sz (s := s) (t := t) h1.fits h2.2
  rw [← (ap_fit h1 h2).1] at hf
  exact ⟨⟨hf.2.2, hf.2.1⟩, by omega⟩
theorem poM_one {d : Mk} {t : Tm} {p : List Mk} (ht : Ok t) (h : poM [d] t = some p) : p.length ≤ 5000 := by
  unfold poM at h
  split at h
  · cases h
    rw [poLM_len, List.length_singleton, Nat.mul_one]
    exact vars_fewM ht
  · cases h
theorem listS_oneM (w : World) (d : Mk) : ListS mkE (w.alloc (.cells #[.int .i64 d.v, .string d.tag] 49)) Any (.slice (some ⟨w.heap.size, 0, none⟩) 1 1) [d] := by
  refine .row w.heap.size 0 1 1 [(d, .slice none 0 0)] [d] rfl rfl trivial (by simp) (fun i v hi => ?_) (fun _ _ _ => trivial)
  have h := World.news_of_block (heap_alloc_new w (.cells #[.int .i64 d.v, .string d.tag] 49)) i v (by rw [cellsE_one] at hi; exact hi)
  rw [addr_add] at h
  exact h

set_option maxRecDepth 100000 in
set_option maxHeartbeats 16000000 in
theorem mkAdded_any (l : List Mk) (Vl : Value) (s : List Bd) (Vs : Value) (t : Tm) (Vt : Value) (d : Mk) (w : World) (hA : ListS mkE w Any Vl l) (hC : CapL Vl l.length) (hL : l.length ≤ 1048577) (hFM : fineM l) (hS : ListS bdE w Any Vs s) (hZs : szB s ≤ 1048576) (hF : fineB s) (hT : ArgsAt w Vt t.args) (hZ : t.sz ≤ 1048576) (hDS : d.tag.size ≤ maxLen) :
    Calls Try.prog 46 #[Vl, Vs, .agg #[.int .i64 t.kind, .int .i64 t.num, .string t.name, Vt], .agg #[.int .i64 d.v, .string d.tag]] w (NewDM (adVM s l t d) w) := by
  obtain ⟨ta, tc, rfl⟩ := hT.slice
  have hal0 : Below w.heap.size w ((w.alloc (.cells #[.int .i64 t.kind, .int .i64 t.num, .string t.name, .slice ta t.args.length tc] 28)).alloc (.cells #[.int .i64 d.v, .string d.tag] 49)) := belowAlloc (belowAlloc (Below.refl _ _) _) _
  have HDB := Lib.hid (at_box_of (w.alloc (.cells #[.int .i64 t.kind, .int .i64 t.num, .string t.name, .slice ta t.args.length tc] 28)) #[.int .i64 d.v, .string d.tag] 49 (w.heap.size + 1) (by simp))
  have HC := Lib.hid (implApplySubst_any s Vs t (.slice ta t.args.length tc) ((w.alloc (.cells #[.int .i64 t.kind, .int .i64 t.num, .string t.name, .slice ta t.args.length tc] 28)).alloc (.cells #[.int .i64 d.v, .string d.tag] 49)) (hS.kept hal0) hZs hF (hT.kept hal0) hZ)
  have HW := Lib.hid hal0
  have HA := Lib.hid hA
  have HCL := Lib.hid hC
  have HFM := Lib.hid hFM
  have HNO : Hid (¬ (apB s t = true ∧ mksB l = true ∧ mkFitB d = true) → adVM s l t d = none) := Lib.hid adVM_no
  have HYES : Hid (apB s t = true ∧ mksB l = true ∧ mkFitB d = true → adVM s l t d = (poM [d] (apT s t)).bind (jn ordM l)) := Lib.hid adVM_yes
  have HOK : Hid (apB s t = true → Ok (apT s t) ∧ (apT s t).sz ≤ 1048576) := Lib.hid ap_okTM
  generalize adVM s l t d = R at HNO HYES ⊢
  generalize apT s t = x at HYES HOK HC
  generalize apB s t = xb at HNO HYES HOK HC
  clear hA hC hS hF hT hal0
  go_enter Try.func46, Try.ntmps46
  go_wp2_with fail
  refine HC.out.mono ?_
  rintro e w1 ⟨u, rfl, hn⟩
  have HW1 := Lib.hid (HW.out.trans (hn.2.mono HW.out.size))
  have HD1 := Lib.hid (HDB.out.read hn.2)
  have HU := Lib.hid hn.1.argsAt
  obtain ⟨ua, uc, rfl⟩ := hn.1.argsAt.slice
  clear hn HC HDB HW
  have hal1 : Below w1.heap.size w1 (w1.alloc (.cells #[.int .i64 x.kind, .int .i64 x.num, .string x.name, .slice ua x.args.length uc] 28)) := belowAlloc (Below.refl _ _) _
  have HXB := Lib.hid (at_box_of w1 #[.int .i64 x.kind, .int .i64 x.num, .string x.name, .slice ua x.args.length uc] 28 w1.heap.size rfl)
  have HW2 := Lib.hid (HW1.out.trans (hal1.mono HW1.out.size))
  have HD2 := Lib.hid (HD1.out.read hal1)
  have HU2 := Lib.hid (HU.out.kept hal1)
  clear HD1 HU
  cases xb with
  | false =>
    obtain rfl := HNO.out fun h => Bool.false_ne_true h.1
    go_wp2
    go_ret2
    exact newDM_no HW2.out
  | true =>
    obtain ⟨hxo, hxz⟩ := HOK.out rfl
    have HXO := Lib.hid hxo
    have HC2 := Lib.hid (mkOk_any l Vl (w1.alloc (.cells #[.int .i64 x.kind, .int .i64 x.num, .string x.name, .slice ua x.args.length uc] 28)) (HA.out.kept HW2.out) HFM.out hL)
    clear hal1 hxo HOK
    go_wp2_with fail
    refine HC2.out.mono ?_
    rintro e w3 ⟨rfl, hb⟩
    have HW3 := Lib.hid (HW2.out.trans (hb.mono HW2.out.size))
    have HD3 := Lib.hid (HD2.out.read hb)
    have HX3 := Lib.hid (HXB.out.read hb)
    have HU3 := Lib.hid (HU2.out.kept hb)
    obtain ⟨e0, e1, _⟩ := box_cells2mk HD3.out.now
    clear hb HC2 HD2 HXB HU2
    cases hlb : mksB l with
    | false =>
      obtain rfl := HNO.out fun h => Bool.false_ne_true (hlb.symm.trans h.2.1)
      clear hlb
      go_wp2
      go_ret2
      exact newDM_no HW3.out
    | true =>
      have HLB := Lib.hid hlb
      have HC3 := Lib.hid (mkFits_any d w3 hDS)
      clear hlb
      go_wp2_with fail
      refine HC3.out.mono ?_
      rintro e w4 ⟨rfl, hb⟩
      have HW4 := Lib.hid (HW3.out.trans (hb.mono HW3.out.size))
      have HD4 := Lib.hid (HD3.out.read hb)
      have HX4 := Lib.hid (HX3.out.read hb)
      have HU4 := Lib.hid (HU3.out.kept hb)
      clear e0 e1
      obtain ⟨e0, e1, _⟩ := box_cells2mk HD4.out.now
      obtain ⟨x0, x1, x2, x3⟩ := HX4.out.cells
      have hx9 : w1.heap.size < w4.heap.size := HX4.out.le
      clear hb HC3 HD3 HX3 HU3
      cases hfb : mkFitB d with
      | false =>
        obtain rfl := HNO.out fun h => Bool.false_ne_true (hfb.symm.trans h.2.2)
        clear hfb
        go_wp2
        go_ret2
        exact newDM_no HW4.out
      | true =>
        have HRE := Lib.hid (HYES.out (by simp [HLB.out, hfb]))
        have hal5 : Below w4.heap.size w4 (w4.alloc (.cells #[.int .i64 d.v, .string d.tag] 49)) := belowAlloc (Below.refl _ _) _
        have HW5 := Lib.hid (HW4.out.trans (hal5.mono HW4.out.size))
        have HC4 := Lib.hid (mkPassed_any [d] (.slice (some ⟨w4.heap.size, 0, none⟩) 1 1) x (.slice ua x.args.length uc) (w4.alloc (.cells #[.int .i64 d.v, .string d.tag] 49)) (listS_oneM w4 d) (by rw [List.length_singleton]; decide) (HU4.out.kept hal5) hxz HXO.out)
        have HPL : Hid (∀ p, poM [d] x = some p → p.length ≤ 5000) := Lib.hid fun p hp => poM_one HXO.out hp
        clear hfb hal5 HNO HYES
        generalize poM [d] x = q at HC4 HPL HRE
        go_wp2_with fail
        refine HC4.out.mono ?_
        rintro e w6 ⟨v6, rfl, hv6, hc6, hb6⟩
        have HW6 := Lib.hid (HW5.out.trans (hb6.mono HW5.out.size))
        have HV6 := Lib.hid hv6.inS.any
        have HC6 := Lib.hid hc6
        clear hv6 hc6 hb6 HC4 e0 e1 x0 x1 x2 x3 hx9
        cases q with
        | none =>
          obtain rfl : R = none := HRE.out
          go_wp2
          go_ret2
          exact newDM_no HW6.out
        | some p =>
          have hpl := HPL.out p rfl
          have HC5 := Lib.hid (mkJoined_any l p Vl v6 w6 (HA.out.kept HW6.out) HCL.out HV6.out HC6.out (by omega))
          rw [show jn ordM l p = R from HRE.out.symm] at HC5
          go_wp2_with fail
          refine HC5.out.mono ?_
          rintro e w7 ⟨v7, rfl, hv7, hc7, hb7⟩
          have HEND := Lib.hid (NewDM.wide ⟨v7, rfl, hv7, hc7, hb7⟩ HW6.out)
          clear hv7 hc7 hb7 HC5
          go_wp2
          go_ret2
          exact HEND.out

/-! ### AddAbsence -/
noncomputable def amL (s : List Bd) (l : List Mk) (t : Tm) (tag : ByteArray) : List Mk := (adVM s l t ⟨0, tag⟩).getD []
noncomputable def amB (s : List Bd) (l : List Mk) (t : Tm) (tag : ByteArray) : Bool := (adVM s l t ⟨0, tag⟩).isSome
theorem am_len (s : List Bd) (l : List Mk) (t : Tm) (tag : ByteArray) : (amL s l t tag).length ≤ l.length + 5000 := by
  unfold amL
  by_cases h : apB s t = true ∧ mksB l = true ∧ mkFitB ⟨0, tag⟩ = true
  · rw [adVM_yes h]
    cases hp : poM [⟨0, tag⟩] (apT s t) with
    | none => exact Nat.zero_le _
    | some p =>
      have h1 := poM_one (ap_okTM h.1).1 hp
      show ((jn ordM l p).getD []).length ≤ _
      cases hj : jn ordM l p with
      | none => exact Nat.zero_le _
      | some r =>
        have := jn_len (l.length + p.length) l p r (Nat.le_refl _) hj
        show r.length ≤ _
        omega
  · rw [adVM_no h]
    exact Nat.zero_le _
set_option maxRecDepth 100000 in
set_option maxHeartbeats 2000000 in
theorem implAddAbsence_any (s : List Bd) (Vs : Value) (l : List Mk) (Vl : Value) (t : Tm) (Vt : Value) (tag : ByteArray) (w : World) (hS : ListS bdE w Any Vs s) (hZs : szB s ≤ 1048576) (hF : fineB s) (hA : ListS mkE w Any Vl l) (hV : CapOk Vl l.length) (hFM : fineM l) (hL : l.length ≤ 1048577) (hT : ArgsAt w Vt t.args) (hZ : t.sz ≤ 1048576) (hs : tag.size ≤ 1048576) :
    Calls Try.prog 17 #[Vs, Vl, .agg #[.int .i64 t.kind, .int .i64 t.num, .string t.name, Vt], .string tag] w fun e w' => ∃ v, e = .returned (.tuple #[v, .bool (amB s l t tag)]) ∧ ListO mkE 49 w' (iv w.heap.size w'.heap.size) v (amL s l t tag) ∧ Below w.heap.size w w' := by
  obtain ⟨ta, tc, rfl⟩ := hT.slice
  have hb0 : Below w.heap.size w (w.alloc (.cells #[.int .i64 t.kind, .int .i64 t.num, .string t.name, .slice ta t.args.length tc] 28)) := belowAlloc (Below.refl _ _) _
  have HC := Lib.hid (mkAdded_any l Vl s Vs t (.slice ta t.args.length tc) ⟨0, tag⟩ (w.alloc (.cells #[.int .i64 t.kind, .int .i64 t.num, .string t.name, .slice ta t.args.length tc] 28)) (hA.kept hb0) (.inr hV) hL hFM (hS.kept hb0) hZs hF (hT.kept hb0) hZ (by show tag.size ≤ maxLen; unfold maxLen; omega))
  have HW := Lib.hid hb0
  unfold amL amB
  generalize adVM s l t ⟨0, tag⟩ = R at HC ⊢
  clear hS hF hA hV hT hb0 hFM
  go_enter Try.func17, Try.ntmps17
  go_wp2_with fail
  refine HC.out.mono ?_
  rintro e w1 ⟨v, rfl, hv, hc, hb⟩
  have HV := Lib.hid hv
  have HB := Lib.hid (HW.out.trans (hb.mono HW.out.size))
  have HZ := Lib.hid HW.out.size
  clear hv hc hb HC
  go_wp2
  go_ret2
  exact ⟨_, rfl, HV.out.sub fun k hk => ⟨Nat.le_trans HZ.out hk.1, hk.2⟩, HB.out⟩
end Go.Proofs.Ytnmdnajbafpfiaa

