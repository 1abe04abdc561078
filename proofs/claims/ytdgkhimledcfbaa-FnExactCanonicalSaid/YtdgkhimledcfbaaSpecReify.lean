/-
  The model's l07Apply and Reify.
-/
import Derived.Test.YtdgkhimledcfbaaSpecCanon
namespace Go.Proofs.Ytdgkhimledcfbaa
open Go.RowKit
set_option linter.unusedVariables false
set_option linter.unusedSimpArgs false

theorem specCanonical_any (l : List Tm) (V : Value) (w : World) (hA : ArgsAt w V l) (hZ : szL l ≤ 1048576) :
    Calls Try.prog 43 #[V] w fun e w' => ∃ u, e = .returned u ∧ ArgsAt w' u (cnL l) ∧ Below w.heap.size w w' := specCanonical_e l V w hA (eachT_of (by omega))
def FitAll (s : List Bd) (l : List Tm) : Prop := ∀ t ∈ l, (putT s t).nodes ≤ 5000
open Classical in
noncomputable def faL (s : List Bd) (l : List Tm) : List Tm := if FitAll s l then l.map (putT s) else []
open Classical in
noncomputable def faB (s : List Bd) (l : List Tm) : Bool := decide (FitAll s l)
open Classical in
theorem fa_yes {s : List Bd} {l : List Tm} (h : FitAll s l) : faL s l = l.map (putT s) ∧ faB s l = true := ⟨if_pos h, decide_eq_true h⟩
open Classical in
theorem fa_no {s : List Bd} {l : List Tm} (h : ¬ FitAll s l) : faL s l = [] ∧ faB s l = false := ⟨if_neg h, decide_eq_false h⟩
/-- A list of terms that can be read, and whether. -/
def OldL2 (l : List Tm) (b : Bool) (w : World) (e : Ending) (w' : World) : Prop := ∃ v, e = .returned (.tuple #[v, .bool b]) ∧ ArgsAt w' v l ∧ Below w.heap.size w w'

set_option maxRecDepth 100000 in
set_option maxHeartbeats 4000000 in
theorem specApply7_any (s : List Bd) (Vs : Value) (l : List Tm) (V : Value) (w : World) (hs : SubstP s) (hL : s.length ≤ 1048576) (hLS : ListS bdE w Any Vs s) (hA : ArgsAt w V l) (hO : l.all okB = true) (hE : EachT l) :
    Calls Try.prog 82 #[Vs, V] w (OldL2 (faL s l) (faB s l) w) := by
  obtain ⟨i0, hi, hz0, hz1, hz2⟩ := info_parts infoTerm
  have HII := Lib.hid (And.intro hi (And.intro hz0 (And.intro hz1 hz2)))
  obtain ⟨sa, sc, rfl⟩ := hLS.slice
  obtain ⟨a, cap, rfl⟩ := hA.slice
  have HNO := Lib.hid (fun h => fa_no (s := s) (l := l) h)
  have HYES := Lib.hid (fun h => fa_yes (s := s) (l := l) h)
  generalize faL s l = r at HNO HYES ⊢
  generalize faB s l = c at HNO HYES ⊢
  have HSP := Lib.hid hs
  have HLS := Lib.hid hLS.lowB
  have HA := Lib.hid hA
  have HQ := Lib.hid hO
  have HE := Lib.hid hE
  have hL1 := hE.1
  have HSL := Lib.hid hL
  have HR0 := Lib.hid (rowK_start (E := tmE) (e := 25) (w := w))
  have HB0 : Hid (Below w.heap.size w (w.alloc (.cells #[] 25))) := Lib.hid (belowAlloc (Below.refl _ _) _)
  clear hs hLS hA hO hE hL hi hz0 hz1 hz2
  go_enter Try.func82, Try.ntmps82
  go_wp2
  go_loopw [6, 14] (fun lv iv wr => ∃ k : Nat, k ≤ l.length ∧ iv = .int .i64 k ∧ Hid (RowK tmE 25 wr w.heap.size lv ((l.take k).map (putT s))) ∧ Hid (∀ (j : Nat) (t : Tm), j < k → l[j]? = some t → (putT s t).nodes ≤ 5000) ∧ Hid (Below w.heap.size w wr)) (fun _ iv _ => l.length - (intOf iv).toNat)
  case atStart => exact ⟨0, Nat.zero_le _, rfl, HR0, Lib.hid (fun j t hj => absurd hj (Nat.not_lt_zero _)), HB0⟩
  case round =>
    obtain ⟨k, hk, rfl, HO, HFN, HB⟩ := hrel
    obtain ⟨oa, oc, rfl⟩ := HO.out.slice
    clear HR0 HB0
    by_cases hlt : k < l.length
    · obtain ⟨x, hx⟩ : ∃ x, l[k]? = some x := ⟨_, List.getElem?_eq_getElem hlt⟩
      obtain ⟨g, off, u1, u2, rfl, hg, hq, hc, hu⟩ := HA.out.elem hx
      obtain ⟨d0, d1, d2, d3⟩ := hc wr HB.out
      have hgw : g < wr.heap.size := Nat.lt_of_lt_of_le hg HB.out.size
      have HTK : Hid ((l.take (k + 1)).map (putT s) = (l.take k).map (putT s) ++ [putT s x]) := Lib.hid (by rw [takeE hx, List.map_append]; rfl)
      have HU := Lib.hid (hu.inS)
      have HOX := Lib.hid (all_ok HQ.out x (List.mem_of_getElem? hx))
      have HZX := Lib.hid (HE.out.at hx)
      have HXE := Lib.hid hx
      have hkl : ((l.take k).map (putT s)).length = k := by rw [List.length_map, List.length_take]; omega
      have HKL := Lib.hid hkl
      clear hq hc hu hx hkl
      go_upto_region 5 with (fail)
      have hal : Below wr.heap.size wr (wr.alloc (.cells #[.int .i64 x.kind, .int .i64 x.num, .string x.name, .slice u1 x.args.length u2] 25)) := belowAlloc (Below.refl _ _) _
      have HBX := Lib.hid (at_box_of wr #[.int .i64 x.kind, .int .i64 x.num, .string x.name, .slice u1 x.args.length u2] 25 wr.heap.size rfl)
      have HO1 := Lib.hid (HO.out.kept hal)
      have HB1 := Lib.hid (belowOn HB.out (Nat.le_refl _) hal)
      clear hal d0 d1 d2 d3 HO HB
      generalize hw1 : wr.alloc (.cells #[.int .i64 x.kind, .int .i64 x.num, .string x.name, .slice u1 x.args.length u2] 25) = w5 at HBX HO1 HB1 ⊢
      clear hw1
      generalize wr.heap.size = nb at HBX ⊢
      have HCP := Lib.hid (specApply4_any s x (.slice sa s.length sc) (.slice u1 x.args.length u2) (fun k => k < w.heap.size) w5 HSP.out HOX.out HSL.out (fun k hk => Nat.lt_of_lt_of_le hk HB1.out.size) (HLS.out.frame HB1.out.size fun j hj _ => HB1.out.block j hj) (HU.out.kept HB1.out) HZX.out)
      obtain ⟨e0, e1, e2, e3⟩ := HBX.out.cells
      have ze := HBX.out.le
      obtain ⟨L, hL1', hrow, hch⟩ := HO1.out
      have hLn : k = L.length := by have := congrArg List.length hL1'; rw [HKL.out, List.length_map] at this; exact this
      rw [← hLn] at hrow
      have HROW := Lib.hid hrow
      have HPA := Lib.hid (And.intro hL1' (And.intro hLn hch))
      have HNE := Lib.hid (rowK_block HO1.out)
      have hwz : w.heap.size ≤ w5.heap.size := HB1.out.size
      rw [HKL.out] at HROW HNE HPA ⊢
      clear hL1' hLn hrow hch HBX HO1
      go_wp2_with fail
      refine HCP.out.mono ?_
      rintro e w6 ⟨p, rfl, hp, hb6⟩
      obtain ⟨pa, pc, rfl⟩ := hp.at.slice
      have HP6 := Lib.hid hp
      have HB6 := Lib.hid hb6
      clear hp hb6 HCP e0 e1 e2 e3 ze
      by_cases hfit : (putT s x).nodes ≤ 5000
      · have hd : decide ((putT s x).nodes ≤ 5000) = true := decide_eq_true hfit
        rw [hd]
        have HFN2 : Hid (∀ (j : Nat) (t : Tm), j < k + 1 → l[j]? = some t → (putT s t).nodes ≤ 5000) := Lib.hid fun j t hj ht => by
          by_cases e : j = k
          · subst e
            rw [HXE.out] at ht
            cases ht
            exact hfit
          · exact HFN.out j t (by omega) ht
        clear hfit hd
        obtain ⟨y, hy⟩ : ∃ y, putT s x = y := ⟨_, rfl⟩
        rw [hy] at HP6 HTK ⊢
        clear hy
        go_upto_region 8 with (fail)
        have hal : Below w6.heap.size w6 (w6.alloc (.cells #[.int .i64 y.kind, .int .i64 y.num, .string y.name, .slice pa y.args.length pc] 25)) := belowAlloc (Below.refl _ _) _
        have HBY := Lib.hid (at_box_of w6 #[.int .i64 y.kind, .int .i64 y.num, .string y.name, .slice pa y.args.length pc] 25 w6.heap.size rfl)
        have HWB : Hid (Below w5.heap.size w5 (w6.alloc (.cells #[.int .i64 y.kind, .int .i64 y.num, .string y.name, .slice pa y.args.length pc] 25))) := Lib.hid (belowOn HB6.out (Nat.le_refl _) hal)
        have HPB := Lib.hid (HP6.out.kept hal)
        have HS6 := Lib.hid (And.intro HB6.out.size hal.size)
        clear hal HP6 HB6
        generalize hw7 : w6.alloc (.cells #[.int .i64 y.kind, .int .i64 y.num, .string y.name, .slice pa y.args.length pc] 25) = wB at HBY HWB HPB HS6 ⊢
        clear hw7
        obtain ⟨n6, hn6⟩ : ∃ n6, w6.heap.size = n6 := ⟨_, rfl⟩
        rw [hn6] at HBY HPB HS6 ⊢
        clear hn6
        obtain ⟨e0, e1, e2, e3⟩ := HBY.out.cells
        have ze := HBY.out.le
        have hwzB : w.heap.size ≤ wB.heap.size := Nat.le_trans hwz HWB.out.size
        go_wp2_with (at_builtin; refine wpList_append_lies _ rfl _ _ 23 rfl w.heap.size 25 i0 _ 4 56 Try.underlying23 HII.out.1 HII.out.2.1 HII.out.2.2.1 HII.out.2.2.2 rfl (by omega) (.slice oa k oc) k (cellsE tmE L) rfl ((row_kept HROW.out HWB.out).alloc _) ⟨wB.heap.size, 0, none⟩ 1 1 (tmE.cells y (.slice pa y.args.length pc)) rfl rfl (World.news_of_block (heap_alloc_new wB _)) (by simp [tmE, cells4, Value.oneCell']) (by omega) (by unfold maxLen; omega) (by omega) (by simp; omega) (wB.heap.size + 1) (by simp) ?_; intro gg cap w2' hown1 hgrow hat hlt1; have HAP := Lib.hid (And.intro hown1 (And.intro hgrow (And.intro hat hlt1))); clear hown1 hgrow hat hlt1)
        have HBF := Lib.hid ((belowAlloc (belowOn HB1.out (Nat.le_refl _) HWB.out) (.cells #[.int .i64 y.kind, .int .i64 y.num, .string y.name, .slice pa y.args.length pc] 25)).trans (below_of_grown HAP.out.2.1 (by have := HWB.out.size; simp; omega) (fun j hj => (HNE.out j hj).1)))
        have HN : Hid (RowK tmE 25 w2' w.heap.size (.slice (some ⟨gg, 0, none⟩) (k + 1) cap) ((l.take (k + 1)).map (putT s))) := Lib.hid (by
          have h := rowK_append (E := tmE) (x := y) HPA.out.2.1 (row_kept HROW.out HWB.out) (fun j p hj => by
            obtain ⟨C, c1, c2⟩ := HPA.out.2.2 j p hj
            exact ⟨C, tmE.kidFrame c1 HWB.out.size fun b _ hb => HWB.out.block b hb, fun b hb => ⟨Nat.lt_of_lt_of_le (c2 b hb).1 HWB.out.size, (c2 b hb).2⟩⟩) (C := fun k => k < w.heap.size ∨ (w5.heap.size ≤ k ∧ k < n6)) HPB.out (fun b hb => ⟨by have h3 := HS6.out; have h4 := hwz; rcases hb with h | h <;> omega, fun e => by have h1 := HNE.out b e; have h3 := HS6.out.1; rcases hb with h | h <;> omega⟩) (belowAlloc (Below.refl _ _) _) HAP.out.1 HAP.out.2.1 (HAP.out.2.2.1.imp id (fun h => by omega))
          rw [← HPA.out.1, ← HTK.out] at h
          exact h)
        clear HAP HPA HROW HU HNE e0 e1 e2 e3 ze HBY
        go_wp2
        go_roundw
        case rel => exact ⟨k + 1, by omega, by go_num, HN, HFN2, HBF⟩
        case measure => simp [intOf]; omega
      · have hd : decide ((putT s x).nodes ≤ 5000) = false := decide_eq_false hfit
        rw [hd]
        obtain ⟨rfl, rfl⟩ := HNO.out fun h => hfit (h x (List.mem_of_getElem? HXE.out))
        have HBW := Lib.hid (belowOn HB1.out (Nat.le_refl _) HB6.out)
        clear hfit hd
        go_wp2
        go_ret2
        exact ⟨_, rfl, .nil _ _, belowAlloc HBW.out _⟩
    · obtain rfl : k = l.length := by omega
      have HFA : Hid (FitAll s l) := Lib.hid fun t ht => by
        obtain ⟨j, hj⟩ := List.getElem?_of_mem ht
        exact HFN.out j t (List.getElem?_eq_some_iff.1 hj).1 hj
      obtain ⟨hr, rfl⟩ := HYES.out HFA.out
      have HL : Hid (ArgsAt wr (.slice oa l.length oc) r) := Lib.hid (by
        have h := HO.out.inS.tms.at
        have e : (l.take l.length).map (putT s) = r := by rw [List.take_length, hr]
        have e2 : r.length = l.length := by rw [hr, List.length_map]
        rw [e, e2] at h
        exact h)
      clear HO hr
      go_wp2
      go_ret2
      exact ⟨_, rfl, HL.out, HB.out⟩

set_option maxRecDepth 100000 in
set_option maxHeartbeats 2000000 in
theorem specReify_e (s : List Bd) (Vs : Value) (l : List Tm) (V : Value) (w : World) (hS : ListS bdE w Any Vs s) (hEs : EachB s) (hA : ArgsAt w V l) (hE : EachT l) :
    Calls Try.prog 46 #[Vs, V] w (OldL2 (reL s l) (reB s l) w) := by
  obtain ⟨sa, sc, rfl⟩ := hS.slice
  obtain ⟨a, cap, rfl⟩ := hA.slice
  have HNO := Lib.hid (fun h => re_no (s := s) (l := l) h)
  have HYES := Lib.hid (fun h => re_yes (s := s) (l := l) h)
  generalize reL s l = r at HNO HYES ⊢
  generalize reB s l = c at HNO HYES ⊢
  have HO := Lib.hid (specSubstOk_any s _ w hS hEs)
  have HSS := Lib.hid hS
  have HA := Lib.hid hA
  have HE := Lib.hid hE
  have HEF := Lib.hid hEs
  clear hA hE hS hEs
  go_enter Try.func46, Try.ntmps46
  go_wp2_with fail
  refine HO.out.mono ?_
  rintro e w1 ⟨rfl, hb⟩
  have HB1 := Lib.hid hb
  clear hb HO
  cases hsb : substB s with
  | false =>
    obtain ⟨rfl, rfl⟩ := HNO.out fun h => substB_false.1 hsb h.1
    clear hsb
    go_wp2
    go_ret2
    exact ⟨_, rfl, .nil _ _, HB1.out⟩
  | true =>
    have HSP := Lib.hid (substB_true.1 hsb)
    clear hsb
    have HO := Lib.hid (specAllOk_e l _ w1 (HA.out.kept HB1.out) HE.out)
    obtain ⟨q, hq⟩ : ∃ q, l.all okB = q := ⟨_, rfl⟩
    rw [hq] at HO
    have HQ := Lib.hid hq
    clear hq
    go_wp2_with fail
    refine HO.out.mono ?_
    rintro e w2 ⟨rfl, hb⟩
    have HB2 := Lib.hid (belowOn HB1.out (Nat.le_refl _) hb)
    clear hb HO HB1
    cases q with
    | false =>
      obtain ⟨rfl, rfl⟩ := HNO.out fun h => by have := h.2.1; rw [HQ.out] at this; cases this
      go_wp2
      go_ret2
      exact ⟨_, rfl, .nil _ _, HB2.out⟩
    | true =>
      have HC := Lib.hid (specApply7_any s _ l _ w2 HSP.out HEF.out.1 (HSS.out.kept HB2.out) (HA.out.kept HB2.out) HQ.out HE.out)
      have HFL : Hid (faB s l = true → ReP s l ∧ faL s l = l.map (putT s)) := Lib.hid fun h => by
        by_cases hf : FitAll s l
        · exact ⟨⟨HSP.out, HQ.out, hf⟩, (fa_yes hf).1⟩
        · rw [(fa_no hf).2] at h; cases h
      have HFX : Hid (faB s l = false → ¬ ReP s l) := Lib.hid fun h hr => by rw [(fa_yes (s := s) (l := l) hr.2.2).2] at h; cases h
      generalize faB s l = fb at HC HFL HFX
      generalize faL s l = fl at HC HFL
      go_wp2_with fail
      refine HC.out.mono ?_
      rintro e w3 ⟨v, rfl, hv, hb⟩
      obtain ⟨va, vc, rfl⟩ := hv.slice
      have HVV := Lib.hid hv
      have HB3 := Lib.hid (belowOn HB2.out (Nat.le_refl _) hb)
      clear hv hb HC HB2
      cases fb with
      | false =>
        obtain ⟨rfl, rfl⟩ := HNO.out (HFX.out rfl)
        go_wp2
        go_ret2
        exact ⟨_, rfl, .nil _ _, HB3.out⟩
      | true =>
        obtain ⟨hrp, hfl⟩ := HFL.out rfl
        obtain ⟨hr, rfl⟩ := HYES.out hrp
        have HRR : Hid (r = cnL fl) := Lib.hid (by rw [hr, hfl])
        have HEF2 : Hid (EachT fl) := Lib.hid (by rw [hfl]; exact map_each (re_ok hrp) (by rw [List.length_map]; exact HE.out.1))
        have HC := Lib.hid (specCanonical_e fl _ w3 HVV.out HEF2.out)
        clear hrp hfl hr HNO HYES HFL HFX
        go_wp2_with fail
        refine HC.out.mono ?_
        rintro e w4 ⟨u, rfl, hu, hb⟩
        have HU := Lib.hid hu
        have HB4 := Lib.hid (belowOn HB3.out (Nat.le_refl _) hb)
        clear hu hb HC
        go_wp2
        go_ret2
        exact ⟨_, rfl, by rw [HRR.out]; exact HU.out, HB4.out⟩
theorem specReify_any (s : List Bd) (Vs : Value) (l : List Tm) (V : Value) (w : World) (hS : ListS bdE w Any Vs s) (hZs : szB s ≤ 1048576) (hA : ArgsAt w V l) (hZ : szL l ≤ 1048576) :
    Calls Try.prog 46 #[Vs, V] w (OldL2 (reL s l) (reB s l) w) := specReify_e s Vs l V w hS (eachB_of hZs) hA (eachT_of (by omega))
end Go.Proofs.Ytdgkhimledcfbaa

