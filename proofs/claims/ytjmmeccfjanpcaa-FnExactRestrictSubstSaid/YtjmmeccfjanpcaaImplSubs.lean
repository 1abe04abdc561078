/-
  Lookup, ApplySubst, MoreGeneral, RestrictSubst of the program.
-/
import Derived.Test.YtjmmeccfjanpcaaImplSubstOk
import Derived.Test.YtjmmeccfjanpcaaImplApply
import Derived.Test.YtjmmeccfjanpcaaSpecSubs
import Derived.Deep.RegionLaw
namespace Go.Proofs.Ytjmmeccfjanpcaa
open Go.RowKit
set_option linter.unusedVariables false
set_option linter.unusedSimpArgs false

theorem fineB.wf {s : List Bd} (h : fineB s) : ∀ b ∈ s, wfI b.v := fun b hb => (h b hb).2
theorem implSubstOk_any (s : List Bd) (V : Value) (w : World) (hA : ListS bdE w Any V s) (hZ : szB s ≤ 1048576) (hF : fineB s) :
    Calls Try.prog 12 #[V] w fun e w' => e = .returned (.bool (substB s)) ∧ Below w.heap.size w w' := implSubstOk_e s V w hA (eachB_of hZ) hF.wf

set_option maxRecDepth 100000 in
set_option maxHeartbeats 2000000 in
theorem implLookup_any (s : List Bd) (V : Value) (v : Int) (w : World) (hA : ListS bdE w Any V s) (hZ : szB s ≤ 1048576) (hF : fineB s) (hv : (Lit.int .i64 v).wf = true) :
    Calls Try.prog 15 #[V, .int .i64 v] w (NewTm2 (luT s v) (luB s v) w) := by
  obtain ⟨a, cap, rfl⟩ := hA.slice
  have HR := Lib.hid (at_box w #[.int .i64 0, .int .i64 0, .string ⟨#[]⟩, .slice none 0 0] 31)
  have HW := Lib.hid (belowAlloc (Below.refl w.heap.size w) (.cells #[.int .i64 0, .int .i64 0, .string ⟨#[]⟩, .slice none 0 0] 31))
  have HA := Lib.hid (hA.kept HW.out)
  have HYES := Lib.hid (fun h => lu_yes (s := s) (v := v) h)
  have HNO := Lib.hid (fun h => lu_no (s := s) (v := v) h)
  have HLZ := Lib.hid (getT_sz v hZ)
  generalize luT s v = rt at HYES HNO ⊢
  generalize luB s v = rb at HYES HNO ⊢
  have HE := Lib.hid (eachB_of hZ)
  have HF := Lib.hid hF.wf
  have HV := Lib.hid hv
  clear hA hF hv
  go_enter Try.func15, Try.ntmps15
  go_upto_region 1 with (fail)
  generalize hw0 : w.alloc (.cells #[.int .i64 0, .int .i64 0, .string ⟨#[]⟩, .slice none 0 0] 31) = w0 at HR HW HA ⊢
  clear hw0
  have HC := Lib.hid (implSubstOk_e s _ w0 HA.out HE.out HF.out)
  go_wp2_with fail
  refine HC.out.mono ?_
  rintro e w1 ⟨rfl, hb⟩
  replace HR := Lib.hid (HR.out.read hb)
  replace HW := Lib.hid (belowOn HW.out (Nat.le_refl _) hb)
  replace HA := Lib.hid (HA.out.kept hb)
  clear hb HC
  have HRL : Hid (w.heap.size ≤ w.heap.size ∧ w.heap.size < w1.heap.size) := Lib.hid ⟨Nat.le_refl _, by have := HR.out.le; omega⟩
  cases hs : substB s with
  | false =>
    obtain ⟨rfl, rfl⟩ := HNO.out fun h => substB_false.1 hs h.2
    clear hs
    obtain ⟨r0, r1, r2, r3, rf⟩ := box_cells HR.out.now
    go_wp2
    exact newTm2_end (t := zeroTm) (p := 4) (q := 5) (b := w.heap.size) (W := w1) rfl rfl rfl rfl rfl rfl rfl Try.underlying31 (by kernel_rfl) HR.out.now HW.out HRL.out.1 HRL.out.2 (zero_new (Below.refl _ _))
  | true =>
    have HS := Lib.hid (substB_true.1 hs)
    clear hs
    have HC := Lib.hid (mapOf_any s _ w1 HA.out HE.out.1 HF.out)
    go_wp2_with fail
    refine HC.out.mono ?_
    rintro e w2 ⟨mb, rfl, hmb, hm, hb⟩
    replace HR := Lib.hid (HR.out.read hb)
    replace HW := Lib.hid (belowOn HW.out (Nat.le_refl _) hb)
    have hm2 := hm.same (lastO_subst HS.out)
    clear hb HC hmb hm
    rcases hm2.look HV.out with ⟨hg, hrun⟩ | ⟨x, xa, xc, hg, hax, hrun⟩
    · have HG := Lib.hid hg
      clear hg hm2
      go_upto_region 4 with (fail)
      have hal : Below w2.heap.size w2 (w2.alloc (.cells #[.int .i64 0, .int .i64 0, .string ⟨#[]⟩, .slice none 0 0] 31)) := belowAlloc (Below.refl _ _) _
      have HY := Lib.hid (at_box_of w2 #[.int .i64 0, .int .i64 0, .string ⟨#[]⟩, .slice none 0 0] 31 w2.heap.size rfl)
      replace HR := Lib.hid (HR.out.read hal)
      replace HW := Lib.hid (belowOn HW.out (Nat.le_refl _) hal)
      clear hal hrun
      generalize hw3 : w2.alloc (.cells #[.int .i64 0, .int .i64 0, .string ⟨#[]⟩, .slice none 0 0] 31) = w3 at HY HR HW ⊢
      clear hw3
      generalize w2.heap.size = nb at HY ⊢
      have HC := Lib.hid (copied_any 5 zeroTm (.slice none 0 0) w3 (by rw [zeroTm, Tm.nodes, nodesL]; decide) (.nil _ _) (by rw [zeroTm, Tm.sz, szL]; exact Nat.zero_le _) .nil)
      have HC2 : Hid (Calls Try.prog 44 #[.agg #[.int .i64 0, .int .i64 0, .string ⟨#[]⟩, .slice none 0 0]] w3 (NewTm zeroTm w3)) := Lib.hid HC.out
      obtain ⟨y0, y1, y2, y3⟩ := HY.out.cells
      have z1 := HY.out.le
      have HRL3 : Hid (w.heap.size ≤ w.heap.size ∧ w.heap.size < w3.heap.size) := Lib.hid ⟨Nat.le_refl _, by have := HR.out.le; omega⟩
      clear HC
      go_wp2_with fail
      refine HC2.out.mono ?_
      rintro e w4 ⟨u, rfl, hn⟩
      have HRE := Lib.hid (HR.out.read hn.2).now
      obtain ⟨r0, r1, r2, r3, rf⟩ := box_cells (HR.out.read hn.2).now
      obtain ⟨a0, d0, rfl⟩ := hn.1.argsAt.slice
      have HN := Lib.hid hn
      clear hn y0 y1 y2 y3 z1 HC2
      obtain ⟨rfl, rfl⟩ := HNO.out fun h => by rw [(getB_none.2 HG.out)] at h; cases h.1
      go_wp2
      exact newTm2_end (t := zeroTm) (p := 4) (q := 5) (b := w.heap.size) (W := w3) rfl rfl rfl rfl rfl rfl rfl Try.underlying31 (by kernel_rfl) HRE.out HW.out HRL3.out.1 HRL3.out.2 HN.out
    · have HG := Lib.hid hg
      have hgx : getT s v = x := (get_yes hg).1
      have hgb : getB s v = true := (get_yes hg).2
      have hxz : x.sz ≤ 1048576 := by have := HLZ.out; rw [hgx] at this; exact this
      have hxG : Good x := by
        obtain ⟨b, hb, _, rfl⟩ := getO_some hg
        exact HS.out.good b hb
      have HXG := Lib.hid hxG
      obtain ⟨e1, e2⟩ := HYES.out ⟨hgb, HS.out⟩
      rw [hgx] at e1
      have HAX := Lib.hid (at_args hax)
      subst e1
      subst e2
      clear hg hm2 hgx hgb hxG hax
      go_upto_region 4 with (fail)
      have hal : Below w2.heap.size w2 (w2.alloc (.cells #[.int .i64 rt.kind, .int .i64 rt.num, .string rt.name, .slice xa rt.args.length xc] 31)) := belowAlloc (Below.refl _ _) _
      have HY := Lib.hid (at_box_of w2 #[.int .i64 rt.kind, .int .i64 rt.num, .string rt.name, .slice xa rt.args.length xc] 31 w2.heap.size rfl)
      replace HR := Lib.hid (HR.out.read hal)
      replace HW := Lib.hid (belowOn HW.out (Nat.le_refl _) hal)
      replace HAX := Lib.hid (HAX.out.read hal)
      clear hal hrun
      generalize hw3 : w2.alloc (.cells #[.int .i64 rt.kind, .int .i64 rt.num, .string rt.name, .slice xa rt.args.length xc] 31) = w3 at HY HR HW HAX ⊢
      clear hw3
      generalize w2.heap.size = nb at HY ⊢
      have HC := Lib.hid (copied_any (rt.nodes + 1) rt _ w3 (Nat.lt_succ_self _) HAX.out.argsAt hxz HXG.out)
      obtain ⟨y0, y1, y2, y3⟩ := HY.out.cells
      have z1 := HY.out.le
      have HRL3 : Hid (w.heap.size ≤ w.heap.size ∧ w.heap.size < w3.heap.size) := Lib.hid ⟨Nat.le_refl _, by have := HR.out.le; omega⟩
      go_wp2_with fail
      refine HC.out.mono ?_
      rintro e w4 ⟨u, rfl, hn⟩
      have HRE := Lib.hid (HR.out.read hn.2).now
      obtain ⟨r0, r1, r2, r3, rf⟩ := box_cells (HR.out.read hn.2).now
      obtain ⟨a0, d0, rfl⟩ := hn.1.argsAt.slice
      have HN := Lib.hid hn
      clear hn y0 y1 y2 y3 z1 HC
      go_wp2
      exact newTm2_end (t := rt) (p := 4) (q := 5) (b := w.heap.size) (W := w3) rfl rfl rfl rfl rfl rfl rfl Try.underlying31 (by kernel_rfl) HRE.out HW.out HRL3.out.1 HRL3.out.2 HN.out

theorem ap_fit {s : List Bd} {t : Tm} (hs : SubstP s) (ht : Ok t) : apT s t = fitT s t ∧ apB s t = fitB s t := by
  by_cases h : (putT s t).nodes ≤ 5000
  · obtain ⟨a1, a2⟩ := ap_yes ⟨hs, ht, h⟩
    obtain ⟨b1, b2⟩ := fit_yes (s := s) (t := t) h
    exact ⟨by rw [a1, b1], by rw [a2, b2]⟩
  · obtain ⟨a1, a2⟩ := ap_no (s := s) (t := t) fun hh => h hh.2.2
    obtain ⟨b1, b2⟩ := fit_no (s := s) (t := t) h
    exact ⟨by rw [a1, b1], by rw [a2, b2]⟩

set_option maxRecDepth 100000 in
set_option maxHeartbeats 2000000 in
theorem implApplySubst_any (s : List Bd) (Vs : Value) (t : Tm) (V : Value) (w : World) (hA : ListS bdE w Any Vs s) (hZs : szB s ≤ 1048576) (hF : fineB s) (hT : ArgsAt w V t.args) (hZ : t.sz ≤ 1048576) :
    Calls Try.prog 23 #[Vs, .agg #[.int .i64 t.kind, .int .i64 t.num, .string t.name, V]] w (NewTm2 (apT s t) (apB s t) w) := by
  obtain ⟨sa, sc, rfl⟩ := hA.slice
  obtain ⟨aa, ca, rfl⟩ := hT.slice
  have HX := Lib.hid (at_box_of w #[.int .i64 t.kind, .int .i64 t.num, .string t.name, .slice aa t.args.length ca] 31 w.heap.size rfl)
  have HR := Lib.hid (at_box_of (w.alloc (.cells #[.int .i64 t.kind, .int .i64 t.num, .string t.name, .slice aa t.args.length ca] 31)) #[.int .i64 0, .int .i64 0, .string ⟨#[]⟩, .slice none 0 0] 31 (w.heap.size + 1) (by simp))
  replace HX := Lib.hid (HX.out.read (belowAlloc (Below.refl _ _) (.cells #[.int .i64 0, .int .i64 0, .string ⟨#[]⟩, .slice none 0 0] 31)))
  have HW := Lib.hid (belowAlloc (belowAlloc (Below.refl w.heap.size w) (.cells #[.int .i64 t.kind, .int .i64 t.num, .string t.name, .slice aa t.args.length ca] 31)) (.cells #[.int .i64 0, .int .i64 0, .string ⟨#[]⟩, .slice none 0 0] 31))
  have HA := Lib.hid (hA.kept HW.out)
  have HT := Lib.hid (at_args (hT.kept HW.out))
  have HNO := Lib.hid (fun (h : ¬ (SubstP s ∧ Ok t)) => ap_no (s := s) (t := t) fun hh => h ⟨hh.1, hh.2.1⟩)
  have HYES := Lib.hid (fun h1 h2 => ap_fit (s := s) (t := t) h1 h2)
  generalize apT s t = rt at HYES HNO ⊢
  generalize apB s t = rb at HYES HNO ⊢
  have HE := Lib.hid (eachB_of hZs)
  have HF := Lib.hid hF.wf
  clear hA hF hT
  go_enter Try.func23, Try.ntmps23
  go_upto_region 1 with (fail)
  generalize hw0 : (w.alloc (.cells #[.int .i64 t.kind, .int .i64 t.num, .string t.name, .slice aa t.args.length ca] 31)).alloc (.cells #[.int .i64 0, .int .i64 0, .string ⟨#[]⟩, .slice none 0 0] 31) = w0 at HX HR HW HA HT ⊢
  clear hw0
  have HC := Lib.hid (implSubstOk_e s _ w0 HA.out HE.out HF.out)
  go_wp2_with fail
  refine HC.out.mono ?_
  rintro e w1 ⟨rfl, hb⟩
  replace HX := Lib.hid (HX.out.read hb)
  replace HR := Lib.hid (HR.out.read hb)
  replace HW := Lib.hid (belowOn HW.out (Nat.le_refl _) hb)
  replace HA := Lib.hid (HA.out.kept hb)
  replace HT := Lib.hid (HT.out.read hb)
  clear hb HC
  have HRL : Hid (w.heap.size ≤ w.heap.size + 1 ∧ w.heap.size + 1 < w1.heap.size) := Lib.hid ⟨by omega, by have := HR.out.le; omega⟩
  cases hs : substB s with
  | false =>
    obtain ⟨rfl, rfl⟩ := HNO.out fun h => substB_false.1 hs h.1
    clear hs
    obtain ⟨r0, r1, r2, r3, rf⟩ := box_cells HR.out.now
    go_wp2
    exact newTm2_end (t := zeroTm) (p := 4) (q := 5) (b := w.heap.size + 1) (W := w1) rfl rfl rfl rfl rfl rfl rfl Try.underlying31 (by kernel_rfl) HR.out.now HW.out HRL.out.1 HRL.out.2 (zero_new (Below.refl _ _))
  | true =>
  have HS := Lib.hid (substB_true.1 hs)
  clear hs
  have HC := Lib.hid (implTermOk_any t _ w1 HT.out.argsAt hZ)
  obtain ⟨c0, c1, c2, c3⟩ := HX.out.cells
  have z0 := HX.out.le
  go_wp2_with fail
  refine HC.out.mono ?_
  rintro e w2 ⟨rfl, hb⟩
  replace HX := Lib.hid (HX.out.read hb)
  replace HR := Lib.hid (HR.out.read hb)
  replace HW := Lib.hid (belowOn HW.out (Nat.le_refl _) hb)
  replace HA := Lib.hid (HA.out.kept hb)
  replace HT := Lib.hid (HT.out.read hb)
  clear hb HC c0 c1 c2 c3 z0 HRL
  have HRL : Hid (w.heap.size ≤ w.heap.size + 1 ∧ w.heap.size + 1 < w2.heap.size) := Lib.hid ⟨by omega, by have := HR.out.le; omega⟩
  cases hok : okB t with
  | false =>
    obtain ⟨rfl, rfl⟩ := HNO.out fun h => okB_false.1 hok h.2
    clear hok
    obtain ⟨r0, r1, r2, r3, rf⟩ := box_cells HR.out.now
    go_wp2
    exact newTm2_end (t := zeroTm) (p := 4) (q := 5) (b := w.heap.size + 1) (W := w2) rfl rfl rfl rfl rfl rfl rfl Try.underlying31 (by kernel_rfl) HR.out.now HW.out HRL.out.1 HRL.out.2 (zero_new (Below.refl _ _))
  | true =>
    have HOK := Lib.hid (okB_true.1 hok)
    clear hok
    have HEQ := Lib.hid (HYES.out HS.out HOK.out)
    clear HYES HNO
    have hself : Below w2.heap.size w2 w2 := Below.refl _ _
    have hdrew : Below w2.heap.size w2 w2.drew := hself.drew
    have HCE : Hid (∀ W, Below w2.heap.size w2 W → W.cell? ⟨w.heap.size, 0, none⟩ = some (.int .i64 t.kind) ∧ W.cell? ⟨w.heap.size, 1, none⟩ = some (.int .i64 t.num) ∧ W.cell? ⟨w.heap.size, 2, none⟩ = some (.string t.name) ∧ W.cell? ⟨w.heap.size, 3, none⟩ = some (.slice aa t.args.length ca)) := Lib.hid fun W hW => by
      obtain ⟨y0a, y0b, y0c, y0d⟩ := (HX.out.read hW).cells
      exact ⟨y0a, y0b, y0c, y0d⟩
    obtain ⟨c0a, c0b, c0c, c0d⟩ := HCE.out w2 hself
    have HMO : Hid (∀ W, Below w2.heap.size w2 W → Calls Try.prog 39 #[.slice sa s.length sc] W fun e w' => ∃ b, e = .returned (.map (some b)) ∧ MapG w' b (getO s) ∧ Below W.heap.size W w') := Lib.hid fun W hW => (mapOf_any s _ W (HA.out.kept hW) HE.out.1 HF.out).mono fun e w' ⟨b, he, _, hm, hb⟩ => ⟨b, he, hm.same (lastO_subst HS.out), hb⟩
    have HAP : Hid (∀ W b, Below w2.heap.size w2 W → MapG W b (getO s) → Calls Try.prog 54 #[.map (some b), .agg #[.int .i64 t.kind, .int .i64 t.num, .string t.name, .slice aa t.args.length ca]] W (NewTm2 rt rb W)) := Lib.hid fun W b hW hm => by
      rw [HEQ.out.1, HEQ.out.2]
      exact apply_any b s t _ W hm HS.out.fits (HT.out.read hW).argsAt hZ HOK.out.2
    have HTR : Hid (∀ a b, Below w2.heap.size w2 a → Below a.heap.size a b → Below w2.heap.size w2 b) := Lib.hid fun a b h1 h2 => belowOn h1 (Nat.le_refl _) h2
    have HRB : Hid (∀ W, Below w2.heap.size w2 W → W.heap[w.heap.size + 1]? = some (Obj.cells #[.int .i64 0, .int .i64 0, .string ⟨#[]⟩, .slice none 0 0] 31)) := Lib.hid fun W hW => (HR.out.read hW).now
    have ne1 : ¬ w.heap.size = w.heap.size + 1 := by omega
    have ne2 : ¬ w.heap.size + 1 = w.heap.size := by omega
    clear HX HR HA HT
    go_upto_region 3 with (fail)
    go_region_held3 (fun w' => w'.cell? ⟨w.heap.size, 0, none⟩ = some (.int .i64 t.kind) ∧ w'.cell? ⟨w.heap.size, 1, none⟩ = some (.int .i64 t.num) ∧ w'.cell? ⟨w.heap.size, 2, none⟩ = some (.string t.name) ∧ w'.cell? ⟨w.heap.size, 3, none⟩ = some (.slice aa t.args.length ca)) (go_keep)
      (first
        | (go_at_call 39; (with_reducible refine Calls.mono (HMO.out _ ?_) ?_); (assumption); rintro e wA ⟨mb, rfl, hmA, hbA⟩; have hA' := HTR.out _ _ (by assumption) hbA; obtain ⟨k0, k1, k2, k3⟩ := HCE.out _ hA'; have HMA := Lib.hid hmA; clear hmA)
        | (go_at_call 54; (with_reducible refine Calls.mono (HAP.out _ _ ?_ HMA.out) ?_); (assumption); rintro e wB ⟨u, rfl, hn⟩; have hB' := HTR.out _ _ (by assumption) hn.2; have HAB := Lib.hid hA'; obtain ⟨k0, k1, k2, k3⟩ := HCE.out _ hB'; obtain ⟨ua, uc, rfl⟩ := hn.1.argsAt.slice; have HN := Lib.hid hn; have HRE := Lib.hid (HRB.out _ hB'); obtain ⟨r0, r1, r2, r3, rf⟩ := box_cells (HRB.out _ hB'); clear hn))
    all_goals
      go_wp2_with fail
      exact newTm2_end (t := rt) (p := 4) (q := 5) (b := w.heap.size + 1) rfl rfl rfl rfl rfl rfl rfl Try.underlying31 (by kernel_rfl) HRE.out (belowOn HW.out (Nat.le_refl _) HAB.out) HRL.out.1 (Nat.lt_of_lt_of_le HRL.out.2 HAB.out.size) HN.out

theorem more_solves {t : List Bd} {b : Bd} : EqnP t b ↔ solvesB t (varTm b.v) b.t = true := by rw [solves_true]; rfl

set_option maxRecDepth 100000 in
set_option maxHeartbeats 4000000 in
theorem implMoreGeneral_any (s : List Bd) (Vs : Value) (t : List Bd) (Vt : Value) (w : World) (hA : ListS bdE w Any Vs s) (hZs : szB s ≤ 1048576) (hFs : fineB s) (hT : ListS bdE w Any Vt t) (hZt : szB t ≤ 1048576) (hFt : fineB t) :
    Calls Try.prog 33 #[Vs, Vt] w fun e w' => e = .returned (.bool (moreB s t)) ∧ Below w.heap.size w w' := by
  obtain ⟨a, cap, rfl⟩ := hA.slice
  obtain ⟨ta, tc, rfl⟩ := hT.slice
  have HE := Lib.hid (eachB_of hZs)
  have HEt := Lib.hid (eachB_of hZt)
  have hL : s.length ≤ 1048576 := HE.out.1
  have HF := Lib.hid hFs.wf
  have HFt := Lib.hid hFt.wf
  have HA := Lib.hid hA
  have HT := Lib.hid hT
  have HNO := Lib.hid (fun (h : ¬ MoreP s t) => more_false.2 h)
  have HYES := Lib.hid (fun (h : MoreP s t) => more_true.2 h)
  generalize moreB s t = r at HYES HNO ⊢
  have HC := Lib.hid (implSubstOk_e s _ w hA HE.out HF.out)
  clear hA hT hFs hFt
  go_enter Try.func33, Try.ntmps33
  go_wp2_with fail
  refine HC.out.mono ?_
  rintro e w0 ⟨rfl, hb⟩
  have HW := Lib.hid hb
  clear hb HC
  cases hs : substB s with
  | false =>
    obtain rfl := HNO.out fun h => substB_false.1 hs h.1
    clear hs
    go_wp2
    go_ret
    exact ⟨rfl, HW.out⟩
  | true =>
  have HSP := Lib.hid (substB_true.1 hs)
  have HC := Lib.hid (implSubstOk_e t _ w0 (HT.out.kept HW.out) HEt.out HFt.out)
  clear hs
  go_wp2_with fail
  refine HC.out.mono ?_
  rintro e w1 ⟨rfl, hb⟩
  have HW1 := Lib.hid (belowOn HW.out (Nat.le_refl _) hb)
  clear hb HC HW
  cases ht : substB t with
  | false =>
    obtain rfl := HNO.out fun h => substB_false.1 ht h.2.1
    clear ht
    go_wp2
    go_ret
    exact ⟨rfl, HW1.out⟩
  | true =>
  have HTP := Lib.hid (substB_true.1 ht)
  have HC := Lib.hid (mapOf_any t _ w1 (HT.out.kept HW1.out) HEt.out.1 HFt.out)
  clear ht
  go_wp2_with fail
  refine HC.out.mono ?_
  rintro e w2 ⟨mb, rfl, hmb, hm, hb⟩
  have HM := Lib.hid (hm.same (lastO_subst HTP.out))
  have HW2 := Lib.hid (belowOn HW1.out (Nat.le_refl _) hb)
  clear hb HC HW1 hmb hm
  go_wp2
  go_loopw [20] (fun iv wr => ∃ k : Nat, k ≤ s.length ∧ iv = .int .i64 k ∧ Hid (∀ (i : Nat) (b : Bd), i < k → s[i]? = some b → EqnP t b) ∧ Hid (Below w2.heap.size w2 wr)) (fun iv _ => s.length - (intOf iv).toNat)
  case atStart => exact ⟨0, Nat.zero_le _, rfl, Lib.hid (fun i b hi => absurd hi (Nat.not_lt_zero _)), Lib.hid (Below.refl _ _)⟩
  case round =>
    obtain ⟨k, hk, rfl, HN, HB⟩ := hrel
    by_cases hlt : k < s.length
    · have hltI : (k : Int) < (s.length : Int) := by omega
      obtain ⟨x, hx⟩ : ∃ x, s[k]? = some x := ⟨_, List.getElem?_eq_getElem hlt⟩
      obtain ⟨g, off, u1, u2, rfl, hg, hq, hc, hu⟩ := HA.out.bd hx
      obtain ⟨d0, d1, d2, d3, d4⟩ := hc wr (belowOn HW2.out (Nat.le_refl _) HB.out)
      have HX := Lib.hid hx
      have HXO := Lib.hid (HSP.out.1.1 k x hx)
      have HU := Lib.hid (at_args (hu.at.kept (belowOn HW2.out (Nat.le_refl _) HB.out)))
      have hxz : x.t.sz ≤ 1048576 := by have := HE.out.2 x (List.mem_of_getElem? hx); omega
      clear hq hc hu hx
      go_upto_region 7 with (fail)
      have hal : Below wr.heap.size wr (wr.alloc (.cells #[.int .i64 x.v, .int .i64 x.t.kind, .int .i64 x.t.num, .string x.t.name, .slice u1 x.t.args.length u2] 58)) := belowAlloc (Below.refl _ _) _
      have HBX := Lib.hid (at_box_of wr #[.int .i64 x.v, .int .i64 x.t.kind, .int .i64 x.t.num, .string x.t.name, .slice u1 x.t.args.length u2] 58 wr.heap.size rfl)
      have HB1 := Lib.hid (belowOn HB.out (Nat.le_refl _) hal)
      have HU1 := Lib.hid (HU.out.read hal)
      have HM1 := Lib.hid ((HM.out.kept HB.out).kept hal)
      clear hal d0 d1 d2 d3 d4 HB HU
      generalize hw1 : wr.alloc (.cells #[.int .i64 x.v, .int .i64 x.t.kind, .int .i64 x.t.num, .string x.t.name, .slice u1 x.t.args.length u2] 58) = w3 at HBX HB1 HU1 HM1 ⊢
      clear hw1
      generalize wr.heap.size = nb at HBX ⊢
      have hself : Below w3.heap.size w3 w3 := Below.refl _ _
      have hdrew : Below w3.heap.size w3 w3.drew := hself.drew
      have HCE : Hid (∀ W, Below w3.heap.size w3 W → W.cell? ⟨nb, 0, none⟩ = some (.int .i64 x.v) ∧ W.cell? ⟨nb, 1, none⟩ = some (.int .i64 x.t.kind) ∧ W.cell? ⟨nb, 2, none⟩ = some (.int .i64 x.t.num) ∧ W.cell? ⟨nb, 3, none⟩ = some (.string x.t.name) ∧ W.cell? ⟨nb, 4, none⟩ = some (.slice u1 x.t.args.length u2)) := Lib.hid fun W hW => by
        obtain ⟨y0, y1, y2, y3, y4, _⟩ := box_cells5 (HBX.out.read hW).now
        exact ⟨y0, y1, y2, y3, y4⟩
      obtain ⟨e0, e1, e2, e3, e4⟩ := HCE.out w3 hself
      have HTR : Hid (∀ a b, Below w3.heap.size w3 a → Below a.heap.size a b → Below w3.heap.size w3 b) := Lib.hid fun a b h1 h2 => belowOn h1 (Nat.le_refl _) h2
      have HVA : Hid (∀ W, Below w3.heap.size w3 W → Calls Try.prog 67 #[.agg #[.int .i64 x.v, .int .i64 x.t.kind, .int .i64 x.t.num, .string x.t.name, .slice u1 x.t.args.length u2]] W fun e w' => e = .returned (.agg #[.int .i64 1, .int .i64 x.v, .string ⟨#[]⟩, .slice none 0 0]) ∧ Below W.heap.size W w') := Lib.hid fun W hW => variable_any x _ W (HU1.out.read hW).argsAt
      have HSO : Hid (∀ W, Below w3.heap.size w3 W → Calls Try.prog 66 #[.map (some mb), .agg #[.int .i64 1, .int .i64 x.v, .string ⟨#[]⟩, .slice none 0 0], .agg #[.int .i64 x.t.kind, .int .i64 x.t.num, .string x.t.name, .slice u1 x.t.args.length u2]] W fun e w' => e = .returned (.bool (solvesB t (varTm x.v) x.t)) ∧ Below W.heap.size W w') := Lib.hid fun W hW =>
        solves_any mb t (varTm x.v) x.t (.slice none 0 0) _ W (HM1.out.kept hW) HTP.out.fits (.nil _ _) (HU1.out.read hW).argsAt (by show ByteArray.size ⟨#[]⟩ + szL [] ≤ 1048576; decide) hxz (varTm_ok HXO.out.1).2 HXO.out.2.2
      have HEND : Hid (∀ W, Below w3.heap.size w3 W → Below w.heap.size w W ∧ Below w2.heap.size w2 W) := Lib.hid fun W hW => ⟨belowOn HW2.out (Nat.le_refl _) (belowOn HB1.out (Nat.le_refl _) hW), belowOn HB1.out (Nat.le_refl _) hW⟩
      have HSV := Lib.hid (more_solves (t := t) (b := x))
      generalize solvesB t (varTm x.v) x.t = q at HSO HSV
      clear HBX HU1 HM1
      go_region_held3 (fun w' => w'.cell? ⟨nb, 0, none⟩ = some (.int .i64 x.v) ∧ w'.cell? ⟨nb, 1, none⟩ = some (.int .i64 x.t.kind) ∧ w'.cell? ⟨nb, 2, none⟩ = some (.int .i64 x.t.num) ∧ w'.cell? ⟨nb, 3, none⟩ = some (.string x.t.name) ∧ w'.cell? ⟨nb, 4, none⟩ = some (.slice u1 x.t.args.length u2)) (go_keep)
        (first
          | (go_at_call 67; (with_reducible refine Calls.mono (HVA.out _ ?_) ?_); (assumption); rintro e wA ⟨rfl, hbA⟩; have hA' := HTR.out _ _ (by assumption) hbA; obtain ⟨k0, k1, k2, k3, k4⟩ := HCE.out _ hA')
          | (go_at_call 66; (with_reducible refine Calls.mono (HSO.out _ ?_) ?_); (assumption); rintro e wB ⟨rfl, hbB⟩; have hB' := HTR.out _ _ (by assumption) hbB; obtain ⟨k0, k1, k2, k3, k4⟩ := HCE.out _ hB'; have HWB := Lib.hid (HEND.out _ hB')))
      all_goals
        cases q with
        | false =>
          obtain rfl := HNO.out fun h => by have := HSV.out.1 (h.2.2 x (List.mem_of_getElem? HX.out)); cases this
          go_wp2
          go_ret
          exact ⟨rfl, HWB.out.1⟩
        | true =>
          have HEQ := Lib.hid (HSV.out.2 rfl)
          go_wp2
          go_roundw
          case rel =>
            refine ⟨k + 1, by omega, by go_num, Lib.hid fun i y hi hy => ?_, Lib.hid HWB.out.2⟩
            by_cases q : i = k
            · subst q
              cases hy.symm.trans HX.out
              exact HEQ.out
            · exact HN.out i y (by omega) hy
          case measure => simp [intOf]; omega
    · obtain rfl : k = s.length := by omega
      obtain rfl := HYES.out ⟨HSP.out, HTP.out, fun b hb => by
        obtain ⟨i, hi⟩ := List.getElem?_of_mem hb
        exact HN.out i b (List.getElem?_eq_some_iff.1 hi).1 hi⟩
      go_wp2
      go_ret
      exact ⟨rfl, belowOn HW2.out (Nat.le_refl _) HB.out⟩
end Go.Proofs.Ytjmmeccfjanpcaa

