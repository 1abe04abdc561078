/-
  What a list of Mark says of values that solve a substitution; the laws' own test. (Written by wip/tools/gen_demsk.py.)
-/
import Derived.Test.YtnmdnajbafpfiaaDemS
import Derived.Test.YtnmdnajbafpfiaaDemRfM
import Derived.Test.YtnmdnajbafpfiaaSpecMarks
import Derived.Test.YtnmdnajbafpfiaaSpecSym
import Derived.Deep.RegionHeld3
namespace Go.Proofs.Ytnmdnajbafpfiaa
open Go.RowKit
set_option linter.unusedVariables false
set_option linter.unusedSimpArgs false

theorem SolvedP.freeM {s g : List Bd} (h : SolvedP s g) {t : Tm} (ht : Good t) (hv : ∀ v ∈ t.vl, v < 8) : (putT g t).vl = [] := by
  rw [List.eq_nil_iff_forall_not_mem]
  intro u hm
  rcases putT_vl ht u hm with ⟨hu, hn⟩ | ⟨v, hx, y, hy, hyu⟩
  · have h1 := (h.val u (good_vl0 ht u hu).1 (hv u hu)).2.1
    rw [putT_free hn, show (varTm u).vl = [u] from vl_of_var rfl] at h1
    cases h1
  · have h1 := (h.val v (good_vl0 ht v hx).1 (hv v hx)).2.1
    rw [putT_of hy] at h1
    rw [h1] at hyu
    cases hyu
theorem SolvedP.novarM {s g : List Bd} (h : SolvedP s g) {t : Tm} (ht : Good t) (hv : ∀ v ∈ t.vl, v < 8) : ¬ (putT g t).kind = 1 := fun e => by
  have h1 := h.freeM ht hv
  rw [vl_of_var e] at h1
  cases h1
theorem SolvedP.innerM {s g : List Bd} (h : SolvedP s g) {t : Tm} (ht : Good t) (hv : ∀ v ∈ t.vl, v < 8) : ∀ u ∈ (putT s t).vl, 0 ≤ u ∧ u < 8 := by
  intro u hm
  rcases putT_vl ht u hm with ⟨hu, hn⟩ | ⟨v, hx, y, hy, hyu⟩
  · exact ⟨(good_vl0 ht u hu).1, hv u hu⟩
  · have h1 := (h.fit v (good_vl0 ht v hx).1 (hv v hx)).2.2 u
    rw [show tv s v = y from putT_of hy] at h1
    exact (h1 hyu).1
theorem SolvedP.sizedM {s g : List Bd} (h : SolvedP s g) {t : Tm} (ht : Good t) (hn : t.nodes ≤ 50) : Ok (putT g t) ∧ (putT g t).sz ≤ 1048576 := by
  have h1 := putT_good (s := g) (fun b hb => (h.good b hb).1) t.nodes t (Nat.le_refl _) ht
  have h2 := putT_nodes (s := g) (M := 33) (by decide) (fun b hb => (h.good b hb).2) t.nodes t (Nat.le_refl _) ht
  have h3 := good_sz h1
  exact ⟨⟨by omega, h1⟩, by omega⟩
theorem SolvedP.vokM {s g : List Bd} (h : SolvedP s g) {v : Int} (h0 : 0 ≤ v) (h1 : v < 8) : Good (varTm v) ∧ (varTm v).nodes ≤ 50 ∧ ∀ u ∈ (varTm v).vl, u < 8 :=
  ⟨.var v h0 (by omega), by rw [varTm, Tm.nodes, nodesL]; decide, fun u hu => by
    rw [show (varTm v).vl = [v] from vl_of_var rfl, List.mem_singleton] at hu
    omega⟩
theorem SolvedP.applyM {s g : List Bd} (h : SolvedP s g) {t : Tm} (ht : Good t) (hn : t.nodes ≤ 50) : apT s t = putT s t ∧ apB s t = true := by
  refine ap_yes ⟨h.sub, ⟨by omega, ht⟩, ?_⟩
  have h2 := putT_nodes (s := s) (M := 11) (by decide) h.small t.nodes t (Nat.le_refl _) ht
  omega
/-- What is asked of a demand here. -/
def FM (d : Mk) : Prop := (0 ≤ d.v ∧ d.v < 8) ∧ isName d.tag = true
theorem syB_put {g : List Bd} {k : ByteArray} {t : Tm} (ht : Good t) : (syB (putT g t) k = false ↔ syB t k = false ∧ ∀ v ∈ t.vl, syB (putT g (varTm v)) k = false) := by
  induction ht with
  | nil => rw [putT_atom (by decide) (by decide)]; simp [Tm.vl, vlL]
  | sym n hn => rw [putT_atom (by show ¬ (2 : Int) = 1; decide) (by show ¬ (2 : Int) = 4; decide)]; simp [Tm.vl, vlL]
  | int i h0 h1 => rw [putT_atom (by show ¬ (3 : Int) = 1; decide) (by show ¬ (3 : Int) = 4; decide)]; simp [Tm.vl, vlL]
  | var i h0 h1 =>
    rw [show (Tm.mk 1 i ⟨#[]⟩ []).vl = [i] from vl_of_var rfl, show Tm.mk 1 i ⟨#[]⟩ [] = varTm i from rfl]
    simp only [List.mem_singleton, forall_eq]
    exact ⟨fun h => ⟨by unfold syB varTm; rw [Tm.sy, syL_nil]; rfl, h⟩, fun h => h.2⟩
  | pair a b ha hb iha ihb =>
    have h4 : ∀ x y : Tm, (syB (.mk 4 0 ⟨#[]⟩ [x, y]) k = false ↔ syB x k = false ∧ syB y k = false) := fun x y => by
      unfold syB
      rw [Tm.sy, syL_cons, syL_cons, syL_nil, if_neg (by rintro ⟨h, _⟩; revert h; decide), decide_eq_false_iff_not, decide_eq_false_iff_not, decide_eq_false_iff_not]
      omega
    rw [putT_two (t := .mk 4 0 ⟨#[]⟩ [a, b]) rfl rfl, h4, h4, iha, ihb, vl_pair]
    constructor
    · rintro ⟨⟨a1, a2⟩, b1, b2⟩
      exact ⟨⟨a1, b1⟩, fun v hv => (List.mem_append.1 hv).elim (a2 v) (b2 v)⟩
    · rintro ⟨⟨a1, b1⟩, h⟩
      exact ⟨⟨a1, fun v hv => h v (List.mem_append.2 (.inl hv))⟩, b1, fun v hv => h v (List.mem_append.2 (.inr hv))⟩
theorem mkAllows_true {d : Mk} {t : Tm} : mkAllows d t = true ↔ syB t d.tag = false := by unfold mkAllows; cases syB t d.tag <;> simp
theorem soundM {s g : List Bd} (hg : SolvedP s g) : Sound demM FM g where
  okput d t hd ht hv := by
    show mkAllows d (putT g t) = true ↔ mkAllows d t = true ∧ ∀ v ∈ t.vl, mkAllows d (putT g (varTm v)) = true
    simp only [mkAllows_true]
    exact syB_put ht
  okvar d v := by
    show mkAllows d (varTm v) = true
    exact mkAllows_true.2 (by unfold syB varTm; rw [Tm.sy, syL_nil]; rfl)
  ofok v d t := rfl
  ofv v d := rfl
  ofself d := rfl
  fv d hd := hd.1
  fof v d hd h0 h1 := ⟨⟨h0, h1⟩, hd.2⟩
  clash a b ha hb hc h := ordM_total hc
theorem mksP_of {l : List Mk} (hA : AscO ordM l) (hF : ∀ d ∈ l, FM d) : MksP l := fun k x hx => by
  have h1 := hF x (List.mem_of_getElem? hx)
  refine ⟨⟨⟨h1.1.1, by have := h1.1.2; omega⟩, h1.2⟩, fun j y hj hy => ?_⟩
  obtain ⟨hi, rfl⟩ := List.getElem?_eq_some_iff.1 hy
  obtain ⟨hk, rfl⟩ := List.getElem?_eq_some_iff.1 hx
  exact List.pairwise_iff_getElem.1 hA j k hi hk (by omega)
theorem csB_ok {t : Tm} (h : Ok t) (k : ByteArray) : csB t k = syB t k := by unfold csB; rw [show okB t = true from okB_true.2 h]; rfl
noncomputable def mkHB (g : List Bd) (l : List Mk) : Bool := l.all fun d => !csB (putT g (varTm d.v)) d.tag
theorem mkHB_sat {s g : List Bd} (hg : SolvedP s g) {l : List Mk} (hF : ∀ d ∈ l, FM d) : mkHB g l = true ↔ demM.sat g l := by
  unfold mkHB DemT.sat
  rw [List.all_eq_true]
  refine forall_congr' fun d => forall_congr' fun hd => ?_
  obtain ⟨g1, g2, g3⟩ := hg.vokM (hF d hd).1.1 (hF d hd).1.2
  rw [csB_ok (hg.sizedM g1 g2).1]
  exact Iff.rfl
/-- Adding one demand to no list. -/
theorem fM_add {s g : List Bd} (hg : SolvedP s g) {t : Tm} (ht : Good t) (hv : ∀ v ∈ t.vl, v < 8) (hn : t.nodes ≤ 50) {k : ByteArray} (hk : isName k = true) :
    (adVM s [] t ⟨0, k⟩ = none → (!csB (putT g t) k) = false) ∧ (∀ l, adVM s [] t ⟨0, k⟩ = some l → mksB l = true ∧ mkHB g l = (!csB (putT g t) k) ∧ (∀ d ∈ l, FM d) ∧ l.length ≤ 5000) := by
  have hd : FM ⟨0, k⟩ := ⟨⟨by show (0 : Int) ≤ 0; decide, by show (0 : Int) < 8; decide⟩, hk⟩
  obtain ⟨a1, a2⟩ := hg.applyM ht hn
  have hok : Ok (putT s t) := by rw [← a1]; exact (ap_okTM a2).1
  have hvs := hg.innerM ht hv
  have hfit : mkFitB ⟨0, k⟩ = true := mkFit_true.2 ⟨⟨by show (0 : Int) ≤ 0; decide, by show (0 : Int) ≤ 100000; decide⟩, hk⟩
  have hnil : mksB [] = true := mksB_true.2 fun j x h => by simp at h
  have hR : adVM s [] t ⟨0, k⟩ = demM.po [⟨0, k⟩] (putT s t) := by
    rw [adVM_yes ⟨a2, hnil, hfit⟩, a1, poM_is]
    cases demM.po [⟨0, k⟩] (putT s t) with
    | none => rfl
    | some l => exact jn_nil _ _
  have hval : demM.ok ⟨0, k⟩ (putT g (putT s t)) = (!csB (putT g t) k) := by
    rw [hg.put ht hv]
    show mkAllows ⟨0, k⟩ (putT g t) = _
    rw [csB_ok (hg.sizedM ht hn).1]
    rfl
  obtain ⟨p1, p2⟩ := po_sat (soundM hg) hd hok hvs
  rw [hR]
  rw [hval] at p1 p2
  refine ⟨fun h => by rw [Bool.eq_false_iff]; exact p1 h, fun l h => ?_⟩
  obtain ⟨q1, q2, q3, _⟩ := p2 l h
  refine ⟨mksB_true.2 (mksP_of q2 q3), ?_, q3, poM_one hok (d := ⟨0, k⟩) h⟩
  rw [Bool.eq_iff_iff, mkHB_sat hg q3, q1]
theorem one_lenM {s g : List Bd} (hg : SolvedP s g) : ∀ l : List Mk, (∀ d ∈ l, FM d) → lenS (l.map (demM.one s)) ≤ 5000 * l.length
  | [], _ => Nat.zero_le _
  | d :: l, hF => by
    have h3 := one_lenM hg l fun e he => hF e (List.mem_cons_of_mem _ he)
    have hd := hF d (List.mem_cons_self ..)
    have h4 : (demM.one s d).length ≤ 5000 := by
      show (poLM [d] (varsOf (tv s d.v))).length ≤ 5000
      rw [poLM_len, List.length_singleton, Nat.mul_one]
      exact vars_fewM (hg.fit d.v hd.1.1 hd.1.2).1
    have e : lenS ((d :: l).map (demM.one s)) = (demM.one s d).length + lenS (l.map (demM.one s)) := by rw [List.map_cons, lenS]
    rw [e, List.length_cons]
    omega
/-- Refreshing a list that fits. -/
theorem fM_rf {s g : List Bd} (hg : SolvedP s g) {l : List Mk} (hA : AscO ordM l) (hF : ∀ d ∈ l, FM d) (hl : l.length ≤ 2) :
    (rfVM s l = none → mkHB g l = false) ∧ (∀ m, rfVM s l = some m → mkHB g m = mkHB g l ∧ rfVM s m = some m ∧ (∀ d ∈ m, FM d) ∧ m.length ≤ 10000) := by
  have hsb : substB s = true := substB_true.2 hg.sub
  have hR : ∀ l', AscO ordM l' → (∀ d ∈ l', FM d) → rfVM s l' = demM.rf s l' := fun l' h1 h2 => rfVM_yes ⟨hsb, mksB_true.2 (mksP_of h1 h2)⟩
  rw [hR l hA hF]
  obtain ⟨r1, r2⟩ := rf_sat (soundM hg) hg hF
  refine ⟨fun h => by rw [Bool.eq_false_iff, Ne, mkHB_sat hg hF]; exact r1 h, fun m h => ?_⟩
  obtain ⟨q1, q2, q3, q4⟩ := r2 m h
  refine ⟨by rw [Bool.eq_iff_iff, mkHB_sat hg q3, mkHB_sat hg hF, q1], by rw [hR m q2 q3]; exact rf_again (soundM hg) q2 q3 q4, q3, ?_⟩
  unfold DemT.rf at h
  split at h
  · have h1 := allJ_len _ _ _ _ h
    have h2 := one_lenM hg l hF
    omega
  · cases h

/-! ### The program, for lists that may be nil -/
theorem fineM_nil : fineM [] := fun d hd => by cases hd
set_option maxRecDepth 100000 in
set_option maxHeartbeats 2000000 in
theorem addNilM_any (s : List Bd) (Vs : Value) (t : Tm) (Vt : Value) (k : ByteArray) (w : World) (hS : ListS bdE w Any Vs s) (hZs : szB s ≤ 1048576) (hF : fineB s) (hT : ArgsAt w Vt t.args) (hZ : t.sz ≤ 1048576) (hs : k.size ≤ maxLen) :
    Calls Try.prog 17 #[Vs, .slice none 0 0, .agg #[.int .i64 t.kind, .int .i64 t.num, .string t.name, Vt], .string k] w (NewDM (adVM s [] t ⟨0, k⟩) w) := by
  obtain ⟨ta, tc, rfl⟩ := hT.slice
  have hb0 : Below w.heap.size w (w.alloc (.cells #[.int .i64 t.kind, .int .i64 t.num, .string t.name, .slice ta t.args.length tc] 28)) := belowAlloc (Below.refl _ _) _
  have HC := Lib.hid (mkAdded_any [] (.slice none 0 0) s Vs t (.slice ta t.args.length tc) ⟨0, k⟩ (w.alloc (.cells #[.int .i64 t.kind, .int .i64 t.num, .string t.name, .slice ta t.args.length tc] 28)) (.nil _ _) (.inl ⟨rfl, rfl⟩) (Nat.zero_le _) fineM_nil (hS.kept hb0) hZs hF (hT.kept hb0) hZ hs)
  have HW := Lib.hid hb0
  generalize adVM s [] t ⟨0, k⟩ = R at HC ⊢
  clear hS hF hT hb0
  go_enter Try.func17, Try.ntmps17
  go_wp2_with fail
  refine HC.out.mono ?_
  rintro e w1 ⟨v, rfl, hv, hc, hb⟩
  have HV := Lib.hid hv
  have HCL := Lib.hid hc
  have HB := Lib.hid (HW.out.trans (hb.mono HW.out.size))
  have HZ := Lib.hid HW.out.size
  clear hv hc hb HC
  go_wp2
  go_ret2
  exact ⟨_, rfl, HV.out.sub fun k hk => ⟨Nat.le_trans HZ.out hk.1, hk.2⟩, HCL.out, HB.out⟩
set_option maxRecDepth 100000 in
set_option maxHeartbeats 2000000 in
theorem refreshM_any (s : List Bd) (Vs : Value) (l : List Mk) (Vl : Value) (w : World) (hS : ListS bdE w Any Vs s) (hZs : szB s ≤ 1048576) (hF : fineB s) (hA : ListS mkE w Any Vl l) (hC : CapL Vl l.length) (hFM : fineM l) (hL : l.length ≤ 1048577) :
    Calls Try.prog 21 #[Vs, Vl] w (NewDM (rfVM s l) w) := by
  have HC := Lib.hid (mkRefreshed_any l Vl s Vs w hA hC hL hFM hS hZs hF)
  generalize rfVM s l = R at HC ⊢
  clear hS hF hA hC hFM
  go_enter Try.func21, Try.ntmps21
  go_wp2_with fail
  refine HC.out.mono ?_
  rintro e w1 ⟨v, rfl, hv, hc, hb⟩
  have HV := Lib.hid hv
  have HCL := Lib.hid hc
  have HB := Lib.hid hb
  clear hv hc hb HC
  go_wp2
  go_ret2
  exact ⟨_, rfl, HV.out, HCL.out, HB.out⟩

/-! ### The laws' own test -/
set_option maxRecDepth 100000 in
set_option maxHeartbeats 4000000 in
theorem free_any (g : List Bd) (l : List Mk) (Vg Vl : Value) (w : World) (hG : ListS bdE w Any Vg g) (hA : ListS mkE w Any Vl l) (hg : g.length ≤ 1048576) (hl : l.length ≤ 1048577) (hv : ∀ d ∈ l, (Good (varTm d.v) ∧ d.tag.size ≤ maxLen) ∧ (putT g (varTm d.v)).sz ≤ 1048576) :
    Calls Try.prog 20 #[Vl, Vg] w fun e w' => e = .returned (.bool (mkHB g l)) ∧ Below w.heap.size w w' := by
  obtain ⟨la, lc, rfl⟩ := hA.slice
  obtain ⟨ga, gc, rfl⟩ := hG.slice
  have HA := Lib.hid hA
  have HG := Lib.hid hG
  have HV := Lib.hid hv
  have HNO : Hid (∀ (i : Nat) (d : Mk), l[i]? = some d → csB (putT g (varTm d.v)) d.tag = true → mkHB g l = false) := Lib.hid fun i d hi h => by
    rw [Bool.eq_false_iff]
    intro hh
    have := List.all_eq_true.1 hh d (List.mem_of_getElem? hi)
    rw [h] at this
    cases this
  have HYES : Hid ((∀ (i : Nat) (d : Mk), i < l.length → l[i]? = some d → csB (putT g (varTm d.v)) d.tag = false) → mkHB g l = true) := Lib.hid fun h => List.all_eq_true.2 fun d hd => by
    obtain ⟨i, hi⟩ := List.getElem?_of_mem hd
    rw [h i d (List.getElem?_eq_some_iff.1 hi).1 hi]
    rfl
  generalize mkHB g l = r at HNO HYES ⊢
  clear hA hG hv
  go_enter Try.func20, Try.ntmps20
  go_wp2
  go_loopw [9] (fun iv wr => ∃ (k : Nat), iv = .int .i64 k ∧ k ≤ l.length ∧ Hid (∀ (i : Nat) (d : Mk), i < k → l[i]? = some d → csB (putT g (varTm d.v)) d.tag = false) ∧ Hid (Below w.heap.size w wr)) (fun iv _ => l.length - (intOf iv).toNat)
  case atStart => exact ⟨0, rfl, Nat.zero_le _, Lib.hid (fun i d hi => absurd hi (Nat.not_lt_zero _)), Lib.hid (Below.refl _ _)⟩
  case round =>
    obtain ⟨k, rfl, hk, HP, HWr⟩ := hrel
    by_cases hlt : k < l.length
    · have hltI : (k : Int) < (l.length : Int) := by omega
      obtain ⟨x, hx⟩ : ∃ x, l[k]? = some x := ⟨_, List.getElem?_eq_getElem hlt⟩
      obtain ⟨g', off, rfl, hg', hq, hc⟩ := HA.out.mk hx
      obtain ⟨d0, d1⟩ := hc wr HWr.out
      have HX := Lib.hid hx
      have HXV := Lib.hid (HV.out x (List.mem_of_getElem? hx))
      clear hx hq hc
      go_upto_region 4 with (fail)
      have HBX := Lib.hid (at_box_of wr #[.int .i64 x.v, .string x.tag] 49 wr.heap.size rfl)
      have hal : Below wr.heap.size wr (wr.alloc (.cells #[.int .i64 x.v, .string x.tag] 49)) := belowAlloc (Below.refl _ _) _
      have HW1 := Lib.hid (belowOn HWr.out (Nat.le_refl _) hal)
      clear hal d0 d1 HWr
      generalize hw1 : wr.alloc (.cells #[.int .i64 x.v, .string x.tag] 49) = w1 at HBX HW1 ⊢
      clear hw1
      generalize wr.heap.size = nb at HBX ⊢
      have hself : Below w1.heap.size w1 w1 := Below.refl _ _
      have hdrew : Below w1.heap.size w1 w1.drew := hself.drew
      have HTR : Hid (∀ a b, Below w1.heap.size w1 a → Below a.heap.size a b → Below w1.heap.size w1 b) := Lib.hid fun a b h1 h2 => belowOn h1 (Nat.le_refl _) h2
      have HCB : Hid (∀ W, Below w1.heap.size w1 W → W.cell? ⟨nb, 0, none⟩ = some (.int .i64 x.v) ∧ W.cell? ⟨nb, 1, none⟩ = some (.string x.tag)) := Lib.hid fun W hW => by
        obtain ⟨y0, y1, _⟩ := box_cells2mk (HBX.out.read hW).now
        exact ⟨y0, y1⟩
      have HM1 : Hid (∀ W, Below w1.heap.size w1 W → Calls Try.prog 12 #[.agg #[.int .i64 1, .int .i64 x.v, .string ⟨#[]⟩, .slice none 0 0], .slice ga g.length gc] W (ValT (putT g (varTm x.v)) W)) := Lib.hid fun W hW => makeValue_any g (varTm x.v) _ (.slice none 0 0) W hg (HG.out.kept (belowOn HW1.out (Nat.le_refl _) hW)) (.nil _ _) (by rw [varTm, Tm.sz, szL]; decide) HXV.out.1.1 HXV.out.2
      have HKD := Lib.hid (And.intro (HNO.out k x HX.out) HXV.out.2)
      generalize hp : putT g (varTm x.v) = p at HM1 HKD
      have HPP := Lib.hid hp
      clear hp
      have HSM : Hid (∀ W (xa : Option Addr) (xc : Nat), ArgsAt W (.slice xa p.args.length xc) p.args → Calls Try.prog 18 #[.agg #[.int .i64 p.kind, .int .i64 p.num, .string p.name, .slice xa p.args.length xc], .string x.tag] W fun e w' => e = .returned (.bool (csB p x.tag)) ∧ Below W.heap.size W w') := Lib.hid fun W xa xc h1 => specContainsSymbol_any p _ x.tag W h1 HKD.out.2 HXV.out.1.2
      obtain ⟨e0, e1⟩ := HCB.out w1 hself
      clear HBX HA
      go_region_held3 (fun w' => w'.cell? ⟨nb, 0, none⟩ = some (.int .i64 x.v) ∧ w'.cell? ⟨nb, 1, none⟩ = some (.string x.tag)) (go_keep)
        (first
        | (go_at_call 12; (with_reducible refine Calls.mono (HM1.out _ ?_) ?_); (assumption); rintro e wX ⟨xa, xc, rfl, hxa, hb⟩; have HXA := Lib.hid hxa.at; have hB' := HTR.out _ _ (by assumption) hb; obtain ⟨k0, k1⟩ := HCB.out _ hB'; clear hxa hb)
        | (go_at_call 18; (with_reducible refine Calls.mono (HSM.out _ _ _ ?_) ?_); (exact HXA.out); rintro e wZ ⟨rfl, hb⟩; have hB' := HTR.out _ _ (by assumption) hb; have HZB := Lib.hid hB'; obtain ⟨k0, k1⟩ := HCB.out _ hB'; clear hb))
      all_goals
        have HEND := Lib.hid (belowOn HW1.out (Nat.le_refl _) HZB.out)
        cases hpq : csB p x.tag with
        | true =>
          obtain rfl := HKD.out.1 hpq
          go_wp2
          go_ret
          exact ⟨rfl, HEND.out⟩
        | false =>
          have HNX : Hid (csB (putT g (varTm x.v)) x.tag = false) := Lib.hid (by rw [HPP.out]; exact hpq)
          go_wp2
          go_roundw
          case rel =>
            refine ⟨k + 1, by go_num, by omega, Lib.hid fun i z hi hz => ?_, HEND⟩
            by_cases q : i = k
            · subst q
              cases hz.symm.trans HX.out
              exact HNX.out
            · exact HP.out i z (by omega) hz
          case measure => simp [intOf]; omega
    · obtain rfl : k = l.length := by omega
      obtain rfl := HYES.out HP.out
      go_wp2
      go_ret
      exact ⟨rfl, HWr.out⟩
end Go.Proofs.Ytnmdnajbafpfiaa
