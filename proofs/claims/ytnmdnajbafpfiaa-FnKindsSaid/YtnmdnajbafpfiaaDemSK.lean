/-
  What a list of VarKind says of values that solve a substitution; the laws' own test. (Written by wip/tools/gen_demsk.py.)
-/
import Derived.Test.YtnmdnajbafpfiaaDemS
import Derived.Test.YtnmdnajbafpfiaaDemRfK
import Derived.Test.YtnmdnajbafpfiaaSpecKinds
import Derived.Deep.RegionHeld3
namespace Go.Proofs.Ytnmdnajbafpfiaa
open Go.RowKit
set_option linter.unusedVariables false
set_option linter.unusedSimpArgs false

theorem SolvedP.freeK {s g : List Bd} (h : SolvedP s g) {t : Tm} (ht : Good t) (hv : ∀ v ∈ t.vl, v < 8) : (putT g t).vl = [] := by
  rw [List.eq_nil_iff_forall_not_mem]
  intro u hm
  rcases putT_vl ht u hm with ⟨hu, hn⟩ | ⟨v, hx, y, hy, hyu⟩
  · have h1 := (h.val u (good_vl0 ht u hu).1 (hv u hu)).2.1
    rw [putT_free hn, show (varTm u).vl = [u] from vl_of_var rfl] at h1
    cases h1
  · have h1 := (h.val v (good_vl0 ht v hx).1 (hv v hx)).2.1
    rw [putT_of hy] at h1
    rw [h1] at hyu
    cases hyu
theorem SolvedP.novarK {s g : List Bd} (h : SolvedP s g) {t : Tm} (ht : Good t) (hv : ∀ v ∈ t.vl, v < 8) : ¬ (putT g t).kind = 1 := fun e => by
  have h1 := h.freeK ht hv
  rw [vl_of_var e] at h1
  cases h1
theorem SolvedP.innerK {s g : List Bd} (h : SolvedP s g) {t : Tm} (ht : Good t) (hv : ∀ v ∈ t.vl, v < 8) : ∀ u ∈ (putT s t).vl, 0 ≤ u ∧ u < 8 := by
  intro u hm
  rcases putT_vl ht u hm with ⟨hu, hn⟩ | ⟨v, hx, y, hy, hyu⟩
  · exact ⟨(good_vl0 ht u hu).1, hv u hu⟩
  · have h1 := (h.fit v (good_vl0 ht v hx).1 (hv v hx)).2.2 u
    rw [show tv s v = y from putT_of hy] at h1
    exact (h1 hyu).1
theorem SolvedP.sizedK {s g : List Bd} (h : SolvedP s g) {t : Tm} (ht : Good t) (hn : t.nodes ≤ 50) : Ok (putT g t) ∧ (putT g t).sz ≤ 1048576 := by
  have h1 := putT_good (s := g) (fun b hb => (h.good b hb).1) t.nodes t (Nat.le_refl _) ht
  have h2 := putT_nodes (s := g) (M := 33) (by decide) (fun b hb => (h.good b hb).2) t.nodes t (Nat.le_refl _) ht
  have h3 := good_sz h1
  exact ⟨⟨by omega, h1⟩, by omega⟩
theorem SolvedP.vokK {s g : List Bd} (h : SolvedP s g) {v : Int} (h0 : 0 ≤ v) (h1 : v < 8) : Good (varTm v) ∧ (varTm v).nodes ≤ 50 ∧ ∀ u ∈ (varTm v).vl, u < 8 :=
  ⟨.var v h0 (by omega), by rw [varTm, Tm.nodes, nodesL]; decide, fun u hu => by
    rw [show (varTm v).vl = [v] from vl_of_var rfl, List.mem_singleton] at hu
    omega⟩
theorem SolvedP.applyK {s g : List Bd} (h : SolvedP s g) {t : Tm} (ht : Good t) (hn : t.nodes ≤ 50) : apT s t = putT s t ∧ apB s t = true := by
  refine ap_yes ⟨h.sub, ⟨by omega, ht⟩, ?_⟩
  have h2 := putT_nodes (s := s) (M := 11) (by decide) h.small t.nodes t (Nat.le_refl _) ht
  omega
/-- What is asked of a demand here. -/
def FK (d : Kd) : Prop := (0 ≤ d.v ∧ d.v < 8) ∧ (d.k = 2 ∨ d.k = 3)
theorem soundK {s g : List Bd} (hg : SolvedP s g) : Sound demK FK g where
  okput d t hd ht hv := by
    show kdAllows d (putT g t) = true ↔ kdAllows d t = true ∧ ∀ v ∈ t.vl, kdAllows d (putT g (varTm v)) = true
    obtain ⟨_, hk⟩ := hd
    cases ht with
    | nil => rw [putT_atom (by decide) (by decide)]; simp [Tm.vl, vlL]
    | sym n hn => rw [putT_atom (by show ¬ (2 : Int) = 1; decide) (by show ¬ (2 : Int) = 4; decide)]; simp [Tm.vl, vlL]
    | int i h0 h1 => rw [putT_atom (by show ¬ (3 : Int) = 1; decide) (by show ¬ (3 : Int) = 4; decide)]; simp [Tm.vl, vlL]
    | var i h0 h1 =>
      rw [show (Tm.mk 1 i ⟨#[]⟩ []).vl = [i] from vl_of_var rfl, show Tm.mk 1 i ⟨#[]⟩ [] = varTm i from rfl]
      simp only [List.mem_singleton, forall_eq]
      exact ⟨fun h => ⟨decide_eq_true (.inl rfl), h⟩, fun h => h.2⟩
    | pair a b ha hb =>
      have h4 : ∀ x y : Tm, ¬ kdAllows d (.mk 4 0 ⟨#[]⟩ [x, y]) = true := fun x y h => by
        have h := of_decide_eq_true h
        have e : (Tm.mk 4 0 ⟨#[]⟩ [x, y]).kind = 4 := rfl
        rw [e] at h
        omega
      rw [putT_two (t := .mk 4 0 ⟨#[]⟩ [a, b]) rfl rfl]
      exact ⟨fun h => absurd h (h4 _ _), fun h => absurd h.1 (h4 _ _)⟩
  okvar d v := by
    show kdAllows d (varTm v) = true
    unfold kdAllows
    exact decide_eq_true (.inl rfl)
  ofok v d t := rfl
  ofv v d := rfl
  ofself d := rfl
  fv d hd := hd.1
  fof v d hd h0 h1 := ⟨⟨h0, h1⟩, hd.2⟩
  clash a b ha hb hc h := by
    obtain ⟨c1, c2, c3⟩ := hc
    replace c1 : ordK.lt a b = false := c1
    replace c2 : ordK.lt b a = false := c2
    have e1 : ¬ a.v < b.v := fun hh => by rw [ordK_lt.2 hh] at c1; cases c1
    have e2 : ¬ b.v < a.v := fun hh => by rw [ordK_lt.2 hh] at c2; cases c2
    have hv : a.v = b.v := by omega
    obtain ⟨g1, _, g3⟩ := hg.vokK ha.1.1 ha.1.2
    have hnv := hg.novarK g1 g3
    have h1 : (putT g (varTm a.v)).kind = a.k := (of_decide_eq_true h.1).resolve_left hnv
    have h2 : (putT g (varTm b.v)).kind = b.k := (of_decide_eq_true h.2).resolve_left (by show ¬ (putT g (varTm b.v)).kind = 1; rw [← hv]; exact hnv)
    rw [← hv, h1] at h2
    obtain ⟨av, ak⟩ := a
    obtain ⟨bv, bk⟩ := b
    simp only at hv h2
    subst hv
    subst h2
    exact c3 rfl
theorem kdsP_of {l : List Kd} (hA : AscO ordK l) (hF : ∀ d ∈ l, FK d) : KdsP l := fun k x hx => by
  have h1 := hF x (List.mem_of_getElem? hx)
  refine ⟨⟨⟨h1.1.1, by have := h1.1.2; omega⟩, h1.2⟩, fun j y hj hy => ascK_at hA (by omega) hy hx⟩
def kdHB (g : List Bd) (l : List Kd) : Bool := l.all fun d => (putT g (varTm d.v)).kind == d.k
theorem kdHB_sat {s g : List Bd} (hg : SolvedP s g) {l : List Kd} (hF : ∀ d ∈ l, FK d) : kdHB g l = true ↔ demK.sat g l := by
  unfold kdHB DemT.sat
  rw [List.all_eq_true]
  refine forall_congr' fun d => forall_congr' fun hd => ?_
  obtain ⟨g1, _, g3⟩ := hg.vokK (hF d hd).1.1 (hF d hd).1.2
  have hnv := hg.novarK g1 g3
  show _ ↔ decide (_ ∨ _) = true
  rw [beq_iff_eq, decide_eq_true_iff]
  exact ⟨.inr, fun h => h.resolve_left hnv⟩
/-- Adding one demand to no list. -/
theorem fK_add {s g : List Bd} (hg : SolvedP s g) {t : Tm} (ht : Good t) (hv : ∀ v ∈ t.vl, v < 8) (hn : t.nodes ≤ 50) {k : Int} (hk : k = 2 ∨ k = 3) :
    (adVK s [] t ⟨0, k⟩ = none → ((putT g t).kind == k) = false) ∧ (∀ l, adVK s [] t ⟨0, k⟩ = some l → kdsB l = true ∧ kdHB g l = ((putT g t).kind == k) ∧ (∀ d ∈ l, FK d) ∧ l.length ≤ 5000) := by
  have hd : FK ⟨0, k⟩ := ⟨⟨by show (0 : Int) ≤ 0; decide, by show (0 : Int) < 8; decide⟩, hk⟩
  obtain ⟨a1, a2⟩ := hg.applyK ht hn
  have hok : Ok (putT s t) := by rw [← a1]; exact (ap_okT a2).1
  have hvs := hg.innerK ht hv
  have hfit : kdFitB ⟨0, k⟩ = true := kdFit_true.2 ⟨⟨by show (0 : Int) ≤ 0; decide, by show (0 : Int) ≤ 100000; decide⟩, hk⟩
  have hnil : kdsB [] = true := kdsB_true.2 fun j x h => by simp at h
  have hR : adVK s [] t ⟨0, k⟩ = demK.po [⟨0, k⟩] (putT s t) := by
    rw [adVK_yes ⟨a2, hnil, hfit⟩, a1, poK_is]
    cases demK.po [⟨0, k⟩] (putT s t) with
    | none => rfl
    | some l => exact jn_nil _ _
  have hval : demK.ok ⟨0, k⟩ (putT g (putT s t)) = ((putT g t).kind == k) := by
    rw [hg.put ht hv]
    show kdAllows ⟨0, k⟩ (putT g t) = _
    rw [Bool.eq_iff_iff]
    have hnv := hg.novarK ht hv
    show decide (_ ∨ _) = true ↔ _
    rw [beq_iff_eq, decide_eq_true_iff]
    exact ⟨fun h => h.resolve_left hnv, .inr⟩
  obtain ⟨p1, p2⟩ := po_sat (soundK hg) hd hok hvs
  rw [hR]
  rw [hval] at p1 p2
  refine ⟨fun h => by rw [Bool.eq_false_iff]; exact p1 h, fun l h => ?_⟩
  obtain ⟨q1, q2, q3, _⟩ := p2 l h
  refine ⟨kdsB_true.2 (kdsP_of q2 q3), ?_, q3, poK_one hok (d := ⟨0, k⟩) h⟩
  rw [Bool.eq_iff_iff, kdHB_sat hg q3, q1]
theorem one_lenK {s g : List Bd} (hg : SolvedP s g) : ∀ l : List Kd, (∀ d ∈ l, FK d) → lenS (l.map (demK.one s)) ≤ 5000 * l.length
  | [], _ => Nat.zero_le _
  | d :: l, hF => by
    have h3 := one_lenK hg l fun e he => hF e (List.mem_cons_of_mem _ he)
    have hd := hF d (List.mem_cons_self ..)
    have h4 : (demK.one s d).length ≤ 5000 := by
      show (poLK [d] (varsOf (tv s d.v))).length ≤ 5000
      rw [poLK_len, List.length_singleton, Nat.mul_one]
      exact vars_few (hg.fit d.v hd.1.1 hd.1.2).1
    have e : lenS ((d :: l).map (demK.one s)) = (demK.one s d).length + lenS (l.map (demK.one s)) := by rw [List.map_cons, lenS]
    rw [e, List.length_cons]
    omega
/-- Refreshing a list that fits. -/
theorem fK_rf {s g : List Bd} (hg : SolvedP s g) {l : List Kd} (hA : AscO ordK l) (hF : ∀ d ∈ l, FK d) (hl : l.length ≤ 2) :
    (rfVK s l = none → kdHB g l = false) ∧ (∀ m, rfVK s l = some m → kdHB g m = kdHB g l ∧ rfVK s m = some m ∧ (∀ d ∈ m, FK d) ∧ m.length ≤ 10000) := by
  have hsb : substB s = true := substB_true.2 hg.sub
  have hR : ∀ l', AscO ordK l' → (∀ d ∈ l', FK d) → rfVK s l' = demK.rf s l' := fun l' h1 h2 => rfVK_yes ⟨hsb, kdsB_true.2 (kdsP_of h1 h2)⟩
  rw [hR l hA hF]
  obtain ⟨r1, r2⟩ := rf_sat (soundK hg) hg hF
  refine ⟨fun h => by rw [Bool.eq_false_iff, Ne, kdHB_sat hg hF]; exact r1 h, fun m h => ?_⟩
  obtain ⟨q1, q2, q3, q4⟩ := r2 m h
  refine ⟨by rw [Bool.eq_iff_iff, kdHB_sat hg q3, kdHB_sat hg hF, q1], by rw [hR m q2 q3]; exact rf_again (soundK hg) q2 q3 q4, q3, ?_⟩
  unfold DemT.rf at h
  split at h
  · have h1 := allJ_len _ _ _ _ h
    have h2 := one_lenK hg l hF
    omega
  · cases h

/-! ### The program, for lists that may be nil -/
set_option maxRecDepth 100000 in
set_option maxHeartbeats 2000000 in
theorem addNilK_any (s : List Bd) (Vs : Value) (t : Tm) (Vt : Value) (k : Int) (w : World) (hS : ListS bdE w Any Vs s) (hZs : szB s ≤ 1048576) (hF : fineB s) (hT : ArgsAt w Vt t.args) (hZ : t.sz ≤ 1048576) :
    Calls Try.prog 11 #[Vs, .slice none 0 0, .agg #[.int .i64 t.kind, .int .i64 t.num, .string t.name, Vt], .int .i64 k] w (NewDK (adVK s [] t ⟨0, k⟩) w) := by
  obtain ⟨ta, tc, rfl⟩ := hT.slice
  have hb0 : Below w.heap.size w (w.alloc (.cells #[.int .i64 t.kind, .int .i64 t.num, .string t.name, .slice ta t.args.length tc] 28)) := belowAlloc (Below.refl _ _) _
  have HC := Lib.hid (kdAdded_any [] (.slice none 0 0) s Vs t (.slice ta t.args.length tc) ⟨0, k⟩ (w.alloc (.cells #[.int .i64 t.kind, .int .i64 t.num, .string t.name, .slice ta t.args.length tc] 28)) (.nil _ _) (.inl ⟨rfl, rfl⟩) (Nat.zero_le _) (hS.kept hb0) hZs hF (hT.kept hb0) hZ)
  have HW := Lib.hid hb0
  generalize adVK s [] t ⟨0, k⟩ = R at HC ⊢
  clear hS hF hT hb0
  go_enter Try.func11, Try.ntmps11
  go_wp2_with fail
  refine HC.out.mono ?_
  rintro e w1 ⟨v, rfl, hv, hc, hb⟩
  have HV := Lib.hid hv
  have HCL := Lib.hid hc
  have HB := Lib.hid (HW.out.trans (hb.mono HW.out.size))
  have HZ := Lib.hid HW.out.size
  clear hv hc hb HC
  go_wp2
  go_ret2
  exact ⟨_, rfl, HV.out.sub fun k hk => ⟨Nat.le_trans HZ.out hk.1, hk.2⟩, HCL.out, HB.out⟩
set_option maxRecDepth 100000 in
set_option maxHeartbeats 2000000 in
theorem refreshK_any (s : List Bd) (Vs : Value) (l : List Kd) (Vl : Value) (w : World) (hS : ListS bdE w Any Vs s) (hZs : szB s ≤ 1048576) (hF : fineB s) (hA : ListS kdE w Any Vl l) (hC : CapL Vl l.length) (hL : l.length ≤ 1048577) :
    Calls Try.prog 16 #[Vs, Vl] w (NewDK (rfVK s l) w) := by
  have HC := Lib.hid (kdRefreshed_any l Vl s Vs w hA hC hL hS hZs hF)
  generalize rfVK s l = R at HC ⊢
  clear hS hF hA hC
  go_enter Try.func16, Try.ntmps16
  go_wp2_with fail
  refine HC.out.mono ?_
  rintro e w1 ⟨v, rfl, hv, hc, hb⟩
  have HV := Lib.hid hv
  have HCL := Lib.hid hc
  have HB := Lib.hid hb
  clear hv hc hb HC
  go_wp2
  go_ret2
  exact ⟨_, rfl, HV.out, HCL.out, HB.out⟩

/-! ### The laws' own test -/
theorem fieldKind (t : Tm) (V : Value) (W : World) : (Instr.field 28 (.agg #[.int .i64 t.kind, .int .i64 t.num, .string t.name, V]) 0).run Try.prog W = .ok (.int .i64 t.kind) W := by kernel_rfl
set_option maxRecDepth 100000 in
set_option maxHeartbeats 4000000 in
theorem kinds_any (g : List Bd) (l : List Kd) (Vg Vl : Value) (w : World) (hG : ListS bdE w Any Vg g) (hA : ListS kdE w Any Vl l) (hg : g.length ≤ 1048576) (hl : l.length ≤ 1048577) (hv : ∀ d ∈ l, Good (varTm d.v) ∧ (putT g (varTm d.v)).sz ≤ 1048576) :
    Calls Try.prog 14 #[Vl, Vg] w fun e w' => e = .returned (.bool (kdHB g l)) ∧ Below w.heap.size w w' := by
  obtain ⟨la, lc, rfl⟩ := hA.slice
  obtain ⟨ga, gc, rfl⟩ := hG.slice
  have HA := Lib.hid hA
  have HG := Lib.hid hG
  have HV := Lib.hid hv
  have HNO : Hid (∀ (i : Nat) (d : Kd), l[i]? = some d → ((putT g (varTm d.v)).kind == d.k) = false → kdHB g l = false) := Lib.hid fun i d hi h => by
    rw [Bool.eq_false_iff]
    intro hh
    have := List.all_eq_true.1 hh d (List.mem_of_getElem? hi)
    rw [h] at this
    cases this
  have HYES : Hid ((∀ (i : Nat) (d : Kd), i < l.length → l[i]? = some d → ((putT g (varTm d.v)).kind == d.k) = true) → kdHB g l = true) := Lib.hid fun h => List.all_eq_true.2 fun d hd => by
    obtain ⟨i, hi⟩ := List.getElem?_of_mem hd
    exact h i d (List.getElem?_eq_some_iff.1 hi).1 hi
  generalize kdHB g l = r at HNO HYES ⊢
  clear hA hG hv
  go_enter Try.func14, Try.ntmps14
  go_wp2
  go_loopw [9] (fun iv wr => ∃ (k : Nat), iv = .int .i64 k ∧ k ≤ l.length ∧ Hid (∀ (i : Nat) (d : Kd), i < k → l[i]? = some d → ((putT g (varTm d.v)).kind == d.k) = true) ∧ Hid (Below w.heap.size w wr)) (fun iv _ => l.length - (intOf iv).toNat)
  case atStart => exact ⟨0, rfl, Nat.zero_le _, Lib.hid (fun i d hi => absurd hi (Nat.not_lt_zero _)), Lib.hid (Below.refl _ _)⟩
  case round =>
    obtain ⟨k, rfl, hk, HP, HWr⟩ := hrel
    by_cases hlt : k < l.length
    · have hltI : (k : Int) < (l.length : Int) := by omega
      obtain ⟨x, hx⟩ : ∃ x, l[k]? = some x := ⟨_, List.getElem?_eq_getElem hlt⟩
      obtain ⟨g', off, rfl, hg', hq, hc⟩ := HA.out.kd hx
      obtain ⟨d0, d1⟩ := hc wr HWr.out
      have HX := Lib.hid hx
      have HXV := Lib.hid (HV.out x (List.mem_of_getElem? hx))
      clear hx hq hc
      go_upto_region 4 with (fail)
      have HBX := Lib.hid (at_box_of wr #[.int .i64 x.v, .int .i64 x.k] 39 wr.heap.size rfl)
      have hal : Below wr.heap.size wr (wr.alloc (.cells #[.int .i64 x.v, .int .i64 x.k] 39)) := belowAlloc (Below.refl _ _) _
      have HW1 := Lib.hid (belowOn HWr.out (Nat.le_refl _) hal)
      clear hal d0 d1 HWr
      generalize hw1 : wr.alloc (.cells #[.int .i64 x.v, .int .i64 x.k] 39) = w1 at HBX HW1 ⊢
      clear hw1
      generalize wr.heap.size = nb at HBX ⊢
      have hself : Below w1.heap.size w1 w1 := Below.refl _ _
      have hdrew : Below w1.heap.size w1 w1.drew := hself.drew
      have HTR : Hid (∀ a b, Below w1.heap.size w1 a → Below a.heap.size a b → Below w1.heap.size w1 b) := Lib.hid fun a b h1 h2 => belowOn h1 (Nat.le_refl _) h2
      have HCB : Hid (∀ W, Below w1.heap.size w1 W → W.cell? ⟨nb, 0, none⟩ = some (.int .i64 x.v) ∧ W.cell? ⟨nb, 1, none⟩ = some (.int .i64 x.k)) := Lib.hid fun W hW => by
        obtain ⟨y0, y1, _⟩ := box_cells2kd (HBX.out.read hW).now
        exact ⟨y0, y1⟩
      have HM1 : Hid (∀ W, Below w1.heap.size w1 W → Calls Try.prog 12 #[.agg #[.int .i64 1, .int .i64 x.v, .string ⟨#[]⟩, .slice none 0 0], .slice ga g.length gc] W (ValT (putT g (varTm x.v)) W)) := Lib.hid fun W hW => makeValue_any g (varTm x.v) _ (.slice none 0 0) W hg (HG.out.kept (belowOn HW1.out (Nat.le_refl _) hW)) (.nil _ _) (by rw [varTm, Tm.sz, szL]; decide) HXV.out.1 HXV.out.2
      have HKD := Lib.hid (And.intro (HNO.out k x HX.out) (show ((putT g (varTm x.v)).kind == x.k) = true → ((putT g (varTm x.v)).kind == x.k) = true from id))
      generalize hp : putT g (varTm x.v) = p at HM1 HKD
      have HPP := Lib.hid hp
      clear hp
      have hfk := fieldKind p
      obtain ⟨e0, e1⟩ := HCB.out w1 hself
      clear HBX HA
      go_region_held3 (fun w' => w'.cell? ⟨nb, 0, none⟩ = some (.int .i64 x.v) ∧ w'.cell? ⟨nb, 1, none⟩ = some (.int .i64 x.k)) (go_keep)
        (first
        | (go_at_call 12; (with_reducible refine Calls.mono (HM1.out _ ?_) ?_); (assumption); rintro e wX ⟨xa, xc, rfl, hxa, hb⟩; have hB' := HTR.out _ _ (by assumption) hb; have HZB := Lib.hid hB'; obtain ⟨k0, k1⟩ := HCB.out _ hB'; clear hxa hb))
      all_goals
        have HEND := Lib.hid (belowOn HW1.out (Nat.le_refl _) HZB.out)
        cases hpq : (p.kind == x.k) with
        | false =>
          obtain rfl := HKD.out.1 hpq
          have hpn : ¬ p.kind = x.k := by rwa [beq_eq_false_iff_ne] at hpq
          go_wp2
          go_ret
          exact ⟨rfl, HEND.out⟩
        | true =>
          have HNX : Hid (((putT g (varTm x.v)).kind == x.k) = true) := Lib.hid (by rw [HPP.out]; exact hpq)
          have hpn : p.kind = x.k := by rwa [beq_iff_eq] at hpq
          go_wp2
          go_roundw
          case rel =>
            refine ⟨k + 1, by go_num, by omega, Lib.hid fun i z hi hz => ?_, HEND⟩
            by_cases q : i = k
            · subst q
              cases hz.symm.trans HX.out
              exact HNX.out
            · exact HP.out i z (by omega) hz
          case measure => simp [intOf]; omega
    · obtain rfl : k = l.length := by omega
      obtain rfl := HYES.out HP.out
      go_wp2
      go_ret
      exact ⟨rfl, HWr.out⟩
end Go.Proofs.Ytnmdnajbafpfiaa
