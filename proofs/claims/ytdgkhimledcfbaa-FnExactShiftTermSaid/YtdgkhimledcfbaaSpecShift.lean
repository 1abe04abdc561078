/-
  The model's l07Shift and ShiftTerm. (Written by wip/tools/gen_shift.py.)
-/
import Derived.Test.YtdgkhimledcfbaaNameP
import Derived.Test.YtdgkhimledcfbaaPuts
namespace Go.Proofs.Ytdgkhimledcfbaa
open Go.RowKit
set_option linter.unusedVariables false
set_option linter.unusedSimpArgs false

def addT (n : Int) (t : Tm) : Tm := renT (fun v => v + n) t
theorem wrap_of {x : Int} (h1 : -9223372036854775808 ≤ x) (h2 : x ≤ 9223372036854775807) : IntKind.i64.wrap x = x := IntWalk.i64_in _ (by omega)

set_option maxRecDepth 100000 in
set_option maxHeartbeats 4000000 in
theorem specShift_any (n : Int) (N : Nat) : ∀ (t : Tm) (V : Value) (S : Nat → Prop) (w : World), t.nodes < N → (∀ k, S k → k < w.heap.size) → ArgsS w S V t.args → t.sz ≤ 1048576 → Good t → (∀ v ∈ t.vl, -1000000000 ≤ v + n ∧ v + n ≤ 1000000000) →
    Calls Try.prog 78 #[.agg #[.int .i64 t.kind, .int .i64 t.num, .string t.name, V], .int .i64 n] w (OldS S (addT n t) w) := by
  induction N with
  | zero => intro t V S w hN; omega
  | succ N ih =>
    intro t V S w hN hSB hA hZ hG hV
    obtain ⟨aa, ca, rfl⟩ := hA.at.slice
    obtain ⟨r, hr⟩ : ∃ r, r = addT n t := ⟨_, rfl⟩
    rw [← hr]
    have HQ := Lib.hid hr
    have HI := Lib.hid ih
    have HG := Lib.hid hG
    have HV := Lib.hid hV
    have HS := Lib.hid (sz_eq t)
    have HNE := Lib.hid (nodes_eq t)
    have HSB := Lib.hid hSB
    have HA := Lib.hid hA
    have HW : Hid (Below w.heap.size w w) := Lib.hid (Below.refl _ _)
    clear hA ih hG hr hSB hV
    have hal : Below w.heap.size w (w.alloc (.cells #[.int .i64 t.kind, .int .i64 t.num, .string t.name, .slice aa t.args.length ca] 25)) := (Below.refl _ _).alloc (Nat.le_refl _) _
    replace HA := Lib.hid (HA.out.kept hal)
    replace HW := Lib.hid (belowOn HW.out (Nat.le_refl _) hal)
    have HX := Lib.hid (at_box_of w #[.int .i64 t.kind, .int .i64 t.num, .string t.name, .slice aa t.args.length ca] 25 (w.heap.size) (by simp))
    clear hal
    have hal : Below (w.alloc (.cells #[.int .i64 t.kind, .int .i64 t.num, .string t.name, .slice aa t.args.length ca] 25)).heap.size (w.alloc (.cells #[.int .i64 t.kind, .int .i64 t.num, .string t.name, .slice aa t.args.length ca] 25)) ((w.alloc (.cells #[.int .i64 t.kind, .int .i64 t.num, .string t.name, .slice aa t.args.length ca] 25)).alloc (.cells #[.int .i64 0, .int .i64 0, .string ⟨#[]⟩, .slice none 0 0] 25)) := (Below.refl _ _).alloc (Nat.le_refl _) _
    replace HA := Lib.hid (HA.out.kept hal)
    replace HX := Lib.hid (HX.out.read hal)
    replace HW := Lib.hid (belowOn HW.out (Nat.le_refl _) hal)
    have HR := Lib.hid (at_box_of (w.alloc (.cells #[.int .i64 t.kind, .int .i64 t.num, .string t.name, .slice aa t.args.length ca] 25)) #[.int .i64 0, .int .i64 0, .string ⟨#[]⟩, .slice none 0 0] 25 (w.heap.size + 1) (by simp))
    clear hal
    go_enter Try.func78, Try.ntmps78
    go_upto_region 1 with (fail)
    generalize hw0 : (w.alloc (.cells #[.int .i64 t.kind, .int .i64 t.num, .string t.name, .slice aa t.args.length ca] 25)).alloc (.cells #[.int .i64 0, .int .i64 0, .string ⟨#[]⟩, .slice none 0 0] 25) = w0 at HA HX HR HW ⊢
    clear hw0
    obtain ⟨c0a, c0b, c0c, c0d⟩ := HX.out.cells
    have z0 := HX.out.le
    by_cases hv : t.kind = 1
    · have k1 : (t.kind == 1) = true := by rw [hv]; rfl
      have HQV : Hid (r = .mk 1 (t.num + n) ⟨#[]⟩ []) := Lib.hid (by rw [HQ.out]; exact ren_var HG.out hv)
      have HRQ : Hid (w.heap.size + 1 < w0.heap.size) := Lib.hid (by have := HR.out.le; omega)
      have hvr := HV.out t.num (by rw [vl_of_var hv]; exact List.mem_cons_self ..)
      have hwr : IntKind.i64.wrap (t.num + n) = t.num + n := wrap_of (by omega) (by omega)
      have HC := Lib.hid (var_any (t.num + n) w0)
      clear hv
      go_wp2_with fail
      refine HC.out.mono ?_
      rintro e w1 ⟨rfl, hb⟩
      have HB1 := Lib.hid hb
      replace HR := Lib.hid (HR.out.read hb)
      clear hb HC c0a c0b c0c c0d
      have HRE := Lib.hid HR.out.now
      obtain ⟨r0, r1, r2, r3, rf⟩ := box_cells HR.out.now
      go_wp2
      exact oldS_end (p := 4) (b := w.heap.size + 1) (W := w0) (by rw [HQV.out]; rfl) (by rw [HQV.out]; rfl) (by rw [HQV.out]; rfl) rfl rfl rfl Try.underlying25 (by kernel_rfl) HRE.out HSB.out HW.out HB1.out (by omega) HRQ.out (by rw [HQV.out]; exact .nil _ _)
    · by_cases hk : t.kind = 4
      · obtain ⟨x, y, hxy⟩ := HG.out.fit.pair hk
        obtain ⟨ga, offa, u1, u2, v1, v2, rfl, hga, hla, hcx, hcy, hax, hay⟩ := HA.out.two hxy
        have HGA : Hid (ga < w.heap.size) := Lib.hid (by
          obtain ⟨g, off, n, cap, hv, hS⟩ := HA.out.root (by rw [hxy]; simp)
          simp only [Value.slice.injEq, Option.some.injEq, Addr.mk.injEq] at hv
          obtain ⟨⟨rfl, _⟩, _⟩ := hv
          exact HSB.out _ hS)
        have HLA := Lib.hid hla
        have HPA := Lib.hid (And.intro hcx (And.intro hcy (And.intro hax hay)))
        have HGX := Lib.hid ((good_two HG.out.fit hxy).1 HG.out)
        have HNX : Hid (nodesL t.args = x.nodes + y.nodes ∧ szL t.args = 2 + x.sz + y.sz ∧ 1 ≤ x.nodes ∧ 1 ≤ y.nodes) := Lib.hid (by
          rw [hxy]; simp only [nodesL, szL]; have := nodes_pos x; have := nodes_pos y; omega)
        have ht : t = .mk 4 0 ⟨#[]⟩ [x, y] := by
          obtain ⟨h1, h2⟩ := pair_fields HG.out hk
          rw [← Tm.eta t, hk, h1, h2, hxy]
        have HVL : Hid ((∀ v ∈ x.vl, -1000000000 ≤ v + n ∧ v + n ≤ 1000000000) ∧ ∀ v ∈ y.vl, -1000000000 ≤ v + n ∧ v + n ≤ 1000000000) := Lib.hid ⟨fun v hv => HV.out v (by rw [ht, vl_pair]; exact List.mem_append_left _ hv), fun v hv => HV.out v (by rw [ht, vl_pair]; exact List.mem_append_right _ hv)⟩
        have HQV : Hid (r.kind = 4 ∧ r.num = 0 ∧ r.name = ⟨#[]⟩ ∧ r.args = [addT n x, addT n y]) := Lib.hid (by rw [HQ.out, ht]; unfold addT; rw [ren_pair]; exact ⟨rfl, rfl, rfl, rfl⟩)
        rw [hk] at c0a
        have k1 : ((4 : Int) == 1) = false := rfl
        clear hxy hga hla hcx hcy hax hay hk hv ht
        have hself : Below w0.heap.size w0 w0 := Below.refl _ _
        have hdrew : Below w0.heap.size w0 w0.drew := hself.drew
        have HCE : Hid (∀ W, Below w0.heap.size w0 W → W.cell? ⟨w.heap.size, 3, none⟩ = some (.slice (some ⟨ga, offa, none⟩) t.args.length ca) ∧ W.cell? ⟨ga, offa, none⟩ = some (.int .i64 x.kind) ∧ W.cell? ⟨ga, offa + 1, none⟩ = some (.int .i64 x.num) ∧ W.cell? ⟨ga, offa + 2, none⟩ = some (.string x.name) ∧ W.cell? ⟨ga, offa + 3, none⟩ = some (.slice u1 x.args.length u2) ∧ W.cell? ⟨ga, offa + 4, none⟩ = some (.int .i64 y.kind) ∧ W.cell? ⟨ga, offa + 4 + 1, none⟩ = some (.int .i64 y.num) ∧ W.cell? ⟨ga, offa + 4 + 2, none⟩ = some (.string y.name) ∧ W.cell? ⟨ga, offa + 4 + 3, none⟩ = some (.slice v1 y.args.length v2)) := Lib.hid fun W hW => by
          obtain ⟨y0a, y0b, y0c, y0d⟩ := (HX.out.read hW).cells
          obtain ⟨d0, d1, d2, d3⟩ := HPA.out.1 W hW
          obtain ⟨e0, e1, e2, e3⟩ := HPA.out.2.1 W hW
          exact ⟨y0d, d0, d1, d2, d3, e0, e1, e2, e3⟩
        obtain ⟨k0, k1, k2, k3, k4, k5, k6, k7, k8⟩ := HCE.out w0 hself
        have HTR : Hid (∀ a b, Below w0.heap.size w0 a → Below a.heap.size a b → Below w0.heap.size w0 b) := Lib.hid fun a b h1 h2 => belowOn h1 (Nat.le_refl _) h2
        have HC0 : Hid (∀ W, Below w0.heap.size w0 W → Calls Try.prog 78 #[.agg #[.int .i64 x.kind, .int .i64 x.num, .string x.name, .slice u1 x.args.length u2], .int .i64 n] W fun e w' => ∃ u, e = .returned (.agg #[.int .i64 (addT n x).kind, .int .i64 (addT n x).num, .string (addT n x).name, u]) ∧ ArgsS w' (fun k => S k ∨ (w0.heap.size ≤ k ∧ k < w'.heap.size)) u (addT n x).args ∧ Below W.heap.size W w') := Lib.hid fun W hW =>
          (HI.out x _ S W (by have := HNX.out; have := HNE.out; omega) (fun k hk => Nat.lt_of_lt_of_le (HSB.out k hk) (below3 HW.out hW).size) (HPA.out.2.2.1.kept hW) (by have := HNX.out; have := HS.out; omega) HGX.out.1 HVL.out.1).mono fun e w' h => h.from hW.size
        have HC1 : Hid (∀ W, Below w0.heap.size w0 W → Calls Try.prog 78 #[.agg #[.int .i64 y.kind, .int .i64 y.num, .string y.name, .slice v1 y.args.length v2], .int .i64 n] W fun e w' => ∃ u, e = .returned (.agg #[.int .i64 (addT n y).kind, .int .i64 (addT n y).num, .string (addT n y).name, u]) ∧ ArgsS w' (fun k => S k ∨ (w0.heap.size ≤ k ∧ k < w'.heap.size)) u (addT n y).args ∧ Below W.heap.size W w') := Lib.hid fun W hW =>
          (HI.out y _ S W (by have := HNX.out; have := HNE.out; omega) (fun k hk => Nat.lt_of_lt_of_le (HSB.out k hk) (below3 HW.out hW).size) (HPA.out.2.2.2.kept hW) (by have := HNX.out; have := HS.out; omega) HGX.out.2 HVL.out.2).mono fun e w' h => h.from hW.size
        have HRB : Hid (∀ W, Below w0.heap.size w0 W → W.heap[w.heap.size + 1]? = some (Obj.cells #[.int .i64 0, .int .i64 0, .string ⟨#[]⟩, .slice none 0 0] 25)) := Lib.hid fun W hW => (HR.out.read hW).now
        have HRL : Hid (w.heap.size ≤ w.heap.size + 1 ∧ w.heap.size + 1 < w0.heap.size) := Lib.hid ⟨by omega, by have := HR.out.le; omega⟩
        have ne1 : ¬ w.heap.size = w.heap.size + 1 := by omega
        have ne2 : ¬ w.heap.size + 1 = w.heap.size := by omega
        have ne3 : ¬ ga = w.heap.size + 1 := by have := HGA.out; omega
        have ne4 : ¬ w.heap.size + 1 = ga := by have := HGA.out; omega
        have hl2 : 1 < t.args.length := by have := HLA.out; omega
        have hl3 : (1 : Int) < (t.args.length : Int) := by omega
        have hl4 : (0 : Int) < (t.args.length : Int) := by omega
        have hl5 : 0 < t.args.length := by omega
        clear HA HX HR HI HPA
        go_upto_region 4 with (fail)
        clear c0a c0b c0c c0d
        go_region_held3 (fun w' => w'.cell? ⟨w.heap.size, 3, none⟩ = some (.slice (some ⟨ga, offa, none⟩) t.args.length ca) ∧ w'.cell? ⟨ga, offa, none⟩ = some (.int .i64 x.kind) ∧ w'.cell? ⟨ga, offa + 1, none⟩ = some (.int .i64 x.num) ∧ w'.cell? ⟨ga, offa + 2, none⟩ = some (.string x.name) ∧ w'.cell? ⟨ga, offa + 3, none⟩ = some (.slice u1 x.args.length u2) ∧ w'.cell? ⟨ga, offa + 4, none⟩ = some (.int .i64 y.kind) ∧ w'.cell? ⟨ga, offa + 4 + 1, none⟩ = some (.int .i64 y.num) ∧ w'.cell? ⟨ga, offa + 4 + 2, none⟩ = some (.string y.name) ∧ w'.cell? ⟨ga, offa + 4 + 3, none⟩ = some (.slice v1 y.args.length v2)) (go_keep)
          (first
            | (go_at_call 78; (with_reducible refine Calls.mono (HC0.out _ ?_) ?_); (assumption); rintro e wB ⟨u0, rfl, hn0, hb0⟩; have hB' := HTR.out _ _ (by assumption) hb0; obtain ⟨k0, k1, k2, k3, k4, k5, k6, k7, k8⟩ := HCE.out _ hB'; obtain ⟨a0, c0, rfl⟩ := hn0.at.slice; have HN0 := Lib.hid hn0; have HL0 := Lib.hid hB'.size; clear hn0)
            | (go_at_call 78; (with_reducible refine Calls.mono (HC1.out _ ?_) ?_); (assumption); rintro e wD ⟨u9, rfl, hn1, hb1⟩; have hD' := HTR.out _ _ (by assumption) hb1; obtain ⟨k0, k1, k2, k3, k4, k5, k6, k7, k8⟩ := HCE.out _ hD'; obtain ⟨a1, c1, rfl⟩ := hn1.at.slice; have HN1 := Lib.hid hn1; have HN2 := Lib.hid (HN0.out.kept hb1); have HL1 := Lib.hid hb1.size; clear hn1)
            | (go_at_call 85; (with_reducible refine Calls.mono (specPair_any _ _ _ _ _ _ _ _ _ _ _ _ _) ?_); rintro e wE ⟨gE, rfl, hg1, hg2, hgh, hbE⟩; have hE' := HTR.out _ _ (by assumption) hbE; obtain ⟨k0, k1, k2, k3, k4, k5, k6, k7, k8⟩ := HCE.out _ hE'; have HM0 := Lib.hid (HN2.out.kept hbE); have HM1 := Lib.hid (HN1.out.kept hbE); have HGH := Lib.hid hgh; have HGE := Lib.hid (And.intro hg1 (And.intro hg2 hbE.size)); have HE := Lib.hid hE'; have HRE := Lib.hid (HRB.out _ hE'); obtain ⟨r0, r1, r2, r3, rf⟩ := box_cells (HRB.out _ hE'); clear hg1 hg2 hgh hbE))
        all_goals (go_wp2_with fail; have HP := Lib.hid (argsS_pair (S := fun k => S k ∨ (w0.heap.size ≤ k ∧ k < _)) HGH.out HGE.out.2.1 (.inr ⟨by (have h1 := HGE.out; have h2 := HL0.out; have h3 := HL1.out; omega), HGE.out.2.1⟩) (HM0.out.sub fun k hk => hk.imp id fun h => ⟨h.1, by (have h1 := HGE.out; have h3 := HL1.out; have h4 := h.2; omega)⟩) (HM1.out.sub fun k hk => hk.imp id fun h => ⟨h.1, by (have h1 := HGE.out; have h4 := h.2; omega)⟩)); exact oldS_end (p := 4) (b := w.heap.size + 1) (W := w0) HQV.out.1 HQV.out.2.1 HQV.out.2.2.1 rfl rfl rfl Try.underlying25 (by kernel_rfl) HRE.out HSB.out HW.out HE.out HRL.out.1 HRL.out.2 (by rw [HQV.out.2.2.2]; exact HP.out))
      · have HQV : Hid (r = t) := Lib.hid (by rw [HQ.out]; exact ren_atom HG.out hv hk)
        have HRE := Lib.hid HR.out.now
        obtain ⟨r0, r1, r2, r3, rf⟩ := box_cells HR.out.now
        have z2 := HR.out.le
        have k1 : (t.kind == 1) = false := beq_eq_false_iff_ne.2 hv
        have k4 : (t.kind == 4) = false := beq_eq_false_iff_ne.2 hk
        clear hv hk
        go_wp2
        exact oldS_end (p := 4) (b := w.heap.size + 1) (W := w0) (by rw [HQV.out]) (by rw [HQV.out]) (by rw [HQV.out]) rfl rfl rfl Try.underlying25 (by kernel_rfl) HRE.out HSB.out HW.out (Below.refl _ _) (by omega) (by have := HR.out.le; omega) (by rw [HQV.out]; exact HA.out.sub fun k hk => .inl hk)

set_option maxRecDepth 100000 in
set_option maxHeartbeats 4000000 in
theorem specShiftTerm_any (t : Tm) (V : Value) (n : Int) (w : World) (hA : ArgsAt w V t.args) (hZ : t.sz ≤ 1048576) :
    Calls Try.prog 38 #[.agg #[.int .i64 t.kind, .int .i64 t.num, .string t.name, V], .int .i64 n] w (OldTm2 (shT t n) (shB t n) w) := by
  obtain ⟨aa, ca, rfl⟩ := hA.slice
  have HNO := Lib.hid (fun h => sh_no (t := t) (n := n) h)
  have HYES := Lib.hid (fun h => sh_yes (t := t) (n := n) h)
  generalize shT t n = r at HNO HYES ⊢
  generalize shB t n = c at HNO HYES ⊢
  have HAA := Lib.hid hA
  have HX := Lib.hid ((at_box w #[.int .i64 t.kind, .int .i64 t.num, .string t.name, .slice aa t.args.length ca] 25).read (belowAlloc (Below.refl _ _) (.cells #[.int .i64 0, .int .i64 0, .string ⟨#[]⟩, .slice none 0 0] 25)))
  have HR := Lib.hid (at_box_of (w.alloc (.cells #[.int .i64 t.kind, .int .i64 t.num, .string t.name, .slice aa t.args.length ca] 25)) #[.int .i64 0, .int .i64 0, .string ⟨#[]⟩, .slice none 0 0] 25 (w.heap.size + 1) (by simp))
  have HW : Hid (Below w.heap.size w ((w.alloc (.cells #[.int .i64 t.kind, .int .i64 t.num, .string t.name, .slice aa t.args.length ca] 25)).alloc (.cells #[.int .i64 0, .int .i64 0, .string ⟨#[]⟩, .slice none 0 0] 25))) := Lib.hid (belowAlloc (belowAlloc (Below.refl _ _) _) _)
  clear hA
  go_enter Try.func38, Try.ntmps38
  go_upto_region 1 with (fail)
  generalize hw0 : ((w.alloc (.cells #[.int .i64 t.kind, .int .i64 t.num, .string t.name, .slice aa t.args.length ca] 25)).alloc (.cells #[.int .i64 0, .int .i64 0, .string ⟨#[]⟩, .slice none 0 0] 25)) = w0 at HX HR HW ⊢
  clear hw0
  have HO := Lib.hid (specTermOk_any t _ w0 (HAA.out.kept HW.out) hZ)
  obtain ⟨c0a, c0b, c0c, c0d⟩ := HX.out.cells
  have z0 := HX.out.le
  go_wp2_with fail
  refine HO.out.mono ?_
  rintro e w1 ⟨rfl, hb⟩
  clear c0a c0b c0c c0d z0 HO
  replace HX := Lib.hid (HX.out.read hb)
  replace HR := Lib.hid (HR.out.read hb)
  replace HW := Lib.hid (belowOn HW.out (Nat.le_refl _) hb)
  clear hb
  cases hoa : okB t with
  | false =>
    have HNP : Hid (¬ ShP t n) := Lib.hid fun h => okB_false.1 hoa h.1
    clear hoa
    obtain ⟨rfl, rfl⟩ := HNO.out HNP.out
    have HRE := Lib.hid HR.out.now
    obtain ⟨r0, r1, r2, r3, rf⟩ := box_cells HR.out.now
    have zr := HR.out.le
    go_wp2
    exact oldTm2_end (t := zeroTm) (C := fun _ => False) (p := 4) (q := 5) (b := w.heap.size + 1) rfl rfl rfl rfl rfl rfl rfl Try.underlying25 (by kernel_rfl) HRE.out HW.out (by omega) id (fun k h => h.elim) (.nil _ _)
  | true =>
    have HOK := Lib.hid (okB_true.1 hoa)
    clear hoa
    by_cases hn0 : n < 0
    · have HNP : Hid (¬ ShP t n) := Lib.hid fun h => by have := h.2.1; omega
      obtain ⟨rfl, rfl⟩ := HNO.out HNP.out
      have HRE := Lib.hid HR.out.now
      obtain ⟨r0, r1, r2, r3, rf⟩ := box_cells HR.out.now
      have zr := HR.out.le
      go_wp2
      exact oldTm2_end (t := zeroTm) (C := fun _ => False) (p := 4) (q := 5) (b := w.heap.size + 1) rfl rfl rfl rfl rfl rfl rfl Try.underlying25 (by kernel_rfl) HRE.out HW.out (by omega) id (fun k h => h.elim) (.nil _ _)
    · have HN0 : Hid (0 ≤ n) := Lib.hid (by omega)
      by_cases hbig : 100000 < n
      · have HC := Lib.hid (specVars_any (t.nodes + 1) t _ w (.slice none 0 0) [] w1 (Nat.lt_succ_self _) HAA.out HW.out (Row.nil _ _ _) (by have := HOK.out.1; simp; omega) hZ)
        obtain ⟨c0a, c0b, c0c, c0d⟩ := HX.out.cells
        have z0 := HX.out.le
        go_wp2_with fail
        refine HC.out.mono ?_
        rintro e w2 ⟨vv, rfl, hr, hb⟩
        obtain ⟨va, vc, rfl⟩ := hr.slice
        replace HX := Lib.hid (HX.out.read hb)
        replace HR := Lib.hid (HR.out.read hb)
        replace HW := Lib.hid (belowOn HW.out (Nat.le_refl _) hb)
        clear hr hb HC c0a c0b c0c c0d z0
        by_cases hvl : t.vl = []
        · have hl0 : (t.vl.foldl insAsc []).length = 0 := by rw [hvl]; rfl
          have hlI : ¬ (0 : Int) < ((t.vl.foldl insAsc []).length : Int) := by omega
          have HVR : Hid (∀ v ∈ t.vl, -1000000000 ≤ v + n ∧ v + n ≤ 1000000000) := Lib.hid (by rw [hvl]; intro v hv; cases hv)
          clear hvl hl0
          have hzz : (addT n t).sz ≤ 1048576 := by unfold addT; rw [ren_sz HOK.out.2]; exact hZ
          have HSH := Lib.hid (specShift_any n (t.nodes + 1) t _ (fun k => k < w.heap.size) w2 (Nat.lt_succ_self _) (fun k hk => Nat.lt_of_lt_of_le hk HW.out.size) (HAA.out.inS.kept HW.out) hZ HOK.out.2 HVR.out)
          obtain ⟨c0a, c0b, c0c, c0d⟩ := HX.out.cells
          have z0 := HX.out.le
          go_wp2_with fail
          refine HSH.out.mono ?_
          rintro e w4 ⟨u, rfl, hu, hb⟩
          obtain ⟨ua, uc, rfl⟩ := hu.at.slice
          have HU := Lib.hid hu.at
          have HB4 := Lib.hid hb
          clear hu hb HSH c0a c0b c0c c0d z0
          replace HX := Lib.hid (HX.out.read HB4.out)
          replace HR := Lib.hid (HR.out.read HB4.out)
          replace HW := Lib.hid (belowOn HW.out (Nat.le_refl _) HB4.out)
          clear HB4
          go_upto_region 4 with (fail)
          have hal : Below w4.heap.size w4 (w4.alloc (.cells #[.int .i64 (addT n t).kind, .int .i64 (addT n t).num, .string (addT n t).name, .slice ua (addT n t).args.length uc] 25)) := belowAlloc (Below.refl _ _) _
          have HY := Lib.hid (at_box_of w4 #[.int .i64 (addT n t).kind, .int .i64 (addT n t).num, .string (addT n t).name, .slice ua (addT n t).args.length uc] 25 w4.heap.size rfl)
          replace HX := Lib.hid (HX.out.read hal)
          replace HR := Lib.hid (HR.out.read hal)
          replace HW := Lib.hid (belowOn HW.out (Nat.le_refl _) hal)
          replace HU := Lib.hid (HU.out.kept hal)
          clear hal
          generalize hw5 : w4.alloc (.cells #[.int .i64 (addT n t).kind, .int .i64 (addT n t).num, .string (addT n t).name, .slice ua (addT n t).args.length uc] 25) = w5 at HY HX HR HW HU ⊢
          clear hw5
          generalize w4.heap.size = n4 at HY ⊢
          have HO2 := Lib.hid (specTermOk_any (addT n t) _ w5 HU.out hzz)
          obtain ⟨c0a, c0b, c0c, c0d⟩ := HY.out.cells
          have z0 := HY.out.le
          go_wp2_with fail
          refine HO2.out.mono ?_
          rintro e w6 ⟨rfl, hb⟩
          clear c0a c0b c0c c0d z0 HO2
          replace HY := Lib.hid (HY.out.read hb)
          replace HR := Lib.hid (HR.out.read hb)
          replace HW := Lib.hid (belowOn HW.out (Nat.le_refl _) hb)
          replace HU := Lib.hid (HU.out.kept hb)
          clear hb HX
          cases hoa2 : okB (addT n t) with
          | false =>
            have HNP : Hid (¬ ShP t n) := Lib.hid fun h => by
              have := okB_true.2 (sh_ok h)
              unfold addT at hoa2
              rw [this] at hoa2
              cases hoa2
            clear hoa2
            obtain ⟨rfl, rfl⟩ := HNO.out HNP.out
            have HRE := Lib.hid HR.out.now
            obtain ⟨r0, r1, r2, r3, rf⟩ := box_cells HR.out.now
            have zr := HR.out.le
            go_wp2
            exact oldTm2_end (t := zeroTm) (C := fun _ => False) (p := 4) (q := 5) (b := w.heap.size + 1) rfl rfl rfl rfl rfl rfl rfl Try.underlying25 (by kernel_rfl) HRE.out HW.out (by omega) id (fun k h => h.elim) (.nil _ _)
          | true =>
            have HSP : Hid (ShP t n) := Lib.hid ⟨HOK.out, HN0.out, fun v hv => (ren_good_inv HOK.out.2 (okB_true.1 hoa2).2 v hv).2⟩
            obtain ⟨hr, rfl⟩ := HYES.out HSP.out
            have HRR : Hid (r = addT n t) := Lib.hid hr
            clear hoa2 hr HNO HYES
            have HC := Lib.hid (specCopy_any ((addT n t).nodes + 1) (addT n t) _ w6 (Nat.lt_succ_self _) HU.out (by omega))
            obtain ⟨c0a, c0b, c0c, c0d⟩ := HY.out.cells
            have z0 := HY.out.le
            go_wp2_with fail
            refine HC.out.mono ?_
            rintro e w7 ⟨u, rfl, hu, hb⟩
            obtain ⟨va, vc, rfl⟩ := hu.at.slice
            have HV := Lib.hid hu
            have HRE := Lib.hid (HR.out.read hb).now
            obtain ⟨r0, r1, r2, r3, rf⟩ := box_cells (HR.out.read hb).now
            have HZ7 : Hid (w.heap.size + 1 < w6.heap.size ∧ w.heap.size ≤ w6.heap.size) := Lib.hid ⟨by have := HR.out.le; omega, HW.out.size⟩
            replace HW := Lib.hid (belowOn HW.out (Nat.le_refl _) hb)
            clear hu hb HC c0a c0b c0c c0d z0
            go_wp2
            exact oldTm2_end (t := r) (C := iv w6.heap.size w7.heap.size) (p := 4) (q := 5) (b := w.heap.size + 1) (by rw [HRR.out]) (by rw [HRR.out]) (by rw [HRR.out]) rfl rfl rfl rfl Try.underlying25 (by kernel_rfl) HRE.out HW.out (by omega) (fun h => by have := h.1; have := HZ7.out.1; omega) (fun k h => ⟨Nat.le_trans HZ7.out.2 h.1, h.2⟩) (by rw [HRR.out]; exact HV.out)
        · have hl0 : 0 < (t.vl.foldl insAsc []).length := by
            obtain ⟨v, hv⟩ := List.exists_mem_of_ne_nil _ hvl
            exact List.length_pos_of_mem (((insL_spec t.vl [] List.Pairwise.nil).2 v).2 (.inr hv))
          have hlI : (0 : Int) < ((t.vl.foldl insAsc []).length : Int) := by omega
          have HNP : Hid (¬ ShP t n) := Lib.hid fun h => by
            obtain ⟨v, hv⟩ := List.exists_mem_of_ne_nil _ hvl
            have h1 := h.2.2 v hv
            have h2 := (good_vrange HOK.out.2 v hv).1
            omega
          clear hvl hl0
          obtain ⟨rfl, rfl⟩ := HNO.out HNP.out
          have HRE := Lib.hid HR.out.now
          obtain ⟨r0, r1, r2, r3, rf⟩ := box_cells HR.out.now
          have zr := HR.out.le
          go_wp2
          exact oldTm2_end (t := zeroTm) (C := fun _ => False) (p := 4) (q := 5) (b := w.heap.size + 1) rfl rfl rfl rfl rfl rfl rfl Try.underlying25 (by kernel_rfl) HRE.out HW.out (by omega) id (fun k h => h.elim) (.nil _ _)
      · have HVR : Hid (∀ v ∈ t.vl, -1000000000 ≤ v + n ∧ v + n ≤ 1000000000) := Lib.hid fun v hv => by
          have := good_vrange HOK.out.2 v hv
          have := HN0.out
          omega
        have hzz : (addT n t).sz ≤ 1048576 := by unfold addT; rw [ren_sz HOK.out.2]; exact hZ
        have HSH := Lib.hid (specShift_any n (t.nodes + 1) t _ (fun k => k < w.heap.size) w1 (Nat.lt_succ_self _) (fun k hk => Nat.lt_of_lt_of_le hk HW.out.size) (HAA.out.inS.kept HW.out) hZ HOK.out.2 HVR.out)
        obtain ⟨c0a, c0b, c0c, c0d⟩ := HX.out.cells
        have z0 := HX.out.le
        go_wp2_with fail
        refine HSH.out.mono ?_
        rintro e w4 ⟨u, rfl, hu, hb⟩
        obtain ⟨ua, uc, rfl⟩ := hu.at.slice
        have HU := Lib.hid hu.at
        have HB4 := Lib.hid hb
        clear hu hb HSH c0a c0b c0c c0d z0
        replace HX := Lib.hid (HX.out.read HB4.out)
        replace HR := Lib.hid (HR.out.read HB4.out)
        replace HW := Lib.hid (belowOn HW.out (Nat.le_refl _) HB4.out)
        clear HB4
        go_upto_region 4 with (fail)
        have hal : Below w4.heap.size w4 (w4.alloc (.cells #[.int .i64 (addT n t).kind, .int .i64 (addT n t).num, .string (addT n t).name, .slice ua (addT n t).args.length uc] 25)) := belowAlloc (Below.refl _ _) _
        have HY := Lib.hid (at_box_of w4 #[.int .i64 (addT n t).kind, .int .i64 (addT n t).num, .string (addT n t).name, .slice ua (addT n t).args.length uc] 25 w4.heap.size rfl)
        replace HX := Lib.hid (HX.out.read hal)
        replace HR := Lib.hid (HR.out.read hal)
        replace HW := Lib.hid (belowOn HW.out (Nat.le_refl _) hal)
        replace HU := Lib.hid (HU.out.kept hal)
        clear hal
        generalize hw5 : w4.alloc (.cells #[.int .i64 (addT n t).kind, .int .i64 (addT n t).num, .string (addT n t).name, .slice ua (addT n t).args.length uc] 25) = w5 at HY HX HR HW HU ⊢
        clear hw5
        generalize w4.heap.size = n4 at HY ⊢
        have HO2 := Lib.hid (specTermOk_any (addT n t) _ w5 HU.out hzz)
        obtain ⟨c0a, c0b, c0c, c0d⟩ := HY.out.cells
        have z0 := HY.out.le
        go_wp2_with fail
        refine HO2.out.mono ?_
        rintro e w6 ⟨rfl, hb⟩
        clear c0a c0b c0c c0d z0 HO2
        replace HY := Lib.hid (HY.out.read hb)
        replace HR := Lib.hid (HR.out.read hb)
        replace HW := Lib.hid (belowOn HW.out (Nat.le_refl _) hb)
        replace HU := Lib.hid (HU.out.kept hb)
        clear hb HX
        cases hoa2 : okB (addT n t) with
        | false =>
          have HNP : Hid (¬ ShP t n) := Lib.hid fun h => by
            have := okB_true.2 (sh_ok h)
            unfold addT at hoa2
            rw [this] at hoa2
            cases hoa2
          clear hoa2
          obtain ⟨rfl, rfl⟩ := HNO.out HNP.out
          have HRE := Lib.hid HR.out.now
          obtain ⟨r0, r1, r2, r3, rf⟩ := box_cells HR.out.now
          have zr := HR.out.le
          go_wp2
          exact oldTm2_end (t := zeroTm) (C := fun _ => False) (p := 4) (q := 5) (b := w.heap.size + 1) rfl rfl rfl rfl rfl rfl rfl Try.underlying25 (by kernel_rfl) HRE.out HW.out (by omega) id (fun k h => h.elim) (.nil _ _)
        | true =>
          have HSP : Hid (ShP t n) := Lib.hid ⟨HOK.out, HN0.out, fun v hv => (ren_good_inv HOK.out.2 (okB_true.1 hoa2).2 v hv).2⟩
          obtain ⟨hr, rfl⟩ := HYES.out HSP.out
          have HRR : Hid (r = addT n t) := Lib.hid hr
          clear hoa2 hr HNO HYES
          have HC := Lib.hid (specCopy_any ((addT n t).nodes + 1) (addT n t) _ w6 (Nat.lt_succ_self _) HU.out (by omega))
          obtain ⟨c0a, c0b, c0c, c0d⟩ := HY.out.cells
          have z0 := HY.out.le
          go_wp2_with fail
          refine HC.out.mono ?_
          rintro e w7 ⟨u, rfl, hu, hb⟩
          obtain ⟨va, vc, rfl⟩ := hu.at.slice
          have HV := Lib.hid hu
          have HRE := Lib.hid (HR.out.read hb).now
          obtain ⟨r0, r1, r2, r3, rf⟩ := box_cells (HR.out.read hb).now
          have HZ7 : Hid (w.heap.size + 1 < w6.heap.size ∧ w.heap.size ≤ w6.heap.size) := Lib.hid ⟨by have := HR.out.le; omega, HW.out.size⟩
          replace HW := Lib.hid (belowOn HW.out (Nat.le_refl _) hb)
          clear hu hb HC c0a c0b c0c c0d z0
          go_wp2
          exact oldTm2_end (t := r) (C := iv w6.heap.size w7.heap.size) (p := 4) (q := 5) (b := w.heap.size + 1) (by rw [HRR.out]) (by rw [HRR.out]) (by rw [HRR.out]) rfl rfl rfl rfl Try.underlying25 (by kernel_rfl) HRE.out HW.out (by omega) (fun h => by have := h.1; have := HZ7.out.1; omega) (fun k h => ⟨Nat.le_trans HZ7.out.2 h.1, h.2⟩) (by rw [HRR.out]; exact HV.out)
end Go.Proofs.Ytdgkhimledcfbaa

