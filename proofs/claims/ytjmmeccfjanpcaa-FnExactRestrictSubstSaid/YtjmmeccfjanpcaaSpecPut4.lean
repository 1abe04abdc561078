/-
  The model's l04Put: all variables replaced at once, what they are replaced by shared.
-/
import Derived.Test.YtjmmeccfjanpcaaSpecGet
import Derived.Test.YtjmmeccfjanpcaaPuts
namespace Go.Proofs.Ytjmmeccfjanpcaa
open Go.RowKit
set_option linter.unusedVariables false
set_option linter.unusedSimpArgs false

set_option maxRecDepth 100000 in
set_option maxHeartbeats 4000000 in
theorem specPut4_any (s : List Bd) (hL : s.length ≤ 1048576) (N : Nat) : ∀ (t : Tm) (Vs V : Value) (S : Nat → Prop) (w : World), t.nodes < N → (∀ k, S k → k < w.heap.size) → ListS bdE w S Vs s → ArgsS w S V t.args → t.sz ≤ 1048576 → Good t →
    Calls Try.prog 78 #[Vs, .agg #[.int .i64 t.kind, .int .i64 t.num, .string t.name, V]] w (OldS S (putT s t) w) := by
  induction N with
  | zero => intro t Vs V S w hN; omega
  | succ N ih =>
    intro t Vs V S w hN hSB hLS hA hZ hG
    obtain ⟨aa, ca, rfl⟩ := hA.at.slice
    obtain ⟨sa, sc, rfl⟩ := hLS.slice
    obtain ⟨r, hr⟩ : ∃ r, r = putT s t := ⟨_, rfl⟩
    rw [← hr]
    have HQ := Lib.hid hr
    have HI := Lib.hid ih
    have HG := Lib.hid hG
    have HS := Lib.hid (sz_eq t)
    have HNE := Lib.hid (nodes_eq t)
    have HSB := Lib.hid hSB
    have HA := Lib.hid hA
    have HLS := Lib.hid hLS
    have HW : Hid (Below w.heap.size w w) := Lib.hid (Below.refl _ _)
    clear hA ih hG hr hSB hLS
    have hal : Below w.heap.size w (w.alloc (.cells #[.int .i64 t.kind, .int .i64 t.num, .string t.name, .slice aa t.args.length ca] 31)) := (Below.refl _ _).alloc (Nat.le_refl _) _
    replace HA := Lib.hid (HA.out.kept hal)
    replace HLS := Lib.hid (HLS.out.kept hal)
    replace HW := Lib.hid (belowOn HW.out (Nat.le_refl _) hal)
    have HX := Lib.hid (at_box_of w #[.int .i64 t.kind, .int .i64 t.num, .string t.name, .slice aa t.args.length ca] 31 (w.heap.size) (by simp))
    clear hal
    have hal : Below (w.alloc (.cells #[.int .i64 t.kind, .int .i64 t.num, .string t.name, .slice aa t.args.length ca] 31)).heap.size (w.alloc (.cells #[.int .i64 t.kind, .int .i64 t.num, .string t.name, .slice aa t.args.length ca] 31)) ((w.alloc (.cells #[.int .i64 t.kind, .int .i64 t.num, .string t.name, .slice aa t.args.length ca] 31)).alloc (.cells #[.int .i64 0, .int .i64 0, .string ⟨#[]⟩, .slice none 0 0] 31)) := (Below.refl _ _).alloc (Nat.le_refl _) _
    replace HA := Lib.hid (HA.out.kept hal)
    replace HLS := Lib.hid (HLS.out.kept hal)
    replace HX := Lib.hid (HX.out.read hal)
    replace HW := Lib.hid (belowOn HW.out (Nat.le_refl _) hal)
    have HR := Lib.hid (at_box_of (w.alloc (.cells #[.int .i64 t.kind, .int .i64 t.num, .string t.name, .slice aa t.args.length ca] 31)) #[.int .i64 0, .int .i64 0, .string ⟨#[]⟩, .slice none 0 0] 31 (w.heap.size + 1) (by simp))
    clear hal
    go_enter Try.func78, Try.ntmps78
    go_upto_region 1 with (fail)
    generalize hw0 : (w.alloc (.cells #[.int .i64 t.kind, .int .i64 t.num, .string t.name, .slice aa t.args.length ca] 31)).alloc (.cells #[.int .i64 0, .int .i64 0, .string ⟨#[]⟩, .slice none 0 0] 31) = w0 at HA HLS HX HR HW ⊢
    clear hw0
    obtain ⟨c0a, c0b, c0c, c0d⟩ := HX.out.cells
    have z0 := HX.out.le
    by_cases hv : t.kind = 1
    · have k1 : (t.kind == 1) = true := by rw [hv]; rfl
      have k4 : (t.kind == 4) = false := by rw [hv]; rfl
      have HPV := Lib.hid (putT_var (s := s) hv)
      have HRQ : Hid (w.heap.size + 1 < w0.heap.size) := Lib.hid (by have := HR.out.le; omega)
      have HGET := Lib.hid (specGet_any s _ t.num S w0 HLS.out hL)
      clear hv
      go_wp2_with fail
      refine HGET.out.mono ?_
      rintro e w1 ⟨gu, rfl, hu, hb⟩
      obtain ⟨ga, gc, rfl⟩ := hu.at.slice
      have hal : Below w1.heap.size w1 (w1.alloc (.cells #[.int .i64 (getT s t.num).kind, .int .i64 (getT s t.num).num, .string (getT s t.num).name, .slice ga (getT s t.num).args.length gc] 31)) := belowAlloc (Below.refl _ _) _
      have HU := Lib.hid (hu.kept hal)
      have HBX := Lib.hid (at_box_of w1 #[.int .i64 (getT s t.num).kind, .int .i64 (getT s t.num).num, .string (getT s t.num).name, .slice ga (getT s t.num).args.length gc] 31 (w1.heap.size) rfl)
      have HB1 := Lib.hid (belowOn hb (Nat.le_refl _) hal)
      replace HX := Lib.hid ((HX.out.read hb).read hal)
      replace HR := Lib.hid ((HR.out.read hb).read hal)
      replace HA := Lib.hid ((HA.out.kept hb).kept hal)
      clear hu hb hal HGET c0a c0b c0c c0d
      go_upto_region 3 with (fail)
      generalize hw1 : w1.alloc (.cells #[.int .i64 (getT s t.num).kind, .int .i64 (getT s t.num).num, .string (getT s t.num).name, .slice ga (getT s t.num).args.length gc] 31) = w2 at HU HBX HB1 HX HR HA ⊢
      clear hw1
      have HRE := Lib.hid HR.out.now
      obtain ⟨r0, r1, r2, r3, rf⟩ := box_cells HR.out.now
      cases hg : getB s t.num with
      | true =>
        have HQV : Hid (r = getT s t.num) := Lib.hid (by
          rw [HQ.out, HPV.out]
          cases ho : getO s t.num with
          | none => rw [← getB_none, hg] at ho; cases ho
          | some x => rw [(get_yes ho).1])
        obtain ⟨b0, b1, b2, b3, _⟩ := box_cells HBX.out.now
        clear hg
        go_wp2
        exact oldS_end (p := 4) (b := w.heap.size + 1) (W := w0) (by rw [HQV.out]) (by rw [HQV.out]) (by rw [HQV.out]) rfl rfl rfl Try.underlying31 (by kernel_rfl) HRE.out HSB.out HW.out HB1.out (by omega) HRQ.out (by rw [HQV.out]; exact HU.out.sub fun k hk => .inl hk)
      | false =>
        have HQV : Hid (r = t) := Lib.hid (by rw [HQ.out, HPV.out, getB_none.1 hg])
        obtain ⟨c0a, c0b, c0c, c0d⟩ := HX.out.cells
        clear hg
        go_wp2
        exact oldS_end (p := 4) (b := w.heap.size + 1) (W := w0) (by rw [HQV.out]) (by rw [HQV.out]) (by rw [HQV.out]) rfl rfl rfl Try.underlying31 (by kernel_rfl) HRE.out HSB.out HW.out HB1.out (by omega) HRQ.out (by rw [HQV.out]; exact HA.out.sub fun k hk => .inl hk)
    · by_cases hk : t.kind = 4
      · obtain ⟨x, y, hxy⟩ := HG.out.fit.pair hk
        obtain ⟨ga, offa, u1, u2, v1, v2, rfl, hga, hla, hcx, hcy, hax, hay⟩ := HA.out.two hxy
        have HGA : Hid (ga < w.heap.size) := Lib.hid (by
          obtain ⟨g, off, n, cap, hv, hS⟩ := HA.out.root (by rw [hxy]; simp)
          simp only [Value.slice.injEq, Option.some.injEq, Addr.mk.injEq] at hv
          obtain ⟨⟨rfl, _⟩, _⟩ := hv
          exact HSB.out _ hS)
        have HLA := Lib.hid hla
        have HPA := Lib.hid (And.intro hcx (And.intro hcy (And.intro hax hay)))
        have HGX := Lib.hid ((good_two HG.out.fit hxy).1 HG.out)
        have HNX : Hid (nodesL t.args = x.nodes + y.nodes ∧ szL t.args = 2 + x.sz + y.sz ∧ 1 ≤ x.nodes ∧ 1 ≤ y.nodes) := Lib.hid (by
          rw [hxy]; simp only [nodesL, szL]; have := nodes_pos x; have := nodes_pos y; omega)
        have HQV : Hid (r.kind = 4 ∧ r.num = 0 ∧ r.name = ⟨#[]⟩ ∧ r.args = [putT s x, putT s y]) := Lib.hid (by rw [HQ.out, putT_two hk hxy]; exact ⟨rfl, rfl, rfl, rfl⟩)
        rw [hk] at c0a
        have k1 : ((4 : Int) == 1) = false := rfl
        clear hxy hga hla hcx hcy hax hay hk hv
        have hself : Below w0.heap.size w0 w0 := Below.refl _ _
        have hdrew : Below w0.heap.size w0 w0.drew := hself.drew
        have HCE : Hid (∀ W, Below w0.heap.size w0 W → W.cell? ⟨w.heap.size, 3, none⟩ = some (.slice (some ⟨ga, offa, none⟩) t.args.length ca) ∧ W.cell? ⟨ga, offa, none⟩ = some (.int .i64 x.kind) ∧ W.cell? ⟨ga, offa + 1, none⟩ = some (.int .i64 x.num) ∧ W.cell? ⟨ga, offa + 2, none⟩ = some (.string x.name) ∧ W.cell? ⟨ga, offa + 3, none⟩ = some (.slice u1 x.args.length u2) ∧ W.cell? ⟨ga, offa + 4, none⟩ = some (.int .i64 y.kind) ∧ W.cell? ⟨ga, offa + 4 + 1, none⟩ = some (.int .i64 y.num) ∧ W.cell? ⟨ga, offa + 4 + 2, none⟩ = some (.string y.name) ∧ W.cell? ⟨ga, offa + 4 + 3, none⟩ = some (.slice v1 y.args.length v2)) := Lib.hid fun W hW => by
          obtain ⟨y0a, y0b, y0c, y0d⟩ := (HX.out.read hW).cells
          obtain ⟨d0, d1, d2, d3⟩ := HPA.out.1 W hW
          obtain ⟨e0, e1, e2, e3⟩ := HPA.out.2.1 W hW
          exact ⟨y0d, d0, d1, d2, d3, e0, e1, e2, e3⟩
        obtain ⟨k0, k1, k2, k3, k4, k5, k6, k7, k8⟩ := HCE.out w0 hself
        have HTR : Hid (∀ a b, Below w0.heap.size w0 a → Below a.heap.size a b → Below w0.heap.size w0 b) := Lib.hid fun a b h1 h2 => belowOn h1 (Nat.le_refl _) h2
        have HC0 : Hid (∀ W, Below w0.heap.size w0 W → Calls Try.prog 78 #[.slice sa s.length sc, .agg #[.int .i64 x.kind, .int .i64 x.num, .string x.name, .slice u1 x.args.length u2]] W fun e w' => ∃ u, e = .returned (.agg #[.int .i64 (putT s x).kind, .int .i64 (putT s x).num, .string (putT s x).name, u]) ∧ ArgsS w' (fun k => S k ∨ (w0.heap.size ≤ k ∧ k < w'.heap.size)) u (putT s x).args ∧ Below W.heap.size W w') := Lib.hid fun W hW =>
          (HI.out x _ _ S W (by have := HNX.out; have := HNE.out; omega) (fun k hk => Nat.lt_of_lt_of_le (HSB.out k hk) (below3 HW.out hW).size) (HLS.out.kept hW) (HPA.out.2.2.1.kept hW) (by have := HNX.out; have := HS.out; omega) HGX.out.1).mono fun e w' h => h.from hW.size
        have HC1 : Hid (∀ W, Below w0.heap.size w0 W → Calls Try.prog 78 #[.slice sa s.length sc, .agg #[.int .i64 y.kind, .int .i64 y.num, .string y.name, .slice v1 y.args.length v2]] W fun e w' => ∃ u, e = .returned (.agg #[.int .i64 (putT s y).kind, .int .i64 (putT s y).num, .string (putT s y).name, u]) ∧ ArgsS w' (fun k => S k ∨ (w0.heap.size ≤ k ∧ k < w'.heap.size)) u (putT s y).args ∧ Below W.heap.size W w') := Lib.hid fun W hW =>
          (HI.out y _ _ S W (by have := HNX.out; have := HNE.out; omega) (fun k hk => Nat.lt_of_lt_of_le (HSB.out k hk) (below3 HW.out hW).size) (HLS.out.kept hW) (HPA.out.2.2.2.kept hW) (by have := HNX.out; have := HS.out; omega) HGX.out.2).mono fun e w' h => h.from hW.size
        have HRB : Hid (∀ W, Below w0.heap.size w0 W → W.heap[w.heap.size + 1]? = some (Obj.cells #[.int .i64 0, .int .i64 0, .string ⟨#[]⟩, .slice none 0 0] 31)) := Lib.hid fun W hW => (HR.out.read hW).now
        have HRL : Hid (w.heap.size ≤ w.heap.size + 1 ∧ w.heap.size + 1 < w0.heap.size) := Lib.hid ⟨by omega, by have := HR.out.le; omega⟩
        have ne1 : ¬ w.heap.size = w.heap.size + 1 := by omega
        have ne2 : ¬ w.heap.size + 1 = w.heap.size := by omega
        have ne3 : ¬ ga = w.heap.size + 1 := by have := HGA.out; omega
        have ne4 : ¬ w.heap.size + 1 = ga := by have := HGA.out; omega
        have hl2 : 1 < t.args.length := by have := HLA.out; omega
        have hl3 : (1 : Int) < (t.args.length : Int) := by omega
        have hl4 : (0 : Int) < (t.args.length : Int) := by omega
        have hl5 : 0 < t.args.length := by omega
        clear HA HX HR HI HPA HLS
        go_upto_region 6 with (fail)
        clear c0a c0b c0c c0d
        go_region_held3 (fun w' => w'.cell? ⟨w.heap.size, 3, none⟩ = some (.slice (some ⟨ga, offa, none⟩) t.args.length ca) ∧ w'.cell? ⟨ga, offa, none⟩ = some (.int .i64 x.kind) ∧ w'.cell? ⟨ga, offa + 1, none⟩ = some (.int .i64 x.num) ∧ w'.cell? ⟨ga, offa + 2, none⟩ = some (.string x.name) ∧ w'.cell? ⟨ga, offa + 3, none⟩ = some (.slice u1 x.args.length u2) ∧ w'.cell? ⟨ga, offa + 4, none⟩ = some (.int .i64 y.kind) ∧ w'.cell? ⟨ga, offa + 4 + 1, none⟩ = some (.int .i64 y.num) ∧ w'.cell? ⟨ga, offa + 4 + 2, none⟩ = some (.string y.name) ∧ w'.cell? ⟨ga, offa + 4 + 3, none⟩ = some (.slice v1 y.args.length v2)) (go_keep)
          (first
            | (go_at_call 78; (with_reducible refine Calls.mono (HC0.out _ ?_) ?_); (assumption); rintro e wB ⟨u0, rfl, hn0, hb0⟩; have hB' := HTR.out _ _ (by assumption) hb0; obtain ⟨k0, k1, k2, k3, k4, k5, k6, k7, k8⟩ := HCE.out _ hB'; obtain ⟨a0, c0, rfl⟩ := hn0.at.slice; have HN0 := Lib.hid hn0; have HL0 := Lib.hid hB'.size; clear hn0)
            | (go_at_call 78; (with_reducible refine Calls.mono (HC1.out _ ?_) ?_); (assumption); rintro e wD ⟨u9, rfl, hn1, hb1⟩; have hD' := HTR.out _ _ (by assumption) hb1; obtain ⟨k0, k1, k2, k3, k4, k5, k6, k7, k8⟩ := HCE.out _ hD'; obtain ⟨a1, c1, rfl⟩ := hn1.at.slice; have HN1 := Lib.hid hn1; have HN2 := Lib.hid (HN0.out.kept hb1); have HL1 := Lib.hid hb1.size; clear hn1)
            | (go_at_call 91; (with_reducible refine Calls.mono (specPair_any _ _ _ _ _ _ _ _ _ _ _ _ _) ?_); rintro e wE ⟨gE, rfl, hg1, hg2, hgh, hbE⟩; have hE' := HTR.out _ _ (by assumption) hbE; obtain ⟨k0, k1, k2, k3, k4, k5, k6, k7, k8⟩ := HCE.out _ hE'; have HM0 := Lib.hid (HN2.out.kept hbE); have HM1 := Lib.hid (HN1.out.kept hbE); have HGH := Lib.hid hgh; have HGE := Lib.hid (And.intro hg1 (And.intro hg2 hbE.size)); have HE := Lib.hid hE'; have HRE := Lib.hid (HRB.out _ hE'); obtain ⟨r0, r1, r2, r3, rf⟩ := box_cells (HRB.out _ hE'); clear hg1 hg2 hgh hbE))
        all_goals (go_wp2_with fail; have HP := Lib.hid (argsS_pair (S := fun k => S k ∨ (w0.heap.size ≤ k ∧ k < _)) HGH.out HGE.out.2.1 (.inr ⟨by (have h1 := HGE.out; have h2 := HL0.out; have h3 := HL1.out; omega), HGE.out.2.1⟩) (HM0.out.sub fun k hk => hk.imp id fun h => ⟨h.1, by (have h1 := HGE.out; have h3 := HL1.out; have h4 := h.2; omega)⟩) (HM1.out.sub fun k hk => hk.imp id fun h => ⟨h.1, by (have h1 := HGE.out; have h4 := h.2; omega)⟩)); exact oldS_end (p := 4) (b := w.heap.size + 1) (W := w0) HQV.out.1 HQV.out.2.1 HQV.out.2.2.1 rfl rfl rfl Try.underlying31 (by kernel_rfl) HRE.out HSB.out HW.out HE.out HRL.out.1 HRL.out.2 (by rw [HQV.out.2.2.2]; exact HP.out))
      · have HQV : Hid (r = t) := Lib.hid (by rw [HQ.out, putT_atom hv hk])
        have HRE := Lib.hid HR.out.now
        obtain ⟨r0, r1, r2, r3, rf⟩ := box_cells HR.out.now
        have z2 := HR.out.le
        have k1 : (t.kind == 1) = false := beq_eq_false_iff_ne.2 hv
        have k4 : (t.kind == 4) = false := beq_eq_false_iff_ne.2 hk
        clear hv hk
        go_wp2
        exact oldS_end (p := 4) (b := w.heap.size + 1) (W := w0) (by rw [HQV.out]) (by rw [HQV.out]) (by rw [HQV.out]) rfl rfl rfl Try.underlying31 (by kernel_rfl) HRE.out HSB.out HW.out (Below.refl _ _) (by omega) (by have := HR.out.le; omega) (by rw [HQV.out]; exact HA.out.sub fun k hk => .inl hk)
end Go.Proofs.Ytjmmeccfjanpcaa

