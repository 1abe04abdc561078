/-
  The program's match, and what stands on it: valuesFor, MatchTerm, IsInstance. (Written by wip/tools/gen_implmatch.py.)
-/
import Derived.Test.YtoihimdfmncdoaaMapV
import Derived.Test.YtoihimdfmncdoaaSortB
import Derived.Test.YtoihimdfmncdoaaImplComp
namespace Go.Proofs.Ytoihimdfmncdoaa
open Go.RowKit
set_option linter.unusedVariables false
set_option linter.unusedSimpArgs false

/-- What match leaves. -/
def MatP (lo b : Nat) (ks : List Int) (g : Int → Option Tm) (p t : Tm) (w : World) (e : Ending) (w' : World) : Prop :=
  e = .returned (.bool (matB g p t)) ∧ (∃ ks' g', MapV lo w' b ks' g' ∧ OkG g' ∧ ks'.length ≤ ks.length + p.nodes ∧ (matB g p t = true → MatY g p t g')) ∧ Only (iv b (b + 1)) w w'
theorem MapV.only {lo : Nat} {w w' : World} {b : Nat} {ks : List Int} {g : Int → Option Tm} {S : Nat → Prop} (h : MapV lo w b ks g) (ho : Only S w w') (hS : ∀ k, S k → ¬ k = b ∧ lo ≤ k) : MapV lo w' b ks g := by
  have hl := h.lt
  obtain ⟨f, D, h1, h2, h3, h4, h5, h6, h7⟩ := h
  exact ⟨f, D, ownsMap_frame h1 (ho.block b hl fun hk => (hS b hk).1 rfl), h2, h3, h4, h5, h6, fun v p hp => (h7 v p hp).frame ho.size fun k hk hks => ho.block k hks fun hh => by have := (hS k hh).2; have h8 : k < lo := hk; omega⟩
theorem below_only {lo b : Nat} {w w' : World} {S : Nat → Prop} {v : Value} {l : List Tm} (h : ArgsS w (fun j => j < lo) v l) (ho : Only (iv b (b + 1)) w w') (hlo : lo ≤ b) : ArgsS w' (fun j => j < lo) v l :=
  h.frame ho.size fun k hk hks => ho.block k hks fun hh => by have h1 := hh.1; have h2 : k < lo := hk; omega

set_option maxRecDepth 100000 in
set_option maxHeartbeats 8000000 in
theorem match_any (lo b : Nat) (hlo : lo ≤ b) (N : Nat) : ∀ (p t : Tm) (Vp Vt : Value) (ks : List Int) (g : Int → Option Tm) (w : World), p.nodes < N → MapV lo w b ks g → OkG g → ks.length + p.nodes ≤ 1048576 → ArgsS w (fun j => j < lo) Vp p.args → ArgsS w (fun j => j < lo) Vt t.args → Ok p → Ok t →
    Calls Try.prog 132 #[.map (some b), .agg #[.int .i64 p.kind, .int .i64 p.num, .string p.name, Vp], .agg #[.int .i64 t.kind, .int .i64 t.num, .string t.name, Vt]] w (MatP lo b ks g p t w) := by
  induction N with
  | zero => intro p t Vp Vt ks g w hN; omega
  | succ N ih =>
    intro p t Vp Vt ks g w hN hM hg hn hP hT hOp hOt
    obtain ⟨pa, pc, rfl⟩ := hP.at.slice
    obtain ⟨ta, tc, rfl⟩ := hT.at.slice
    have HI := Lib.hid ih
    have hbl := hM.lt
    have hB : Below w.heap.size w ((w.alloc (.cells #[.int .i64 p.kind, .int .i64 p.num, .string p.name, .slice pa p.args.length pc] 25)).alloc (.cells #[.int .i64 t.kind, .int .i64 t.num, .string t.name, .slice ta t.args.length tc] 25)) := belowAlloc (belowAlloc (Below.refl _ _) _) _
    have HX := Lib.hid ((at_box_of w #[.int .i64 p.kind, .int .i64 p.num, .string p.name, .slice pa p.args.length pc] 25 w.heap.size rfl).read (belowAlloc (Below.refl _ _) (.cells #[.int .i64 t.kind, .int .i64 t.num, .string t.name, .slice ta t.args.length tc] 25)))
    have HY := Lib.hid (at_box_of (w.alloc (.cells #[.int .i64 p.kind, .int .i64 p.num, .string p.name, .slice pa p.args.length pc] 25)) #[.int .i64 t.kind, .int .i64 t.num, .string t.name, .slice ta t.args.length tc] 25 (w.heap.size + 1) (by simp))
    have HM := Lib.hid (hM.kept hB)
    have HP := Lib.hid (hP.kept hB)
    have HT := Lib.hid (hT.kept hB)
    have HW := Lib.hid hB
    have HOP := Lib.hid hOp
    have HOT := Lib.hid hOt
    have HG := Lib.hid hg
    have HBL := Lib.hid hbl
    have HN := Lib.hid (nodes_eq p)
    have hnp := nodes_pos p
    have hzp : p.sz ≤ 1048576 := by have h1 := good_sz hOp.2; have h2 := hOp.1; omega
    have hzt : t.sz ≤ 1048576 := by have h1 := good_sz hOt.2; have h2 := hOt.1; omega
    clear hM hP hT hB hOp hOt hg hbl ih
    go_enter Try.func132, Try.ntmps132
    go_upto_region 1 with (fail)
    generalize hw0 : (w.alloc (.cells #[.int .i64 p.kind, .int .i64 p.num, .string p.name, .slice pa p.args.length pc] 25)).alloc (.cells #[.int .i64 t.kind, .int .i64 t.num, .string t.name, .slice ta t.args.length tc] 25) = w0 at HX HY HM HP HT HW ⊢
    clear hw0
    obtain ⟨c0, c1, c2, c3⟩ := HX.out.cells
    have z0 := HX.out.le
    obtain ⟨d0, d1, d2, d3⟩ := HY.out.cells
    have z1 := HY.out.le
    by_cases hk : p.kind = 1
    · have dk : (p.kind == 1) = true := by rw [hk]; rfl
      have HTM := Lib.hid (take_mat (t := t) HG.out HOP.out.2 hk HOT.out.2)
      have HTO := Lib.hid (takeG_ok (v := p.num) HG.out HOT.out)
      have HC := Lib.hid (take_any lo b ks g p.num t _ w0 HM.out hlo HG.out (by omega) (HOP.out.2.wfVar hk) HT.out HOT.out)
      clear hk
      go_wp2_with fail
      refine HC.out.mono ?_
      rintro e w1 ⟨rfl, ⟨ks', hm, hkl⟩, ho⟩
      have HF : Hid (MatP lo b ks g p t w (.returned (.bool (takeB g p.num t))) w1) := Lib.hid ⟨by rw [HTM.out.1], ⟨ks', _, hm, HTO.out, by omega, fun h => HTM.out.2 (by rw [← HTM.out.1]; exact h)⟩, (Only.of_below HW.out).trans ho⟩
      clear hm hkl ho HC c0 c1 c2 c3 z0 d0 d1 d2 d3 z1
      go_wp2
      go_ret
      exact HF.out
    · have dk : (p.kind == 1) = false := beq_eq_false_iff_ne.2 hk
      have HK := Lib.hid hk
      go_wp2_with fail
      refine (isPair_any p.kind p.num p.name _ w0).mono ?_
      rintro e w1 ⟨rfl, hb⟩
      replace HX := Lib.hid (HX.out.read hb)
      replace HY := Lib.hid (HY.out.read hb)
      replace HM := Lib.hid (HM.out.kept hb)
      replace HP := Lib.hid (HP.out.kept hb)
      replace HT := Lib.hid (HT.out.kept hb)
      replace HW := Lib.hid (belowOn HW.out (Nat.le_refl _) hb)
      clear hb c0 c1 c2 c3 z0 d0 d1 d2 d3 z1 dk hk
      have LEAF : Hid (¬ (p.kind = 4 ∧ t.kind = 4) → ∀ W, Below w.heap.size w W → MapV lo W b ks g → MatP lo b ks g p t w (.returned (.bool (p.cmp t == 0))) W) := Lib.hid fun hnp4 W hW hMW => by
        by_cases e : p = t
        · subst e
          have h4 : ¬ p.kind = 4 := fun h => hnp4 ⟨h, h⟩
          have hy := mat_leaf (g := g) HOP.out.2 HK.out h4
          exact ⟨by rw [matB_yes hy, cmp_self]; rfl, ⟨ks, g, hMW, HG.out, Nat.le_add_right _ _, fun _ => hy⟩, Only.of_below hW⟩
        · have hno := matB_no (nat_leaf (g := g) HOP.out.2 HK.out hnp4 e)
          have hc : (p.cmp t == 0) = false := beq_eq_false_iff_ne.2 fun h => e (cmp_zero _ _ _ (Nat.le_refl _) HOP.out.2 HOT.out.2 h)
          exact ⟨by rw [hno, hc], ⟨ks, g, hMW, HG.out, Nat.le_add_right _ _, fun h => by rw [hno] at h; cases h⟩, Only.of_below hW⟩
      by_cases hp4 : p.kind = 4
      · have ep : decide (p.kind = 4) = true := decide_eq_true hp4
        rw [ep]
        obtain ⟨d0, d1, d2, d3⟩ := HY.out.cells
        have z1 := HY.out.le
        go_wp2_with fail
        refine (isPair_any t.kind t.num t.name _ w1).mono ?_
        rintro e w2 ⟨rfl, hb⟩
        replace HX := Lib.hid (HX.out.read hb)
        replace HY := Lib.hid (HY.out.read hb)
        replace HM := Lib.hid (HM.out.kept hb)
        replace HP := Lib.hid (HP.out.kept hb)
        replace HT := Lib.hid (HT.out.kept hb)
        replace HW := Lib.hid (belowOn HW.out (Nat.le_refl _) hb)
        clear hb d0 d1 d2 d3 z1 ep
        by_cases ht4 : t.kind = 4
        · have et : decide (t.kind = 4) = true := decide_eq_true ht4
          rw [et]
          clear et LEAF
          go_upto_region 4 with (fail)
          obtain ⟨x, y, hpe, hgx, hgy⟩ := good_pair HOP.out.2 hp4
          obtain ⟨x2, y2, hte, hgx2, hgy2⟩ := good_pair HOT.out.2 ht4
          have hxy : p.args = [x, y] := by rw [hpe]; rfl
          have hxy2 : t.args = [x2, y2] := by rw [hte]; rfl
          obtain ⟨gp, offp, u1, u2, v1, v2, rfl, hgpw, hlp, hcx, hcy, hax, hay⟩ := HP.out.two hxy
          obtain ⟨gt, offt, s1, s2, r1, r2, rfl, hgtw, hlt, hcx2, hcy2, hax2, hay2⟩ := HT.out.two hxy2
          have HLP := Lib.hid hlp
          have HLT := Lib.hid hlt
          have HGP := Lib.hid (And.intro hgpw hgtw)
          have HCX := Lib.hid (And.intro hcx hcx2)
          have HAX := Lib.hid (And.intro hax hax2)
          have HXY := Lib.hid (And.intro hxy hxy2)
          have HNN : Hid (p.nodes = 1 + x.nodes + y.nodes ∧ t.nodes = 1 + x2.nodes + y2.nodes) := Lib.hid ⟨by rw [nodes_eq, hxy]; simp only [nodesL]; omega, by rw [nodes_eq, hxy2]; simp only [nodesL]; omega⟩
          have HOX : Hid ((Ok x ∧ Ok y) ∧ Ok x2 ∧ Ok y2) := Lib.hid (by have h1 := HNN.out; have h2 := HOP.out.1; have h3 := HOT.out.1; exact ⟨⟨⟨by omega, hgx⟩, ⟨by omega, hgy⟩⟩, ⟨by omega, hgx2⟩, ⟨by omega, hgy2⟩⟩)
          have HFE : Hid (p.kind = t.kind ∧ p.num = t.num ∧ p.name = t.name) := Lib.hid (by rw [hpe, hte]; exact ⟨rfl, rfl, rfl⟩)
          have hself : Below w2.heap.size w2 w2 := Below.refl _ _
          have hdrew : Below w2.heap.size w2 w2.drew := hself.drew
          have HTR : Hid (∀ a b, Below w2.heap.size w2 a → Below a.heap.size a b → Below w2.heap.size w2 b) := Lib.hid fun a b h1 h2 => belowOn h1 (Nat.le_refl _) h2
          have HCE : Hid (∀ W, Below w2.heap.size w2 W → W.cell? ⟨w.heap.size, 0, none⟩ = some (.int .i64 p.kind) ∧ W.cell? ⟨w.heap.size, 1, none⟩ = some (.int .i64 p.num) ∧ W.cell? ⟨w.heap.size, 2, none⟩ = some (.string p.name) ∧ W.cell? ⟨w.heap.size, 3, none⟩ = some (.slice (some ⟨gp, offp, none⟩) p.args.length pc) ∧ W.cell? ⟨w.heap.size + 1, 0, none⟩ = some (.int .i64 t.kind) ∧ W.cell? ⟨w.heap.size + 1, 1, none⟩ = some (.int .i64 t.num) ∧ W.cell? ⟨w.heap.size + 1, 2, none⟩ = some (.string t.name) ∧ W.cell? ⟨w.heap.size + 1, 3, none⟩ = some (.slice (some ⟨gt, offt, none⟩) t.args.length tc)) := Lib.hid fun W hW => by
            obtain ⟨y0a, y0b, y0c, y0d⟩ := (HX.out.read hW).cells
            obtain ⟨y1a, y1b, y1c, y1d⟩ := (HY.out.read hW).cells
            exact ⟨y0a, y0b, y0c, y0d, y1a, y1b, y1c, y1d⟩
          have HH0 : Hid (∀ W, Below w2.heap.size w2 W → Calls Try.prog 93 #[.agg #[.int .i64 p.kind, .int .i64 p.num, .string p.name, .slice (some ⟨gp, offp, none⟩) p.args.length pc]] W fun e w' => e = .returned (.agg #[.int .i64 x.kind, .int .i64 x.num, .string x.name, .slice u1 x.args.length u2]) ∧ Below W.heap.size W w') := Lib.hid fun W hW => by
            obtain ⟨q0, q1, q2, q3⟩ := HCX.out.1 W hW
            exact head_any p.kind p.num p.name gp offp p.args.length pc _ _ _ _ _ _ W (Nat.lt_of_lt_of_le HGP.out.1 hW.size) (by have := HLP.out; omega) (by have := HLP.out; omega) q0 q1 q2 q3
          have HH1 : Hid (∀ W, Below w2.heap.size w2 W → Calls Try.prog 93 #[.agg #[.int .i64 t.kind, .int .i64 t.num, .string t.name, .slice (some ⟨gt, offt, none⟩) t.args.length tc]] W fun e w' => e = .returned (.agg #[.int .i64 x2.kind, .int .i64 x2.num, .string x2.name, .slice s1 x2.args.length s2]) ∧ Below W.heap.size W w') := Lib.hid fun W hW => by
            obtain ⟨q0, q1, q2, q3⟩ := HCX.out.2 W hW
            exact head_any t.kind t.num t.name gt offt t.args.length tc _ _ _ _ _ _ W (Nat.lt_of_lt_of_le HGP.out.2 hW.size) (by have := HLT.out; omega) (by have := HLT.out; omega) q0 q1 q2 q3
          have HMAT : Hid (∀ W, Below w2.heap.size w2 W → Calls Try.prog 132 #[.map (some b), .agg #[.int .i64 x.kind, .int .i64 x.num, .string x.name, .slice u1 x.args.length u2], .agg #[.int .i64 x2.kind, .int .i64 x2.num, .string x2.name, .slice s1 x2.args.length s2]] W (MatP lo b ks g x x2 W)) := Lib.hid fun W hW =>
            HI.out x x2 _ _ ks g W (by have := HNN.out; omega) (HM.out.kept hW) HG.out (by have := HNN.out; omega) (HAX.out.1.kept hW) (HAX.out.2.kept hW) HOX.out.1.1 HOX.out.2.1
          obtain ⟨e0, e1, e2, e3, e4, e5, e6, e7⟩ := HCE.out w2 hself
          clear hpe hte hgx hgy hgx2 hgy2 hxy hxy2 hgpw hgtw hlp hlt hcx hcy hax hay hcx2 hcy2 hax2 hay2 hp4 ht4
          cases hm1 : matB g x x2 with
          | false =>
            have HNO : Hid (matB g p t = false) := Lib.hid (matB_no (nat_one HK.out HXY.out.1 HXY.out.2 (matB_false HOX.out.1.1.2 hm1)))
            have HCM : Hid (∀ W, Below w2.heap.size w2 W → Calls Try.prog 132 #[.map (some b), .agg #[.int .i64 x.kind, .int .i64 x.num, .string x.name, .slice u1 x.args.length u2], .agg #[.int .i64 x2.kind, .int .i64 x2.num, .string x2.name, .slice s1 x2.args.length s2]] W fun e w' => e = .returned (.bool false) ∧ (w'.cell? ⟨w.heap.size, 0, none⟩ = some (.int .i64 p.kind) ∧ w'.cell? ⟨w.heap.size, 1, none⟩ = some (.int .i64 p.num) ∧ w'.cell? ⟨w.heap.size, 2, none⟩ = some (.string p.name) ∧ w'.cell? ⟨w.heap.size, 3, none⟩ = some (.slice (some ⟨gp, offp, none⟩) p.args.length pc) ∧ w'.cell? ⟨w.heap.size + 1, 0, none⟩ = some (.int .i64 t.kind) ∧ w'.cell? ⟨w.heap.size + 1, 1, none⟩ = some (.int .i64 t.num) ∧ w'.cell? ⟨w.heap.size + 1, 2, none⟩ = some (.string t.name) ∧ w'.cell? ⟨w.heap.size + 1, 3, none⟩ = some (.slice (some ⟨gt, offt, none⟩) t.args.length tc)) ∧ Hid ((∃ ks' g', MapV lo w' b ks' g' ∧ OkG g' ∧ ks'.length ≤ ks.length + p.nodes ∧ (false = true → MatY g p t g')) ∧ Only (iv b (b + 1)) w w')) := Lib.hid fun W hW => by
              refine (HMAT.out W hW).mono ?_
              rintro e w' ⟨rfl, ⟨ks', g', h1, h2, h3, h4⟩, ho⟩
              have hOW : Only (iv b (b + 1)) w2 w' := (Only.of_below hW).trans ho
              obtain ⟨y0a, y0b, y0c, y0d⟩ := (HX.out.only hOW (.inr HBL.out)).cells
              obtain ⟨y1a, y1b, y1c, y1d⟩ := (HY.out.only hOW (.inr (by have := HBL.out; omega))).cells
              exact ⟨by rw [hm1], ⟨y0a, y0b, y0c, y0d, y1a, y1b, y1c, y1d⟩, Lib.hid ⟨⟨ks', g', h1, h2, by have := HNN.out; omega, fun h => by cases h⟩, (Only.of_below HW.out).trans hOW⟩⟩
            clear HMAT hm1 HI HM HP HT HX HY HCX HAX
            refine wp_region_held_drew (S := (fun w' => w'.cell? ⟨w.heap.size, 0, none⟩ = some (.int .i64 p.kind) ∧ w'.cell? ⟨w.heap.size, 1, none⟩ = some (.int .i64 p.num) ∧ w'.cell? ⟨w.heap.size, 2, none⟩ = some (.string p.name) ∧ w'.cell? ⟨w.heap.size, 3, none⟩ = some (.slice (some ⟨gp, offp, none⟩) p.args.length pc) ∧ w'.cell? ⟨w.heap.size + 1, 0, none⟩ = some (.int .i64 t.kind) ∧ w'.cell? ⟨w.heap.size + 1, 1, none⟩ = some (.int .i64 t.num) ∧ w'.cell? ⟨w.heap.size + 1, 2, none⟩ = some (.string t.name) ∧ w'.cell? ⟨w.heap.size + 1, 3, none⟩ = some (.slice (some ⟨gt, offt, none⟩) t.args.length tc))) (by kernel_rfl) (by (try dsimp only); go_keep) (fun hHeld => ?_)
            (refine wpAnyH_take (i := 0) (oi := ⟨_, _, _, _, _, _⟩) (v := ?_) rfl (by kernel_rfl) (by kernel_rfl) (by kernel_rfl) (fun _ _ _ h => h) (Or.inl ⟨by rfl, ?_⟩) (by assumption) ?_; rotate_left; focus ((intro w' hSw; (try dsimp only at hSw); go_simp; (try with_reducible rfl)))); (try simp only [Act.put, List.setIfInBounds_toArray, List.set_cons_zero, List.set_cons_succ])
            (refine wpAnyH_take (i := 1) (oi := ⟨_, _, _, _, _, _⟩) (v := ?_) rfl (by kernel_rfl) (by kernel_rfl) (by kernel_rfl) (fun _ _ _ h => h) (Or.inl ⟨by rfl, ?_⟩) (by assumption) ?_; rotate_left; focus ((intro w' hSw; (try dsimp only at hSw); go_simp; (try with_reducible rfl)))); (try simp only [Act.put, List.setIfInBounds_toArray, List.set_cons_zero, List.set_cons_succ])
            (refine wpAnyH_take (i := 3) (oi := ⟨_, _, _, _, _, _⟩) (v := ?_) rfl (by kernel_rfl) (by kernel_rfl) (by kernel_rfl) (fun _ _ _ h => h) (Or.inl ⟨by rfl, ?_⟩) (by assumption) ?_; rotate_left; focus ((intro w' hSw; (try dsimp only at hSw); go_simp; (try with_reducible rfl)))); (try simp only [Act.put, List.setIfInBounds_toArray, List.set_cons_zero, List.set_cons_succ])
            refine wpAnyH_ready (rs := [2]) (by kernel_rfl) (by simp) ?_
            refine AllReadyH.cons (o := ⟨_, _, _, _, _, _⟩) rfl (fun K hK => ?_) AllReadyH.nil
            go_simp
            (go_at_call 93; (with_reducible refine Calls.mono (HH0.out _ ?_) ?_); (assumption); rintro e w' ⟨rfl, hb⟩; have hB' := HTR.out _ _ (by assumption) hb; obtain ⟨k0, k1, k2, k3, k4, k5, k6, k7⟩ := HCE.out _ hB'; clear hb)
            (try go_wp2_with fail)
            refine hK.out _ _ (by (try dsimp only); (first | go_keep | (refine ⟨by assumption, ?_⟩; go_keep))) (fun hHeld => ?_)
            clear hK K
            (try simp only [Act.put, List.setIfInBounds_toArray, List.set_cons_zero, List.set_cons_succ])
            refine wpAnyH_ready (rs := [4]) (by kernel_rfl) (by simp) ?_
            refine AllReadyH.cons (o := ⟨_, _, _, _, _, _⟩) rfl (fun K hK => ?_) AllReadyH.nil
            go_simp
            (go_at_call 93; (with_reducible refine Calls.mono (HH1.out _ ?_) ?_); (assumption); rintro e w' ⟨rfl, hb⟩; have hB' := HTR.out _ _ (by assumption) hb; obtain ⟨k0, k1, k2, k3, k4, k5, k6, k7⟩ := HCE.out _ hB'; clear hb)
            (try go_wp2_with fail)
            refine hK.out _ _ (by (try dsimp only); (first | go_keep | (refine ⟨by assumption, ?_⟩; go_keep))) (fun hHeld => ?_)
            clear hK K
            (try simp only [Act.put, List.setIfInBounds_toArray, List.set_cons_zero, List.set_cons_succ])
            refine wpAnyH_ready (rs := [5]) (by kernel_rfl) (by simp) ?_
            refine AllReadyH.cons (o := ⟨_, _, _, _, _, _⟩) rfl (fun K hK => ?_) AllReadyH.nil
            go_simp
            (go_at_call 132; (with_reducible refine Calls.mono (HCM.out _ ?_) ?_); (assumption); rintro e wm ⟨rfl, ⟨k0, k1, k2, k3, k4, k5, k6, k7⟩, HFIN⟩)
            (try go_wp2_with fail)
            refine hK.out _ _ (by (try dsimp only); (first | go_keep | (refine ⟨by assumption, ?_⟩; go_keep))) (fun hHeld => ?_)
            clear hK K
            (try simp only [Act.put, List.setIfInBounds_toArray, List.set_cons_zero, List.set_cons_succ])
            (refine wpAnyH_take (i := 6) (oi := ⟨_, _, _, _, _, _⟩) (v := ?_) rfl (by kernel_rfl) (by kernel_rfl) (by kernel_rfl) (fun _ _ _ h => h) (Or.inl ⟨by rfl, ?_⟩) (by assumption) ?_; rotate_left; focus ((intro w' hSw; (try dsimp only at hSw); go_simp; (try with_reducible rfl)))); (try simp only [Act.put, List.setIfInBounds_toArray, List.set_cons_zero, List.set_cons_succ])
            (refine wpAnyH_take (i := 7) (oi := ⟨_, _, _, _, _, _⟩) (v := undef) rfl (by kernel_rfl) (by kernel_rfl) (by kernel_rfl) (fun _ _ _ h => h) (Or.inr ⟨by rfl, rfl⟩) (by assumption) ?_); (try simp only [Act.put, List.setIfInBounds_toArray, List.set_cons_zero, List.set_cons_succ])
            (refine wpAnyH_take (i := 8) (oi := ⟨_, _, _, _, _, _⟩) (v := undef) rfl (by kernel_rfl) (by kernel_rfl) (by kernel_rfl) (fun _ _ _ h => h) (Or.inr ⟨by rfl, rfl⟩) (by assumption) ?_); (try simp only [Act.put, List.setIfInBounds_toArray, List.set_cons_zero, List.set_cons_succ])
            (refine wpAnyH_take (i := 9) (oi := ⟨_, _, _, _, _, _⟩) (v := undef) rfl (by kernel_rfl) (by kernel_rfl) (by kernel_rfl) (fun _ _ _ h => h) (Or.inr ⟨by rfl, rfl⟩) (by assumption) ?_); (try simp only [Act.put, List.setIfInBounds_toArray, List.set_cons_zero, List.set_cons_succ])
            (refine wpAnyH_take (i := 10) (oi := ⟨_, _, _, _, _, _⟩) (v := undef) rfl (by kernel_rfl) (by kernel_rfl) (by kernel_rfl) (fun _ _ _ h => h) (Or.inr ⟨by rfl, rfl⟩) (by assumption) ?_); (try simp only [Act.put, List.setIfInBounds_toArray, List.set_cons_zero, List.set_cons_succ])
            (refine wpAnyH_take (i := 11) (oi := ⟨_, _, _, _, _, _⟩) (v := undef) rfl (by kernel_rfl) (by kernel_rfl) (by kernel_rfl) (fun _ _ _ h => h) (Or.inr ⟨by rfl, rfl⟩) (by assumption) ?_); (try simp only [Act.put, List.setIfInBounds_toArray, List.set_cons_zero, List.set_cons_succ])
            (refine wpAnyH_take (i := 12) (oi := ⟨_, _, _, _, _, _⟩) (v := undef) rfl (by kernel_rfl) (by kernel_rfl) (by kernel_rfl) (fun _ _ _ h => h) (Or.inr ⟨by rfl, rfl⟩) (by assumption) ?_); (try simp only [Act.put, List.setIfInBounds_toArray, List.set_cons_zero, List.set_cons_succ])
            (refine wpAnyH_take (i := 13) (oi := ⟨_, _, _, _, _, _⟩) (v := ?_) rfl (by kernel_rfl) (by kernel_rfl) (by kernel_rfl) (fun _ _ _ h => h) (Or.inl ⟨by rfl, ?_⟩) (by assumption) ?_; rotate_left; focus ((intro w' hSw; (try dsimp only at hSw); go_simp; (try with_reducible rfl)))); (try simp only [Act.put, List.setIfInBounds_toArray, List.set_cons_zero, List.set_cons_succ])
            (refine wpAnyH_take (i := 14) (oi := ⟨_, _, _, _, _, _⟩) (v := ?_) rfl (by kernel_rfl) (by kernel_rfl) (by kernel_rfl) (fun _ _ _ h => h) (Or.inl ⟨by rfl, ?_⟩) (by assumption) ?_; rotate_left; focus ((intro w' hSw; (try dsimp only at hSw); go_simp; (try with_reducible rfl)))); (try simp only [Act.put, List.setIfInBounds_toArray, List.set_cons_zero, List.set_cons_succ])
            refine wpAnyH_done (by kernel_rfl) ?_ _
            go_wp2
            go_ret
            exact ⟨by rw [HNO.out]; rfl, by rw [HNO.out]; exact HFIN.out⟩
          | true =>
            have HCM : Hid (∀ W, Below w2.heap.size w2 W → Calls Try.prog 132 #[.map (some b), .agg #[.int .i64 x.kind, .int .i64 x.num, .string x.name, .slice u1 x.args.length u2], .agg #[.int .i64 x2.kind, .int .i64 x2.num, .string x2.name, .slice s1 x2.args.length s2]] W fun e wm => e = .returned (.bool true) ∧ ∃ (v1 : Option Addr) (v2 : Nat) (r1 : Option Addr) (r2 : Nat), Hid (∀ W, Below wm.heap.size wm W → W.cell? ⟨w.heap.size, 0, none⟩ = some (.int .i64 p.kind) ∧ W.cell? ⟨w.heap.size, 1, none⟩ = some (.int .i64 p.num) ∧ W.cell? ⟨w.heap.size, 2, none⟩ = some (.string p.name) ∧ W.cell? ⟨w.heap.size, 3, none⟩ = some (.slice (some ⟨gp, offp, none⟩) p.args.length pc) ∧ W.cell? ⟨w.heap.size + 1, 0, none⟩ = some (.int .i64 t.kind) ∧ W.cell? ⟨w.heap.size + 1, 1, none⟩ = some (.int .i64 t.num) ∧ W.cell? ⟨w.heap.size + 1, 2, none⟩ = some (.string t.name) ∧ W.cell? ⟨w.heap.size + 1, 3, none⟩ = some (.slice (some ⟨gt, offt, none⟩) t.args.length tc)) ∧
              Hid (∀ W, Below wm.heap.size wm W → Calls Try.prog 95 #[.agg #[.int .i64 p.kind, .int .i64 p.num, .string p.name, .slice (some ⟨gp, offp, none⟩) p.args.length pc]] W fun e w' => e = .returned (.agg #[.int .i64 y.kind, .int .i64 y.num, .string y.name, .slice v1 y.args.length v2]) ∧ Below W.heap.size W w') ∧
              Hid (∀ W, Below wm.heap.size wm W → Calls Try.prog 95 #[.agg #[.int .i64 t.kind, .int .i64 t.num, .string t.name, .slice (some ⟨gt, offt, none⟩) t.args.length tc]] W fun e w' => e = .returned (.agg #[.int .i64 y2.kind, .int .i64 y2.num, .string y2.name, .slice r1 y2.args.length r2]) ∧ Below W.heap.size W w') ∧
              Hid (∀ W, Below wm.heap.size wm W → Calls Try.prog 132 #[.map (some b), .agg #[.int .i64 y.kind, .int .i64 y.num, .string y.name, .slice v1 y.args.length v2], .agg #[.int .i64 y2.kind, .int .i64 y2.num, .string y2.name, .slice r1 y2.args.length r2]] W fun e w' => e = .returned (.bool (matB g p t)) ∧ (w'.cell? ⟨w.heap.size, 0, none⟩ = some (.int .i64 p.kind) ∧ w'.cell? ⟨w.heap.size, 1, none⟩ = some (.int .i64 p.num) ∧ w'.cell? ⟨w.heap.size, 2, none⟩ = some (.string p.name) ∧ w'.cell? ⟨w.heap.size, 3, none⟩ = some (.slice (some ⟨gp, offp, none⟩) p.args.length pc) ∧ w'.cell? ⟨w.heap.size + 1, 0, none⟩ = some (.int .i64 t.kind) ∧ w'.cell? ⟨w.heap.size + 1, 1, none⟩ = some (.int .i64 t.num) ∧ w'.cell? ⟨w.heap.size + 1, 2, none⟩ = some (.string t.name) ∧ w'.cell? ⟨w.heap.size + 1, 3, none⟩ = some (.slice (some ⟨gt, offt, none⟩) t.args.length tc)) ∧ Hid ((∃ ks' g', MapV lo w' b ks' g' ∧ OkG g' ∧ ks'.length ≤ ks.length + p.nodes ∧ (matB g p t = true → MatY g p t g')) ∧ Only (iv b (b + 1)) w w'))) := Lib.hid fun W hW => by
              refine (HMAT.out W hW).mono ?_
              rintro e wm ⟨rfl, ⟨ks1, g1, h1, h2, h3, h4⟩, ho⟩
              have h5 := h4 hm1
              have hOW : Only (iv b (b + 1)) w2 wm := (Only.of_below hW).trans ho
              have hXm := HX.out.only hOW (.inr HBL.out)
              have hYm := HY.out.only hOW (.inr (by have := HBL.out; omega))
              have hPm := below_only (S := fun _ => True) HP.out hOW hlo
              have hTm := below_only (S := fun _ => True) HT.out hOW hlo
              obtain ⟨g2, off2, _, _, v1, v2, he, hgw2, _, _, hcy, _, hay⟩ := hPm.two HXY.out.1
              simp only [Option.some.injEq, Addr.mk.injEq, and_true] at he
              obtain ⟨rfl, rfl⟩ := he
              obtain ⟨g3, off3, _, _, r1, r2, he, hgw3, _, _, hcy3, _, hay3⟩ := hTm.two HXY.out.2
              simp only [Option.some.injEq, Addr.mk.injEq, and_true] at he
              obtain ⟨rfl, rfl⟩ := he
              have hCE : ∀ W, Below wm.heap.size wm W → W.cell? ⟨w.heap.size, 0, none⟩ = some (.int .i64 p.kind) ∧ W.cell? ⟨w.heap.size, 1, none⟩ = some (.int .i64 p.num) ∧ W.cell? ⟨w.heap.size, 2, none⟩ = some (.string p.name) ∧ W.cell? ⟨w.heap.size, 3, none⟩ = some (.slice (some ⟨gp, offp, none⟩) p.args.length pc) ∧ W.cell? ⟨w.heap.size + 1, 0, none⟩ = some (.int .i64 t.kind) ∧ W.cell? ⟨w.heap.size + 1, 1, none⟩ = some (.int .i64 t.num) ∧ W.cell? ⟨w.heap.size + 1, 2, none⟩ = some (.string t.name) ∧ W.cell? ⟨w.heap.size + 1, 3, none⟩ = some (.slice (some ⟨gt, offt, none⟩) t.args.length tc) := fun W hW => by
                obtain ⟨y0a, y0b, y0c, y0d⟩ := (hXm.read hW).cells
                obtain ⟨y1a, y1b, y1c, y1d⟩ := (hYm.read hW).cells
                exact ⟨y0a, y0b, y0c, y0d, y1a, y1b, y1c, y1d⟩
              refine ⟨by rw [hm1], v1, v2, r1, r2, Lib.hid hCE, Lib.hid fun W hW => ?_, Lib.hid fun W hW => ?_, Lib.hid fun W hW => ?_⟩
              · obtain ⟨q0, q1, q2, q3⟩ := hcy W hW
                exact tail_any p.kind p.num p.name _ _ p.args.length pc _ _ _ _ _ _ W (Nat.lt_of_lt_of_le hgw2 hW.size) (by have := HLP.out; omega) (by have := HLP.out; omega) q0 q1 q2 q3
              · obtain ⟨q0, q1, q2, q3⟩ := hcy3 W hW
                exact tail_any t.kind t.num t.name _ _ t.args.length tc _ _ _ _ _ _ W (Nat.lt_of_lt_of_le hgw3 hW.size) (by have := HLT.out; omega) (by have := HLT.out; omega) q0 q1 q2 q3
              · refine (HI.out y y2 _ _ ks1 g1 W (by have := HNN.out; omega) (h1.kept hW) h2 (by have := HNN.out; omega) (hay.kept hW) (hay3.kept hW) HOX.out.1.2 HOX.out.2.2).mono ?_
                rintro e w' ⟨rfl, ⟨ks2, g2', k1, k2, k3, k4⟩, ho2⟩
                have hOW2 : Only (iv b (b + 1)) wm w' := (Only.of_below hW).trans ho2
                obtain ⟨y0a, y0b, y0c, y0d⟩ := (hXm.only hOW2 (.inr HBL.out)).cells
                obtain ⟨y1a, y1b, y1c, y1d⟩ := (hYm.only hOW2 (.inr (by have := HBL.out; omega))).cells
                have hmm : matB g1 y y2 = matB g p t := by
                  cases hm2 : matB g1 y y2 with
                  | true => exact (matB_yes (mat_two HK.out HFE.out HXY.out.1 HXY.out.2 h5 (k4 hm2))).symm
                  | false => exact (matB_no (nat_two HK.out HXY.out.1 HXY.out.2 h5 (matB_false HOX.out.1.2.2 hm2))).symm
                refine ⟨by rw [hmm], ⟨y0a, y0b, y0c, y0d, y1a, y1b, y1c, y1d⟩, Lib.hid ⟨⟨ks2, g2', k1, k2, by have := HNN.out; omega, fun h => ?_⟩, ((Only.of_below HW.out).trans hOW).trans hOW2⟩⟩
                rw [← hmm] at h
                exact mat_two HK.out HFE.out HXY.out.1 HXY.out.2 h5 (k4 h)
            clear HMAT hm1 HI HM HP HT HX HY HCX HAX
            obtain ⟨r, hr⟩ : ∃ r, matB g p t = r := ⟨_, rfl⟩
            rw [hr] at HCM
            have HR := Lib.hid hr
            clear hr
            go_region_held3 (fun w' => w'.cell? ⟨w.heap.size, 0, none⟩ = some (.int .i64 p.kind) ∧ w'.cell? ⟨w.heap.size, 1, none⟩ = some (.int .i64 p.num) ∧ w'.cell? ⟨w.heap.size, 2, none⟩ = some (.string p.name) ∧ w'.cell? ⟨w.heap.size, 3, none⟩ = some (.slice (some ⟨gp, offp, none⟩) p.args.length pc) ∧ w'.cell? ⟨w.heap.size + 1, 0, none⟩ = some (.int .i64 t.kind) ∧ w'.cell? ⟨w.heap.size + 1, 1, none⟩ = some (.int .i64 t.num) ∧ w'.cell? ⟨w.heap.size + 1, 2, none⟩ = some (.string t.name) ∧ w'.cell? ⟨w.heap.size + 1, 3, none⟩ = some (.slice (some ⟨gt, offt, none⟩) t.args.length tc)) (go_keep)
              (first
              | (go_at_call 93; (with_reducible refine Calls.mono (HH0.out _ ?_) ?_); (assumption); rintro e w' ⟨rfl, hb⟩; have hB' := HTR.out _ _ (by assumption) hb; obtain ⟨k0, k1, k2, k3, k4, k5, k6, k7⟩ := HCE.out _ hB'; clear hb)
              | (go_at_call 93; (with_reducible refine Calls.mono (HH1.out _ ?_) ?_); (assumption); rintro e w' ⟨rfl, hb⟩; have hB' := HTR.out _ _ (by assumption) hb; obtain ⟨k0, k1, k2, k3, k4, k5, k6, k7⟩ := HCE.out _ hB'; clear hb)
              | (go_at_call 132; (with_reducible refine Calls.mono (HCM.out _ ?_) ?_); (assumption); rintro e wm ⟨rfl, v1, v2, r1, r2, HCE2, HT0, HT1, HCM2⟩; have hm0 := Below.refl wm.heap.size wm; have HTR2 := Lib.hid (fun (a b : World) (h1 : Below wm.heap.size wm a) (h2 : Below a.heap.size a b) => belowOn h1 (Nat.le_refl _) h2); obtain ⟨k0, k1, k2, k3, k4, k5, k6, k7⟩ := HCE2.out _ hm0)
              | (go_at_call 95; (with_reducible refine Calls.mono (HT0.out _ ?_) ?_); (assumption); rintro e w' ⟨rfl, hb⟩; have hB' := HTR2.out _ _ (by assumption) hb; obtain ⟨k0, k1, k2, k3, k4, k5, k6, k7⟩ := HCE2.out _ hB'; clear hb)
              | (go_at_call 95; (with_reducible refine Calls.mono (HT1.out _ ?_) ?_); (assumption); rintro e w' ⟨rfl, hb⟩; have hB' := HTR2.out _ _ (by assumption) hb; obtain ⟨k0, k1, k2, k3, k4, k5, k6, k7⟩ := HCE2.out _ hB'; clear hb)
              | (go_at_call 132; (with_reducible refine Calls.mono (HCM2.out _ ?_) ?_); (assumption); rintro e w' ⟨rfl, ⟨k0, k1, k2, k3, k4, k5, k6, k7⟩, HFIN⟩))
            all_goals
              go_wp2
              go_ret
              exact ⟨by rw [HR.out]; rfl, by rw [HR.out]; exact HFIN.out⟩
        · have et : decide (t.kind = 4) = false := decide_eq_false ht4
          rw [et]
          have HL := Lib.hid (LEAF.out fun h => ht4 h.2)
          clear et LEAF hp4 ht4
          have HC := Lib.hid (compare_any (p.nodes + 1) p t _ _ w2 (Nat.lt_succ_self _) HP.out.at HT.out.at hzp hzt HOP.out.2 HOT.out.2)
          obtain ⟨c0, c1, c2, c3⟩ := HX.out.cells
          have z0 := HX.out.le
          obtain ⟨d0, d1, d2, d3⟩ := HY.out.cells
          have z1 := HY.out.le
          go_wp2_with fail
          refine HC.out.mono ?_
          rintro e w3 ⟨rfl, hb⟩
          have HE := Lib.hid (HL.out w3 (belowOn HW.out (Nat.le_refl _) hb) (HM.out.kept hb))
          clear hb HC c0 c1 c2 c3 z0 d0 d1 d2 d3 z1
          go_wp2
          go_ret
          exact HE.out
      · have ep : decide (p.kind = 4) = false := decide_eq_false hp4
        rw [ep]
        have HL := Lib.hid (LEAF.out fun h => hp4 h.1)
        clear ep LEAF hp4
        have HC := Lib.hid (compare_any (p.nodes + 1) p t _ _ w1 (Nat.lt_succ_self _) HP.out.at HT.out.at hzp hzt HOP.out.2 HOT.out.2)
        obtain ⟨c0, c1, c2, c3⟩ := HX.out.cells
        have z0 := HX.out.le
        obtain ⟨d0, d1, d2, d3⟩ := HY.out.cells
        have z1 := HY.out.le
        go_wp2_with fail
        refine HC.out.mono ?_
        rintro e w3 ⟨rfl, hb⟩
        have HE := Lib.hid (HL.out w3 (belowOn HW.out (Nat.le_refl _) hb) (HM.out.kept hb))
        clear hb HC c0 c1 c2 c3 z0 d0 d1 d2 d3 z1
        go_wp2
        go_ret
        exact HE.out
end Go.Proofs.Ytoihimdfmncdoaa

