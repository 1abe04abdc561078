/-
  The order of terms: the contracts of the program's compare and of the model's l02Cmp, and of CompareTerms on both sides.
-/
import Derived.Test.YtokndpmoamjbfaaOrd
namespace Go.Proofs.Ytokndpmoamjbfaa
open Go.RowKit
set_option linter.unusedVariables false
set_option linter.unusedSimpArgs false

theorem belowAlloc {w w' : World} (h : Below w.heap.size w w') (o : Obj) : Below w.heap.size w (w'.alloc o) := h.alloc h.size o
theorem cmp_of_num {t u : Tm} (h : ¬ cmpN t u = 0) : t.cmp u = cmpN t u := by rw [cmp_eq, if_pos h]
theorem cmp_of_args {t u : Tm} (h : cmpN t u = 0) : t.cmp u = cmpL t.args u.args := by rw [cmp_eq, if_neg (by omega)]
theorem cmpL_one {t u : Tm} {l m : List Tm} (h : ¬ t.cmp u = 0) : cmpL (t :: l) (u :: m) = t.cmp u := by rw [cmpL, if_pos h]
theorem cmpL_two {t u : Tm} {l m : List Tm} (h : t.cmp u = 0) : cmpL (t :: l) (u :: m) = cmpL l m := by rw [cmpL, if_neg (by omega)]
theorem cmpL_last {t u : Tm} : cmpL [t] [u] = t.cmp u := by
  rw [cmpL]
  split
  · rfl
  · rw [cmpL]; omega
theorem cmpN_kind {t u : Tm} (h : cmpN t u = 0) : t.kind = u.kind := by
  unfold cmpN or3 at h
  have : cmpI t.kind u.kind = 0 := by
    by_cases h1 : cmpI t.kind u.kind = 0
    · exact h1
    · rw [if_pos h1] at h; exact h
  unfold cmpI at this
  split at this
  · omega
  · split at this <;> omega
theorem Fit.pair {t : Tm} (h : Fit t) (hk : t.kind = 4) : ∃ a b, t.args = [a, b] := by
  rcases h with ⟨h, _⟩ | ⟨h, _⟩ | ⟨h, _⟩ | ⟨h, _⟩ | ⟨_, _, _, h⟩
  · rw [hk] at h; cases h
  · rw [hk] at h; cases h
  · rw [hk] at h; cases h
  · rw [hk] at h; cases h
  · exact two_of h
theorem Fit.atom {t : Tm} (h : Fit t) (hk : ¬ t.kind = 4) : t.args = [] := by
  rcases h with ⟨_, _, _, h⟩ | ⟨_, _, _, h⟩ | ⟨_, _, _, h⟩ | ⟨_, _, _, h⟩ | ⟨h, _⟩
  · exact h
  · exact h
  · exact h
  · exact h
  · exact absurd h hk
/-- A pair's two parts, where they lie. -/
theorem ArgsAt.two {w : World} {a : Option Addr} {n cap : Nat} {l : List Tm} {x y : Tm} (h : ArgsAt w (.slice a n cap) l) (hl : l = [x, y]) :
    ∃ g off u1 u2 v1 v2, a = some ⟨g, off, none⟩ ∧ g < w.heap.size ∧ n = 2 ∧
      (∀ W, Below w.heap.size w W → W.cell? ⟨g, off, none⟩ = some (.int .i64 x.kind) ∧ W.cell? ⟨g, off + 1, none⟩ = some (.int .i64 x.num) ∧ W.cell? ⟨g, off + 2, none⟩ = some (.string x.name) ∧ W.cell? ⟨g, off + 3, none⟩ = some (.slice u1 x.args.length u2)) ∧
      (∀ W, Below w.heap.size w W → W.cell? ⟨g, off + 4, none⟩ = some (.int .i64 y.kind) ∧ W.cell? ⟨g, off + 4 + 1, none⟩ = some (.int .i64 y.num) ∧ W.cell? ⟨g, off + 4 + 2, none⟩ = some (.string y.name) ∧ W.cell? ⟨g, off + 4 + 3, none⟩ = some (.slice v1 y.args.length v2)) ∧
      ArgsAt w (.slice u1 x.args.length u2) x.args ∧ ArgsAt w (.slice v1 y.args.length v2) y.args := by
  obtain ⟨g, off, u1, u2, rfl, hg, hn, hc, hx⟩ := h.elem (k := 0) (x := x) (by rw [hl]; rfl)
  obtain ⟨g', off', v1, v2, he, hg', hn', hc', hy⟩ := h.elem (k := 1) (x := y) (by rw [hl]; rfl)
  simp only [Option.some.injEq, Addr.mk.injEq, and_true] at he
  obtain ⟨rfl, rfl⟩ := he
  refine ⟨g, off, u1, u2, v1, v2, rfl, hg, by rw [hn, hl]; rfl, fun W hW => ?_, fun W hW => ?_, hx, hy⟩
  · have := hc W hW
    simpa using this
  · have := hc' W hW
    simpa using this

set_option maxRecDepth 100000 in
set_option maxHeartbeats 4000000 in
theorem compare_any (N : Nat) : ∀ (a b : Tm) (Va Vb : Value) (w : World), a.nodes < N → ArgsAt w Va a.args → ArgsAt w Vb b.args → a.sz ≤ 1048576 → b.sz ≤ 1048576 → Good a → Good b →
    Calls Try.prog 29 #[.agg #[.int .i64 a.kind, .int .i64 a.num, .string a.name, Va], .agg #[.int .i64 b.kind, .int .i64 b.num, .string b.name, Vb]] w fun e w' => e = .returned (.int .i64 (a.cmp b)) ∧ Below w.heap.size w w' := by
  induction N with
  | zero => intro a b Va Vb w hN; omega
  | succ N ih =>
    intro a b Va Vb w hN hA hB hZa hZb hGa hGb
    obtain ⟨aa, ca, rfl⟩ := hA.slice
    obtain ⟨ab, cb, rfl⟩ := hB.slice
    have HI := Lib.hid ih
    have HGa := Lib.hid hGa
    have HGb := Lib.hid hGb
    have HSa := Lib.hid (sz_eq a)
    have HSb := Lib.hid (sz_eq b)
    have HNE := Lib.hid (nodes_eq a)
    have HA := Lib.hid (at_args hA)
    have HB := Lib.hid (at_args hB)
    clear hA hB ih hGa hGb
    have HW : Hid (Below w.heap.size w w) := Lib.hid (Below.refl _ _)
    have hal : Below w.heap.size w (w.alloc (.cells #[.int .i64 a.kind, .int .i64 a.num, .string a.name, .slice aa a.args.length ca] 25)) := (Below.refl _ _).alloc (Nat.le_refl _) _
    replace HA := Lib.hid (HA.out.read hal)
    replace HB := Lib.hid (HB.out.read hal)
    replace HW := Lib.hid (belowOn HW.out (Nat.le_refl _) hal)
    have HX := Lib.hid (at_box_of w #[.int .i64 a.kind, .int .i64 a.num, .string a.name, .slice aa a.args.length ca] 25 (w.heap.size) rfl)
    have hal2 := (Below.refl (w.alloc (.cells #[.int .i64 a.kind, .int .i64 a.num, .string a.name, .slice aa a.args.length ca] 25)).heap.size (w.alloc (.cells #[.int .i64 a.kind, .int .i64 a.num, .string a.name, .slice aa a.args.length ca] 25))).alloc (Nat.le_refl _) (.cells #[.int .i64 b.kind, .int .i64 b.num, .string b.name, .slice ab b.args.length cb] 25)
    replace HA := Lib.hid (HA.out.read hal2)
    replace HB := Lib.hid (HB.out.read hal2)
    replace HX := Lib.hid (HX.out.read hal2)
    replace HW := Lib.hid (belowOn HW.out (Nat.le_refl _) hal2)
    have HY := Lib.hid (at_box_of (w.alloc (.cells #[.int .i64 a.kind, .int .i64 a.num, .string a.name, .slice aa a.args.length ca] 25)) #[.int .i64 b.kind, .int .i64 b.num, .string b.name, .slice ab b.args.length cb] 25 (w.heap.size + 1) (by simp))
    clear hal hal2
    go_enter Try.func29, Try.ntmps29
    go_upto_region 1 with (fail)
    generalize hw0 : (w.alloc (.cells #[.int .i64 a.kind, .int .i64 a.num, .string a.name, .slice aa a.args.length ca] 25)).alloc (.cells #[.int .i64 b.kind, .int .i64 b.num, .string b.name, .slice ab b.args.length cb] 25) = w0 at HA HB HX HY HW ⊢
    clear hw0
    go_cut [5] from 6 (fun c wx => c = .int .i64 (cmpN a b) ∧ Below w0.heap.size w0 wx)
    case first =>
      have hself : Below w0.heap.size w0 w0 := Below.refl _ _
      have hdrew : Below w0.heap.size w0 w0.drew := hself.drew
      obtain ⟨c0a, c0b, c0c, c0d⟩ := HX.out.cells
      obtain ⟨c1a, c1b, c1c, c1d⟩ := HY.out.cells
      have z0 := HX.out.le
      have z1 := HY.out.le
      have HCE : Hid (∀ W, Below w0.heap.size w0 W → W.cell? ⟨w.heap.size, 0, none⟩ = some (.int .i64 a.kind) ∧ W.cell? ⟨w.heap.size, 1, none⟩ = some (.int .i64 a.num) ∧ W.cell? ⟨w.heap.size, 2, none⟩ = some (.string a.name) ∧ W.cell? ⟨w.heap.size + 1, 0, none⟩ = some (.int .i64 b.kind) ∧ W.cell? ⟨w.heap.size + 1, 1, none⟩ = some (.int .i64 b.num) ∧ W.cell? ⟨w.heap.size + 1, 2, none⟩ = some (.string b.name)) := Lib.hid fun W hW => by
        obtain ⟨y0a, y0b, y0c, y0d⟩ := (HX.out.read hW).cells
        obtain ⟨y1a, y1b, y1c, y1d⟩ := (HY.out.read hW).cells
        exact ⟨y0a, y0b, y0c, y1a, y1b, y1c⟩
      have HTR : Hid (∀ a b, Below w0.heap.size w0 a → Below a.heap.size a b → Below w0.heap.size w0 b) := Lib.hid fun a b h1 h2 => belowOn h1 (Nat.le_refl _) h2
      clear HA HB HX HY HW HI
      go_region_held3 (fun w' => Below w0.heap.size w0 w' ∧ w'.cell? ⟨w.heap.size, 0, none⟩ = some (.int .i64 a.kind) ∧ w'.cell? ⟨w.heap.size, 1, none⟩ = some (.int .i64 a.num) ∧ w'.cell? ⟨w.heap.size, 2, none⟩ = some (.string a.name) ∧ w'.cell? ⟨w.heap.size + 1, 0, none⟩ = some (.int .i64 b.kind) ∧ w'.cell? ⟨w.heap.size + 1, 1, none⟩ = some (.int .i64 b.num) ∧ w'.cell? ⟨w.heap.size + 1, 2, none⟩ = some (.string b.name))
        (((try dsimp only); (repeat' apply And.intro) <;> first | go_keep | exact belowAlloc (by assumption) _))
        (first
          | (go_at_call 39; refine (cmpInt_any _ _ _).mono ?_; rintro e w' ⟨rfl, rfl⟩)
          | (go_at_call 40; refine (cmpStr_any _ _ _).mono ?_; rintro e w' ⟨rfl, rfl⟩)
          | (go_at_call 38; refine (or3_at (cmpI a.kind b.kind) (cmpI a.num b.num) (cmpS a.name b.name) _ _ ?_ ?_ ?_).mono ?_; (simp); (simp); (simp); rintro e w' ⟨rfl, rfl⟩))
      all_goals (go_wp2_with fail; go_meet; refine ⟨rfl, ?_⟩; first | assumption | exact (belowAlloc hself _).drew | exact belowAlloc hself _)
    case rest =>
      obtain ⟨rfl, hb⟩ := hcut
      obtain ⟨w1, rfl⟩ : ∃ x : World, x = wc := ⟨_, rfl⟩
      replace HA := Lib.hid (HA.out.read hb)
      replace HB := Lib.hid (HB.out.read hb)
      replace HX := Lib.hid (HX.out.read hb)
      replace HY := Lib.hid (HY.out.read hb)
      replace HW := Lib.hid (belowOn HW.out (Nat.le_refl _) hb)
      clear hb
      by_cases hc : cmpN a b = 0
      · have HCN := Lib.hid hc
        rw [hc]
        clear hc
        have HIP := Lib.hid (isPair_any a.kind a.num a.name (.slice aa a.args.length ca) w1)
        obtain ⟨c0a, c0b, c0c, c0d⟩ := HX.out.cells
        have z0 := HX.out.le
        go_wp2_with fail
        refine HIP.out.mono ?_
        rintro e w2 ⟨rfl, hb⟩
        clear c0a c0b c0c c0d z0 HIP
        replace HA := Lib.hid (HA.out.read hb)
        replace HB := Lib.hid (HB.out.read hb)
        replace HX := Lib.hid (HX.out.read hb)
        replace HY := Lib.hid (HY.out.read hb)
        replace HW := Lib.hid (belowOn HW.out (Nat.le_refl _) hb)
        clear hb
        by_cases hk : a.kind = 4
        · have hd : decide (a.kind = 4) = true := decide_eq_true hk
          rw [hd]
          obtain ⟨x, y, hxy⟩ := HGa.out.fit.pair hk
          obtain ⟨x2, y2, hxy2⟩ := HGb.out.fit.pair ((cmpN_kind HCN.out).symm.trans hk)
          obtain ⟨ga, offa, u1, u2, v1, v2, rfl, hga, hla, hcx, hcy, hax, hay⟩ := HA.out.argsAt.two hxy
          obtain ⟨gb, offb, s1, s2, r1, r2, rfl, hgb, hlb, hcx2, hcy2, hax2, hay2⟩ := HB.out.argsAt.two hxy2
          have HGA := Lib.hid hga
          have HGB := Lib.hid hgb
          have HLA := Lib.hid hla
          have HLB := Lib.hid hlb
          have HPA := Lib.hid (And.intro hcx (And.intro hcy (And.intro hax hay)))
          have HPB := Lib.hid (And.intro hcx2 (And.intro hcy2 (And.intro hax2 hay2)))
          have HGX := Lib.hid (And.intro ((good_two HGa.out.fit hxy).1 HGa.out).1 (And.intro ((good_two HGa.out.fit hxy).1 HGa.out).2 ((good_two HGb.out.fit hxy2).1 HGb.out)))
          have HNX : Hid (nodesL a.args = x.nodes + y.nodes ∧ szL a.args = 2 + x.sz + y.sz ∧ szL b.args = 2 + x2.sz + y2.sz ∧ 1 ≤ x.nodes ∧ 1 ≤ y.nodes) := Lib.hid (by
            rw [hxy, hxy2]; simp only [nodesL, szL]; have := nodes_pos x; have := nodes_pos y; omega)
          have HCA : Hid (a.cmp b = cmpL [x, y] [x2, y2]) := Lib.hid (by rw [cmp_of_args HCN.out, hxy, hxy2])
          have HCW : Hid (∀ W, Below w2.heap.size w2 W → Below w2.heap.size w2 W) := Lib.hid fun W h => h
          clear hd hxy hxy2 hga hgb hla hlb hcx hcy hax hay hcx2 hcy2 hax2 hay2 hk
          go_upto_region 4 with (fail)
          go_cut [5] from 31 (fun c wx => c = .int .i64 (x.cmp x2) ∧ Below w2.heap.size w2 wx)
          case first =>
            have hself : Below w2.heap.size w2 w2 := Below.refl _ _
            have hdrew : Below w2.heap.size w2 w2.drew := hself.drew
            obtain ⟨c0a, c0b, c0c, c0d⟩ := HX.out.cells
            obtain ⟨c1a, c1b, c1c, c1d⟩ := HY.out.cells
            have z0 := HX.out.le
            have z1 := HY.out.le
            have HCE : Hid (∀ W, Below w2.heap.size w2 W → W.cell? ⟨w.heap.size, 0, none⟩ = some (.int .i64 a.kind) ∧ W.cell? ⟨w.heap.size, 1, none⟩ = some (.int .i64 a.num) ∧ W.cell? ⟨w.heap.size, 2, none⟩ = some (.string a.name) ∧ W.cell? ⟨w.heap.size, 3, none⟩ = some (.slice (some ⟨ga, offa, none⟩) a.args.length ca) ∧ W.cell? ⟨w.heap.size + 1, 0, none⟩ = some (.int .i64 b.kind) ∧ W.cell? ⟨w.heap.size + 1, 1, none⟩ = some (.int .i64 b.num) ∧ W.cell? ⟨w.heap.size + 1, 2, none⟩ = some (.string b.name) ∧ W.cell? ⟨w.heap.size + 1, 3, none⟩ = some (.slice (some ⟨gb, offb, none⟩) b.args.length cb)) := Lib.hid fun W hW => by
              obtain ⟨y0a, y0b, y0c, y0d⟩ := (HX.out.read hW).cells
              obtain ⟨y1a, y1b, y1c, y1d⟩ := (HY.out.read hW).cells
              exact ⟨y0a, y0b, y0c, y0d, y1a, y1b, y1c, y1d⟩
            have HTR : Hid (∀ a b, Below w2.heap.size w2 a → Below a.heap.size a b → Below w2.heap.size w2 b) := Lib.hid fun a b h1 h2 => belowOn h1 (Nat.le_refl _) h2
            have HH0 : Hid (∀ W, Below w2.heap.size w2 W → Calls Try.prog 25 #[.agg #[.int .i64 a.kind, .int .i64 a.num, .string a.name, .slice (some ⟨ga, offa, none⟩) a.args.length ca]] W fun e w' => e = .returned (.agg #[.int .i64 x.kind, .int .i64 x.num, .string x.name, .slice u1 x.args.length u2]) ∧ Below W.heap.size W w') := Lib.hid fun W hW => by
              obtain ⟨q0, q1, q2, q3⟩ := HPA.out.1 W (HCW.out W hW)
              exact head_any a.kind a.num a.name ga offa a.args.length ca _ _ _ _ _ _ W (Nat.lt_of_lt_of_le HGA.out (HCW.out W hW).size) (by have := HLA.out; omega) (by have := HLA.out; omega) q0 q1 q2 q3
            have HH1 : Hid (∀ W, Below w2.heap.size w2 W → Calls Try.prog 25 #[.agg #[.int .i64 b.kind, .int .i64 b.num, .string b.name, .slice (some ⟨gb, offb, none⟩) b.args.length cb]] W fun e w' => e = .returned (.agg #[.int .i64 x2.kind, .int .i64 x2.num, .string x2.name, .slice s1 x2.args.length s2]) ∧ Below W.heap.size W w') := Lib.hid fun W hW => by
              obtain ⟨q0, q1, q2, q3⟩ := HPB.out.1 W (HCW.out W hW)
              exact head_any b.kind b.num b.name gb offb b.args.length cb _ _ _ _ _ _ W (Nat.lt_of_lt_of_le HGB.out (HCW.out W hW).size) (by have := HLB.out; omega) (by have := HLB.out; omega) q0 q1 q2 q3
            have HCM : Hid (∀ W, Below w2.heap.size w2 W → Calls Try.prog 29 #[.agg #[.int .i64 x.kind, .int .i64 x.num, .string x.name, .slice u1 x.args.length u2], .agg #[.int .i64 x2.kind, .int .i64 x2.num, .string x2.name, .slice s1 x2.args.length s2]] W fun e w' => e = .returned (.int .i64 (x.cmp x2)) ∧ Below W.heap.size W w') := Lib.hid fun W hW =>
              HI.out x x2 _ _ W (by have := HNX.out; have := HNE.out; omega) (HPA.out.2.2.1.kept (HCW.out W hW)) (HPB.out.2.2.1.kept (HCW.out W hW)) (by have := HNX.out; have := HSa.out; omega) (by have := HNX.out; have := HSb.out; omega) HGX.out.1 HGX.out.2.2.1
            clear HX HY HW HI HPA HPB
            try clear HA HB
            go_region_held3 (fun w' => Below w2.heap.size w2 w' ∧ w'.cell? ⟨w.heap.size, 0, none⟩ = some (.int .i64 a.kind) ∧ w'.cell? ⟨w.heap.size, 1, none⟩ = some (.int .i64 a.num) ∧ w'.cell? ⟨w.heap.size, 2, none⟩ = some (.string a.name) ∧ w'.cell? ⟨w.heap.size, 3, none⟩ = some (.slice (some ⟨ga, offa, none⟩) a.args.length ca) ∧ w'.cell? ⟨w.heap.size + 1, 0, none⟩ = some (.int .i64 b.kind) ∧ w'.cell? ⟨w.heap.size + 1, 1, none⟩ = some (.int .i64 b.num) ∧ w'.cell? ⟨w.heap.size + 1, 2, none⟩ = some (.string b.name) ∧ w'.cell? ⟨w.heap.size + 1, 3, none⟩ = some (.slice (some ⟨gb, offb, none⟩) b.args.length cb)) (go_keep)
              (first
                | (go_at_call 25; refine Calls.mono (HH0.out _ ?_) ?_; (assumption); rintro e w' ⟨rfl, hb⟩; have hB' := HTR.out _ _ (by assumption) hb; obtain ⟨k0, k1, k2, k3, k4, k5, k6, k7⟩ := HCE.out _ hB')
                | (go_at_call 25; refine Calls.mono (HH1.out _ ?_) ?_; (assumption); rintro e w' ⟨rfl, hb⟩; have hB' := HTR.out _ _ (by assumption) hb; obtain ⟨k0, k1, k2, k3, k4, k5, k6, k7⟩ := HCE.out _ hB')
                | (go_at_call 29; refine Calls.mono (HCM.out _ ?_) ?_; (assumption); rintro e w' ⟨rfl, hb⟩; have hB' := HTR.out _ _ (by assumption) hb; obtain ⟨k0, k1, k2, k3, k4, k5, k6, k7⟩ := HCE.out _ hB'))
            all_goals (go_wp2_with fail; go_meet; exact ⟨rfl, by assumption⟩)
          case rest =>
            obtain ⟨rfl, hb⟩ := hcut
            obtain ⟨w3, rfl⟩ : ∃ x : World, x = wc := ⟨_, rfl⟩
            replace HX := Lib.hid (HX.out.read hb)
            replace HY := Lib.hid (HY.out.read hb)
            replace HW := Lib.hid (belowOn HW.out (Nat.le_refl _) hb)
            have HCW3 : Hid (∀ W, Below w3.heap.size w3 W → Below w2.heap.size w2 W) := Lib.hid fun W h => belowOn hb (Nat.le_refl _) h
            clear HA HB HCW
            have HCW := HCW3
            clear HCW3 hb
            by_cases hz : x.cmp x2 = 0
            · rw [hz]
              have HZ := Lib.hid hz
              clear hz
              go_upto_region 7 with (fail)
              go_cut [4] from 39 (fun c wx => c = .int .i64 (y.cmp y2) ∧ Below w3.heap.size w3 wx)
              case first =>
                have hself : Below w3.heap.size w3 w3 := Below.refl _ _
                have hdrew : Below w3.heap.size w3 w3.drew := hself.drew
                obtain ⟨c0a, c0b, c0c, c0d⟩ := HX.out.cells
                obtain ⟨c1a, c1b, c1c, c1d⟩ := HY.out.cells
                have z0 := HX.out.le
                have z1 := HY.out.le
                have HCE : Hid (∀ W, Below w3.heap.size w3 W → W.cell? ⟨w.heap.size, 0, none⟩ = some (.int .i64 a.kind) ∧ W.cell? ⟨w.heap.size, 1, none⟩ = some (.int .i64 a.num) ∧ W.cell? ⟨w.heap.size, 2, none⟩ = some (.string a.name) ∧ W.cell? ⟨w.heap.size, 3, none⟩ = some (.slice (some ⟨ga, offa, none⟩) a.args.length ca) ∧ W.cell? ⟨w.heap.size + 1, 0, none⟩ = some (.int .i64 b.kind) ∧ W.cell? ⟨w.heap.size + 1, 1, none⟩ = some (.int .i64 b.num) ∧ W.cell? ⟨w.heap.size + 1, 2, none⟩ = some (.string b.name) ∧ W.cell? ⟨w.heap.size + 1, 3, none⟩ = some (.slice (some ⟨gb, offb, none⟩) b.args.length cb)) := Lib.hid fun W hW => by
                  obtain ⟨y0a, y0b, y0c, y0d⟩ := (HX.out.read hW).cells
                  obtain ⟨y1a, y1b, y1c, y1d⟩ := (HY.out.read hW).cells
                  exact ⟨y0a, y0b, y0c, y0d, y1a, y1b, y1c, y1d⟩
                have HTR : Hid (∀ a b, Below w3.heap.size w3 a → Below a.heap.size a b → Below w3.heap.size w3 b) := Lib.hid fun a b h1 h2 => belowOn h1 (Nat.le_refl _) h2
                have HH0 : Hid (∀ W, Below w3.heap.size w3 W → Calls Try.prog 24 #[.agg #[.int .i64 a.kind, .int .i64 a.num, .string a.name, .slice (some ⟨ga, offa, none⟩) a.args.length ca]] W fun e w' => e = .returned (.agg #[.int .i64 y.kind, .int .i64 y.num, .string y.name, .slice v1 y.args.length v2]) ∧ Below W.heap.size W w') := Lib.hid fun W hW => by
                  obtain ⟨q0, q1, q2, q3⟩ := HPA.out.2.1 W (HCW.out W hW)
                  exact tail_any a.kind a.num a.name ga offa a.args.length ca _ _ _ _ _ _ W (Nat.lt_of_lt_of_le HGA.out (HCW.out W hW).size) (by have := HLA.out; omega) (by have := HLA.out; omega) q0 q1 q2 q3
                have HH1 : Hid (∀ W, Below w3.heap.size w3 W → Calls Try.prog 24 #[.agg #[.int .i64 b.kind, .int .i64 b.num, .string b.name, .slice (some ⟨gb, offb, none⟩) b.args.length cb]] W fun e w' => e = .returned (.agg #[.int .i64 y2.kind, .int .i64 y2.num, .string y2.name, .slice r1 y2.args.length r2]) ∧ Below W.heap.size W w') := Lib.hid fun W hW => by
                  obtain ⟨q0, q1, q2, q3⟩ := HPB.out.2.1 W (HCW.out W hW)
                  exact tail_any b.kind b.num b.name gb offb b.args.length cb _ _ _ _ _ _ W (Nat.lt_of_lt_of_le HGB.out (HCW.out W hW).size) (by have := HLB.out; omega) (by have := HLB.out; omega) q0 q1 q2 q3
                have HCM : Hid (∀ W, Below w3.heap.size w3 W → Calls Try.prog 29 #[.agg #[.int .i64 y.kind, .int .i64 y.num, .string y.name, .slice v1 y.args.length v2], .agg #[.int .i64 y2.kind, .int .i64 y2.num, .string y2.name, .slice r1 y2.args.length r2]] W fun e w' => e = .returned (.int .i64 (y.cmp y2)) ∧ Below W.heap.size W w') := Lib.hid fun W hW =>
                  HI.out y y2 _ _ W (by have := HNX.out; have := HNE.out; omega) (HPA.out.2.2.2.kept (HCW.out W hW)) (HPB.out.2.2.2.kept (HCW.out W hW)) (by have := HNX.out; have := HSa.out; omega) (by have := HNX.out; have := HSb.out; omega) HGX.out.2.1 HGX.out.2.2.2
                clear HX HY HW HI HPA HPB
                try clear HA HB
                go_region_held3 (fun w' => Below w3.heap.size w3 w' ∧ w'.cell? ⟨w.heap.size, 0, none⟩ = some (.int .i64 a.kind) ∧ w'.cell? ⟨w.heap.size, 1, none⟩ = some (.int .i64 a.num) ∧ w'.cell? ⟨w.heap.size, 2, none⟩ = some (.string a.name) ∧ w'.cell? ⟨w.heap.size, 3, none⟩ = some (.slice (some ⟨ga, offa, none⟩) a.args.length ca) ∧ w'.cell? ⟨w.heap.size + 1, 0, none⟩ = some (.int .i64 b.kind) ∧ w'.cell? ⟨w.heap.size + 1, 1, none⟩ = some (.int .i64 b.num) ∧ w'.cell? ⟨w.heap.size + 1, 2, none⟩ = some (.string b.name) ∧ w'.cell? ⟨w.heap.size + 1, 3, none⟩ = some (.slice (some ⟨gb, offb, none⟩) b.args.length cb)) (go_keep)
                  (first
                    | (go_at_call 24; refine Calls.mono (HH0.out _ ?_) ?_; (assumption); rintro e w' ⟨rfl, hb⟩; have hB' := HTR.out _ _ (by assumption) hb; obtain ⟨k0, k1, k2, k3, k4, k5, k6, k7⟩ := HCE.out _ hB')
                    | (go_at_call 24; refine Calls.mono (HH1.out _ ?_) ?_; (assumption); rintro e w' ⟨rfl, hb⟩; have hB' := HTR.out _ _ (by assumption) hb; obtain ⟨k0, k1, k2, k3, k4, k5, k6, k7⟩ := HCE.out _ hB')
                    | (go_at_call 29; refine Calls.mono (HCM.out _ ?_) ?_; (assumption); rintro e w' ⟨rfl, hb⟩; have hB' := HTR.out _ _ (by assumption) hb; obtain ⟨k0, k1, k2, k3, k4, k5, k6, k7⟩ := HCE.out _ hB'))
                all_goals (go_wp2_with fail; go_meet; exact ⟨rfl, by assumption⟩)
              case rest =>
                obtain ⟨rfl, hb⟩ := hcut
                obtain ⟨w4, rfl⟩ : ∃ x : World, x = wc := ⟨_, rfl⟩
                replace HW := Lib.hid (belowOn HW.out (Nat.le_refl _) hb)
                clear hb
                go_wp2
                go_ret
                exact ⟨by rw [HCA.out, cmpL_two HZ.out, cmpL_last]; rfl, HW.out⟩
            · have HZ := Lib.hid hz
              go_wp2
              go_ret
              exact ⟨by rw [HCA.out, cmpL_one HZ.out]; rfl, HW.out⟩
        · have hd : decide (a.kind = 4) = false := decide_eq_false hk
          rw [hd]
          have HAT := Lib.hid (HGa.out.fit.atom hk)
          clear hd hk
          go_wp2
          go_ret
          exact ⟨by rw [cmp_of_args HCN.out, HAT.out, cmpL]; rfl, HW.out⟩
      · have HCN := Lib.hid (cmp_of_num hc)
        go_wp2
        go_ret
        exact ⟨by rw [HCN.out]; rfl, HW.out⟩
end Go.Proofs.Ytokndpmoamjbfaa

