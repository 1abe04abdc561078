/-
  The law of terms (FnTerms), walked.
-/
import Derived.Test.YtokndpmoamjbfaaSames
import Derived.Test.YtokndpmoamjbfaaDrawMake
import Derived.Deep.RegionHeld3
import Derived.Deep.Cut
namespace Go.Proofs.Ytokndpmoamjbfaa
open Go.RowKit
set_option linter.unusedVariables false
set_option linter.unusedSimpArgs false

theorem good_sz5 {t : Tm} (h : Good t) (hn : t.nodes ≤ 5000) : t.sz ≤ 1048576 := by have := good_sz h; omega
theorem occB_int {v : Int} {t : Tm} (h : Good t) (hn : t.nodes ≤ 5000) : occB v t = decide ((0 : Int) < ((t.occ v : Nat) : Int)) := by
  rw [occB, okB_true.2 ⟨hn, h⟩, Bool.true_and]
  by_cases h0 : 0 < t.occ v
  · rw [decide_eq_true h0, decide_eq_true (by omega)]
  · rw [decide_eq_false h0, decide_eq_false (by omega)]

set_option maxHeartbeats 16000000 in
set_option maxRecDepth 100000 in
theorem walkTerms (w : World) (a : Option Addr) (len cap : Nat) (zs : List Int) (hrow : ByteRow w a len cap zs) :
    Calls Try.prog 3 #[.slice a len cap] w fun e w' => e = .returned (.bool true) ∧ Below w.heap.size w w' := by
  obtain ⟨hby, hmx⟩ := hrow.bytes
  clear hrow
  unfold maxLen at hmx
  have HY := Lib.hid hby
  have HW : Hid (Below w.heap.size w w) := Lib.hid (Below.refl _ _)
  clear hby
  by_cases h : 1048576 < (len : Int)
  · go_enter Try.func3, Try.ntmps3
    go_wp2
    go_ret
    exact ⟨rfl, Below.refl _ _⟩
  have hl : len ≤ 1048576 := by omega
  clear h hmx
  go_enter Try.func3, Try.ntmps3
  go_wp2_with fail
  refine (makeTerm_any a len cap 0 14 3 _ HY.out hl (by decide) (by decide) (by decide) (by decide) (by decide)).mono ?_
  rintro e w1 ⟨t, xt, ct, rfl, ht, hgt, hnt, hb⟩
  replace HW := Lib.hid (belowOn HW.out (Nat.le_refl _) hb)
  replace HY := Lib.hid (HY.out.kept (hb))
  have HAT := Lib.hid (at_args ht)
  clear hb ht
  go_upto_region 4 with (fail)
  have hal : Below w1.heap.size w1 (w1.alloc (.cells #[.int .i64 t.kind, .int .i64 t.num, .string t.name, .slice xt t.args.length ct] 25)) := belowAlloc (Below.refl _ _) _
  replace HAT := Lib.hid (HAT.out.read hal)
  replace HW := Lib.hid (belowOn HW.out (Nat.le_refl _) hal)
  replace HY := Lib.hid (HY.out.kept (hal))
  have HBT := Lib.hid (at_box w1 #[.int .i64 t.kind, .int .i64 t.num, .string t.name, .slice xt t.args.length ct] 25)
  clear hal
  generalize hwx : w1.alloc (.cells #[.int .i64 t.kind, .int .i64 t.num, .string t.name, .slice xt t.args.length ct] 25) = w1x at HAT HBT HW HY ⊢
  clear hwx
  go_wp2_with fail
  refine (makeTerm_any a len cap 20 14 3 _ HY.out hl (by decide) (by decide) (by decide) (by decide) (by decide)).mono ?_
  rintro e w2 ⟨b, xb, cb, rfl, hbt, hgb, hnb, hb⟩
  replace HAT := Lib.hid (HAT.out.read hb)
  replace HBT := Lib.hid (HBT.out.read hb)
  replace HW := Lib.hid (belowOn HW.out (Nat.le_refl _) hb)
  replace HY := Lib.hid (HY.out.kept (hb))
  have HAB := Lib.hid (at_args hbt)
  clear hb hbt
  go_upto_region 5 with (fail)
  have hal : Below w2.heap.size w2 (w2.alloc (.cells #[.int .i64 b.kind, .int .i64 b.num, .string b.name, .slice xb b.args.length cb] 25)) := belowAlloc (Below.refl _ _) _
  replace HAT := Lib.hid (HAT.out.read hal)
  replace HBT := Lib.hid (HBT.out.read hal)
  replace HAB := Lib.hid (HAB.out.read hal)
  replace HW := Lib.hid (belowOn HW.out (Nat.le_refl _) hal)
  replace HY := Lib.hid (HY.out.kept (hal))
  have HBB := Lib.hid (at_box w2 #[.int .i64 b.kind, .int .i64 b.num, .string b.name, .slice xb b.args.length cb] 25)
  clear hal
  generalize hwx : w2.alloc (.cells #[.int .i64 b.kind, .int .i64 b.num, .string b.name, .slice xb b.args.length cb] 25) = w2x at HAT HBT HAB HBB HW HY ⊢
  clear hwx
  go_wp2_with fail
  refine (makeSize_any a len cap 40 0 2 _ HY.out hl (by decide) (by decide) (by decide) (by decide)).mono ?_
  rintro e w3 ⟨⟨v, rfl, v0, v1⟩, hb⟩
  replace HAT := Lib.hid (HAT.out.read hb)
  replace HBT := Lib.hid (HBT.out.read hb)
  replace HAB := Lib.hid (HAB.out.read hb)
  replace HBB := Lib.hid (HBB.out.read hb)
  replace HW := Lib.hid (belowOn HW.out (Nat.le_refl _) hb)
  replace HY := Lib.hid (HY.out.kept (hb))
  clear hb
  have HFA := Lib.hid (terms_facts v hgt hgb (by omega) (by omega))
  have htn : t.nodes ≤ 27 := by omega
  have hbn : b.nodes ≤ 27 := by omega
  have htz := good_sz5 hgt (by omega)
  have hbz := good_sz5 hgb (by omega)
  have HGT := Lib.hid hgt
  have HGB := Lib.hid hgb
  clear hgt hgb hnt hnb
  have HC := Lib.hid (implReplaceVar_any t _ v b _ w3 HAT.out.argsAt htz HAB.out.argsAt hbz)
  obtain ⟨pa, pb, pc, pd⟩ := HBT.out.cells
  have zp := HBT.out.le
  obtain ⟨qa, qb, qc, qd⟩ := HBB.out.cells
  have zq := HBB.out.le
  go_wp2_with fail
  refine HC.out.mono ?_
  rintro e w4 ⟨u, rfl, hn⟩
  have hb := hn.2
  obtain ⟨xr, cr, rfl⟩ := hn.1.argsAt.slice
  replace HAT := Lib.hid (HAT.out.read hb)
  replace HBT := Lib.hid (HBT.out.read hb)
  replace HAB := Lib.hid (HAB.out.read hb)
  replace HBB := Lib.hid (HBB.out.read hb)
  replace HW := Lib.hid (belowOn HW.out (Nat.le_refl _) hb)
  replace HY := Lib.hid (HY.out.kept (hb))
  have HAR := Lib.hid (at_args hn.1.argsAt)
  clear hb hn HC
  clear pa pb pc pd zp
  clear qa qb qc qd zq
  obtain ⟨⟨f1, f2, f3, f4, f5⟩, f6, ⟨f7, f8⟩, ⟨f9, f10⟩⟩ := HFA.out
  rw [f1]
  have HGR := Lib.hid f2
  have HE1 := Lib.hid f3
  have HE2 := Lib.hid f4
  have HLT := Lib.hid f6
  have hrz := good_sz5 f2 (by omega)
  have hrn := f5
  have hto := occ_nodes v t
  have hbo := occ_nodes v b
  have htp := nodes_pos t
  have hbp := nodes_pos b
  clear f1 f2 f3 f4 f5 f6 HFA
  generalize rvT t v b = r at HAR HGR HE1 HE2 hrz hrn ⊢
  go_upto_region 7 with (fail)
  have hal : Below w4.heap.size w4 (w4.alloc (.cells #[.int .i64 r.kind, .int .i64 r.num, .string r.name, .slice xr r.args.length cr] 25)) := belowAlloc (Below.refl _ _) _
  replace HAT := Lib.hid (HAT.out.read hal)
  replace HBT := Lib.hid (HBT.out.read hal)
  replace HAB := Lib.hid (HAB.out.read hal)
  replace HBB := Lib.hid (HBB.out.read hal)
  replace HAR := Lib.hid (HAR.out.read hal)
  replace HW := Lib.hid (belowOn HW.out (Nat.le_refl _) hal)
  replace HY := Lib.hid (HY.out.kept (hal))
  have HBR := Lib.hid (at_box w4 #[.int .i64 r.kind, .int .i64 r.num, .string r.name, .slice xr r.args.length cr] 25)
  clear hal
  generalize hwx : w4.alloc (.cells #[.int .i64 r.kind, .int .i64 r.num, .string r.name, .slice xr r.args.length cr] 25) = w4x at HAT HBT HAB HBB HAR HBR HW HY ⊢
  clear hwx
  have hself : Below w4x.heap.size w4x w4x := Below.refl _ _
  have hdrew : Below w4x.heap.size w4x w4x.drew := hself.drew
  have St : Hid (∀ W, Below w4x.heap.size w4x W → Calls Try.prog 8 #[.agg #[.int .i64 t.kind, .int .i64 t.num, .string t.name, .slice xt t.args.length ct]] W fun e w' => e = .returned (.int .i64 (t.nodes : Nat)) ∧ Below W.heap.size W w') := Lib.hid fun W hW => by
    rw [← size_ok ⟨by omega, HGT.out⟩]; exact implTermSize_any t _ W (HAT.out.argsAt.kept hW) htz
  have Nt : Hid (∀ W, Below w4x.heap.size w4x W → Calls Try.prog 9 #[.agg #[.int .i64 t.kind, .int .i64 t.num, .string t.name, .slice xt t.args.length ct], .int .i64 v] W fun e w' => e = .returned (.int .i64 (t.occ v : Nat)) ∧ Below W.heap.size W w') := Lib.hid fun W hW => counted_any (t.nodes + 1) t _ v W (Nat.lt_succ_self _) (HAT.out.argsAt.kept hW) htz HGT.out
  have Sb : Hid (∀ W, Below w4x.heap.size w4x W → Calls Try.prog 8 #[.agg #[.int .i64 b.kind, .int .i64 b.num, .string b.name, .slice xb b.args.length cb]] W fun e w' => e = .returned (.int .i64 (b.nodes : Nat)) ∧ Below W.heap.size W w') := Lib.hid fun W hW => by
    rw [← size_ok ⟨by omega, HGB.out⟩]; exact implTermSize_any b _ W (HAB.out.argsAt.kept hW) hbz
  have Nb : Hid (∀ W, Below w4x.heap.size w4x W → Calls Try.prog 9 #[.agg #[.int .i64 b.kind, .int .i64 b.num, .string b.name, .slice xb b.args.length cb], .int .i64 v] W fun e w' => e = .returned (.int .i64 (b.occ v : Nat)) ∧ Below W.heap.size W w') := Lib.hid fun W hW => counted_any (b.nodes + 1) b _ v W (Nat.lt_succ_self _) (HAB.out.argsAt.kept hW) hbz HGB.out
  have Sr : Hid (∀ W, Below w4x.heap.size w4x W → Calls Try.prog 8 #[.agg #[.int .i64 r.kind, .int .i64 r.num, .string r.name, .slice xr r.args.length cr]] W fun e w' => e = .returned (.int .i64 (r.nodes : Nat)) ∧ Below W.heap.size W w') := Lib.hid fun W hW => by
    rw [← size_ok ⟨by omega, HGR.out⟩]; exact implTermSize_any r _ W (HAR.out.argsAt.kept hW) hrz
  have Nr : Hid (∀ W, Below w4x.heap.size w4x W → Calls Try.prog 9 #[.agg #[.int .i64 r.kind, .int .i64 r.num, .string r.name, .slice xr r.args.length cr], .int .i64 v] W fun e w' => e = .returned (.int .i64 (r.occ v : Nat)) ∧ Below W.heap.size W w') := Lib.hid fun W hW => counted_any (r.nodes + 1) r _ v W (Nat.lt_succ_self _) (HAR.out.argsAt.kept hW) hrz HGR.out
  have OC : Hid (∀ W, Below w4x.heap.size w4x W → Calls Try.prog 10 #[.int .i64 v, .agg #[.int .i64 t.kind, .int .i64 t.num, .string t.name, .slice xt t.args.length ct]] W fun e w' => e = .returned (.bool (decide ((0 : Int) < ((t.occ v : Nat) : Int)))) ∧ Below W.heap.size W w') := Lib.hid fun W hW => by
    rw [← occB_int HGT.out (by omega)]; exact implOccursIn_any v t _ W (HAT.out.argsAt.kept hW) htz
  have HCE : Hid (∀ W, Below w4x.heap.size w4x W → W.cell? ⟨w1.heap.size, 0, none⟩ = some (.int .i64 t.kind) ∧ W.cell? ⟨w1.heap.size, 1, none⟩ = some (.int .i64 t.num) ∧ W.cell? ⟨w1.heap.size, 2, none⟩ = some (.string t.name) ∧ W.cell? ⟨w1.heap.size, 3, none⟩ = some (.slice xt t.args.length ct) ∧ W.cell? ⟨w2.heap.size, 0, none⟩ = some (.int .i64 b.kind) ∧ W.cell? ⟨w2.heap.size, 1, none⟩ = some (.int .i64 b.num) ∧ W.cell? ⟨w2.heap.size, 2, none⟩ = some (.string b.name) ∧ W.cell? ⟨w2.heap.size, 3, none⟩ = some (.slice xb b.args.length cb) ∧ W.cell? ⟨w4.heap.size, 0, none⟩ = some (.int .i64 r.kind) ∧ W.cell? ⟨w4.heap.size, 1, none⟩ = some (.int .i64 r.num) ∧ W.cell? ⟨w4.heap.size, 2, none⟩ = some (.string r.name) ∧ W.cell? ⟨w4.heap.size, 3, none⟩ = some (.slice xr r.args.length cr)) := Lib.hid fun W hW => by
    obtain ⟨y0a, y0b, y0c, y0d⟩ := (HBT.out.read hW).cells
    obtain ⟨y1a, y1b, y1c, y1d⟩ := (HBB.out.read hW).cells
    obtain ⟨y2a, y2b, y2c, y2d⟩ := (HBR.out.read hW).cells
    exact ⟨y0a, y0b, y0c, y0d, y1a, y1b, y1c, y1d, y2a, y2b, y2c, y2d⟩
  have HTR : Hid (∀ a b, Below w4x.heap.size w4x a → Below a.heap.size a b → Below w4x.heap.size w4x b) := Lib.hid fun a b h1 h2 => belowOn h1 (Nat.le_refl _) h2
  have hTn : (r.nodes : Int) = t.nodes + (t.occ v : Int) * ((b.nodes : Int) - 1) := HE1.out
  have hQn : ((r.occ v : Nat) : Int) = (t.occ v : Int) * (b.occ v : Int) := HE2.out
  rw [hTn] at Sr
  rw [hQn] at Nr
  have HTN := Lib.hid hTn
  clear hTn hQn HE1 HE2
  obtain ⟨T, hT0, hT1, hT2⟩ : ∃ T : Int, T = (t.nodes : Nat) ∧ 1 ≤ T ∧ T ≤ 27 := ⟨_, rfl, by omega, by omega⟩
  obtain ⟨M, hM0, hM1, hM2⟩ : ∃ M : Int, M = (b.nodes : Nat) ∧ 1 ≤ M ∧ M ≤ 27 := ⟨_, rfl, by omega, by omega⟩
  obtain ⟨n, hn0, hn1, hn2⟩ : ∃ n : Int, n = (t.occ v : Nat) ∧ 0 ≤ n ∧ n ≤ 27 := ⟨_, rfl, by omega, by omega⟩
  obtain ⟨m, hm0, hm1, hm2⟩ : ∃ m : Int, m = (b.occ v : Nat) ∧ 0 ≤ m ∧ m ≤ 27 := ⟨_, rfl, by omega, by omega⟩
  rw [← hT0, ← hM0, ← hn0] at Sr
  rw [← hT0] at St
  rw [← hM0] at Sb
  rw [← hn0] at Nt OC
  rw [← hm0] at Nb
  rw [← hn0, ← hm0] at Nr
  rw [← hn0, ← hM0] at f7 f8
  rw [← hn0, ← hm0] at f9 f10
  clear hT0 hM0 hn0 hm0 HTN
  have g1 : IntKind.i64.wrap (M - 1) = M - 1 := IntWalk.i64_in _ (by omega)
  have g2 : IntKind.i64.wrap (n * (M - 1)) = n * (M - 1) := IntWalk.i64_in _ (by omega)
  have g3 : IntKind.i64.wrap (T + n * (M - 1)) = T + n * (M - 1) := IntWalk.i64_in _ (by omega)
  have g4 : IntKind.i64.wrap (n * m) = n * m := IntWalk.i64_in _ (by omega)
  go_cut [8] from 29 (fun c wx => c = .int .i64 (T + n * (M - 1)) ∧ Below w4x.heap.size w4x wx)
  case first =>
    obtain ⟨k0, k1, k2, k3, k4, k5, k6, k7, k8, k9, k10, k11⟩ := HCE.out w4x hself
    go_region_held3 (fun w' => Below w4x.heap.size w4x w' ∧ w'.cell? ⟨w1.heap.size, 0, none⟩ = some (.int .i64 t.kind) ∧ w'.cell? ⟨w1.heap.size, 1, none⟩ = some (.int .i64 t.num) ∧ w'.cell? ⟨w1.heap.size, 2, none⟩ = some (.string t.name) ∧ w'.cell? ⟨w1.heap.size, 3, none⟩ = some (.slice xt t.args.length ct) ∧ w'.cell? ⟨w2.heap.size, 0, none⟩ = some (.int .i64 b.kind) ∧ w'.cell? ⟨w2.heap.size, 1, none⟩ = some (.int .i64 b.num) ∧ w'.cell? ⟨w2.heap.size, 2, none⟩ = some (.string b.name) ∧ w'.cell? ⟨w2.heap.size, 3, none⟩ = some (.slice xb b.args.length cb) ∧ w'.cell? ⟨w4.heap.size, 0, none⟩ = some (.int .i64 r.kind) ∧ w'.cell? ⟨w4.heap.size, 1, none⟩ = some (.int .i64 r.num) ∧ w'.cell? ⟨w4.heap.size, 2, none⟩ = some (.string r.name) ∧ w'.cell? ⟨w4.heap.size, 3, none⟩ = some (.slice xr r.args.length cr)) (go_keep)
      (first
        | (go_at_call 8; (with_reducible refine Calls.mono (St.out _ ?_) ?_); (assumption); rintro e w' ⟨rfl, hb⟩; have hB' := HTR.out _ _ (by assumption) hb; obtain ⟨k0, k1, k2, k3, k4, k5, k6, k7, k8, k9, k10, k11⟩ := HCE.out _ hB')
        | (go_at_call 8; (with_reducible refine Calls.mono (Sb.out _ ?_) ?_); (assumption); rintro e w' ⟨rfl, hb⟩; have hB' := HTR.out _ _ (by assumption) hb; obtain ⟨k0, k1, k2, k3, k4, k5, k6, k7, k8, k9, k10, k11⟩ := HCE.out _ hB')
        | (go_at_call 9; (with_reducible refine Calls.mono (Nt.out _ ?_) ?_); (assumption); rintro e w' ⟨rfl, hb⟩; have hB' := HTR.out _ _ (by assumption) hb; obtain ⟨k0, k1, k2, k3, k4, k5, k6, k7, k8, k9, k10, k11⟩ := HCE.out _ hB'))
    all_goals (go_wp2_with fail; go_meet; exact ⟨rfl, by assumption⟩)
  case rest =>
    obtain ⟨rfl, hb⟩ := hcut
    obtain ⟨w5, rfl⟩ : ∃ x : World, x = wc := ⟨_, rfl⟩
    have HB5 := Lib.hid hb
    clear hb hself hdrew
    have hself : Below w4x.heap.size w4x w5 := HB5.out
    have hdrew : Below w4x.heap.size w4x w5.drew := hself.drew
    have g5 : decide (T + n * (M - 1) ≤ 5000) = true := decide_eq_true (by omega)
    have g6 : (decide ((0 : Int) < n) != decide ((0 : Int) < n)) = false := bne_self_eq_false _
    have g7 : (T + n * (M - 1) != T + n * (M - 1)) = false := bne_self_eq_false _
    have g8 : (n * m != n * m) = false := bne_self_eq_false _
    go_upto_region 8 with (fail)
    go_cut [74] from 39 (fun c wx => c = .bool false ∧ Below w4x.heap.size w4x wx)
    case first =>
      obtain ⟨k0, k1, k2, k3, k4, k5, k6, k7, k8, k9, k10, k11⟩ := HCE.out w5 hself
      go_region_held3 (fun w' => Below w4x.heap.size w4x w' ∧ w'.cell? ⟨w1.heap.size, 0, none⟩ = some (.int .i64 t.kind) ∧ w'.cell? ⟨w1.heap.size, 1, none⟩ = some (.int .i64 t.num) ∧ w'.cell? ⟨w1.heap.size, 2, none⟩ = some (.string t.name) ∧ w'.cell? ⟨w1.heap.size, 3, none⟩ = some (.slice xt t.args.length ct) ∧ w'.cell? ⟨w2.heap.size, 0, none⟩ = some (.int .i64 b.kind) ∧ w'.cell? ⟨w2.heap.size, 1, none⟩ = some (.int .i64 b.num) ∧ w'.cell? ⟨w2.heap.size, 2, none⟩ = some (.string b.name) ∧ w'.cell? ⟨w2.heap.size, 3, none⟩ = some (.slice xb b.args.length cb) ∧ w'.cell? ⟨w4.heap.size, 0, none⟩ = some (.int .i64 r.kind) ∧ w'.cell? ⟨w4.heap.size, 1, none⟩ = some (.int .i64 r.num) ∧ w'.cell? ⟨w4.heap.size, 2, none⟩ = some (.string r.name) ∧ w'.cell? ⟨w4.heap.size, 3, none⟩ = some (.slice xr r.args.length cr)) (go_keep)
        (first
          | (go_at_call 10; (with_reducible refine Calls.mono (OC.out _ ?_) ?_); (assumption); rintro e w' ⟨rfl, hb⟩; have hB' := HTR.out _ _ (by assumption) hb; obtain ⟨k0, k1, k2, k3, k4, k5, k6, k7, k8, k9, k10, k11⟩ := HCE.out _ hB')
          | (go_at_call 9; (with_reducible refine Calls.mono (Nt.out _ ?_) ?_); (assumption); rintro e w' ⟨rfl, hb⟩; have hB' := HTR.out _ _ (by assumption) hb; obtain ⟨k0, k1, k2, k3, k4, k5, k6, k7, k8, k9, k10, k11⟩ := HCE.out _ hB')
          | (go_at_call 8; (with_reducible refine Calls.mono (Sr.out _ ?_) ?_); (assumption); rintro e w' ⟨rfl, hb⟩; have hB' := HTR.out _ _ (by assumption) hb; obtain ⟨k0, k1, k2, k3, k4, k5, k6, k7, k8, k9, k10, k11⟩ := HCE.out _ hB')
          | (go_at_call 9; (with_reducible refine Calls.mono (Nr.out _ ?_) ?_); (assumption); rintro e w' ⟨rfl, hb⟩; have hB' := HTR.out _ _ (by assumption) hb; obtain ⟨k0, k1, k2, k3, k4, k5, k6, k7, k8, k9, k10, k11⟩ := HCE.out _ hB')
          | (go_at_call 9; (with_reducible refine Calls.mono (Nb.out _ ?_) ?_); (assumption); rintro e w' ⟨rfl, hb⟩; have hB' := HTR.out _ _ (by assumption) hb; obtain ⟨k0, k1, k2, k3, k4, k5, k6, k7, k8, k9, k10, k11⟩ := HCE.out _ hB'))
      all_goals (go_wp2_with fail; go_meet; exact ⟨rfl, by assumption⟩)
    case rest =>
      obtain ⟨rfl, hb⟩ := hcut
      obtain ⟨w6, rfl⟩ : ∃ x : World, x = wc := ⟨_, rfl⟩
      clear HCE HTR hself hdrew HB5 St Sb Sr Nt Nb Nr OC g1 g2 g3 g4 g5 g6 g7 g8 f7 f8 f9 f10 hT1 hT2 hM1 hM2 hn1 hn2 hm1 hm2 hrn hrz HGR HGB HBR HAR HBB HAB
      replace HAT := Lib.hid (HAT.out.read hb)
      replace HBT := Lib.hid (HBT.out.read hb)
      replace HW := Lib.hid (belowOn HW.out (Nat.le_refl _) hb)
      replace HY := Lib.hid (HY.out.kept (hb))
      clear hb
      have HC := Lib.hid (implItemsOf_any t _ w6 HAT.out.argsAt htz)
      obtain ⟨pa, pb, pc, pd⟩ := HBT.out.cells
      have zp := HBT.out.le
      go_wp2_with fail
      refine HC.out.mono ?_
      rintro e w7 ⟨mid, uv, ul, rfl, hm1, hm2, hv, hu, hb⟩
      obtain ⟨xl, cl, rfl⟩ := hu.argsAt.slice
      obtain ⟨xv, cv, rfl⟩ := hv.argsAt.slice
      replace HAT := Lib.hid (HAT.out.read hb)
      replace HBT := Lib.hid (HBT.out.read hb)
      replace HW := Lib.hid (belowOn HW.out (Nat.le_refl _) hb)
      replace HY := Lib.hid (HY.out.kept (hb))
      have HAV := Lib.hid (at_args hv.argsAt)
      have HAL := Lib.hid (at_args hu.argsAt)
      clear hb hv hu hm1 hm2 HC
      clear pa pb pc pd zp
      obtain ⟨l1, l2, l3⟩ := HLT.out
      have hiz := it_szL htz
      have hlz := it_sz htz
      have HCL := Lib.hid (fun W (h1 : ArgsAt W _ (itT t)) (h2 : ArgsAt W _ (itL t).args) => implListTerm_any (itT t) (.slice xv (itT t).length cv) (itL t) (.slice xl (itL t).args.length cl) W h1 hiz h2 hlz)
      have hk4 : ((itL t).kind != 4) = true := by simp [l3]
      rw [l1, l2] at HCL
      clear l1 l2 l3 HLT hiz hlz
      generalize itL t = q at HAL HCL hk4 ⊢
      generalize itT t = xs at HAV HCL ⊢
      go_upto_region 11 with (fail)
      have hal : Below w7.heap.size w7 (w7.alloc (.cells #[.int .i64 q.kind, .int .i64 q.num, .string q.name, .slice xl q.args.length cl] 25)) := belowAlloc (Below.refl _ _) _
      replace HAT := Lib.hid (HAT.out.read hal)
      replace HBT := Lib.hid (HBT.out.read hal)
      replace HAV := Lib.hid (HAV.out.read hal)
      replace HAL := Lib.hid (HAL.out.read hal)
      replace HW := Lib.hid (belowOn HW.out (Nat.le_refl _) hal)
      replace HY := Lib.hid (HY.out.kept (hal))
      have HBL := Lib.hid (at_box w7 #[.int .i64 q.kind, .int .i64 q.num, .string q.name, .slice xl q.args.length cl] 25)
      clear hal
      generalize hwx : w7.alloc (.cells #[.int .i64 q.kind, .int .i64 q.num, .string q.name, .slice xl q.args.length cl] 25) = w7x at HAT HBT HAV HAL HBL HW HY ⊢
      clear hwx
      have HC := Lib.hid (HCL.out _ HAV.out.argsAt HAL.out.argsAt)
      obtain ⟨pa, pb, pc, pd⟩ := HBL.out.cells
      have zp := HBL.out.le
      go_wp2_with fail
      refine HC.out.mono ?_
      rintro e w8 ⟨uu, rfl, hn⟩
      have hb := hn.2
      obtain ⟨xu, cu, rfl⟩ := hn.1.argsAt.slice
      replace HAT := Lib.hid (HAT.out.read hb)
      replace HBT := Lib.hid (HBT.out.read hb)
      replace HAV := Lib.hid (HAV.out.read hb)
      replace HAL := Lib.hid (HAL.out.read hb)
      replace HBL := Lib.hid (HBL.out.read hb)
      replace HW := Lib.hid (belowOn HW.out (Nat.le_refl _) hb)
      replace HY := Lib.hid (HY.out.kept (hb))
      have HAU := Lib.hid (at_args hn.1.argsAt)
      clear hb hn HC HCL
      clear pa pb pc pd zp
      go_upto_region 12 with (fail)
      have hal : Below w8.heap.size w8 (w8.alloc (.cells #[.int .i64 t.kind, .int .i64 t.num, .string t.name, .slice xu t.args.length cu] 25)) := belowAlloc (Below.refl _ _) _
      replace HAT := Lib.hid (HAT.out.read hal)
      replace HBT := Lib.hid (HBT.out.read hal)
      replace HAV := Lib.hid (HAV.out.read hal)
      replace HAL := Lib.hid (HAL.out.read hal)
      replace HBL := Lib.hid (HBL.out.read hal)
      replace HAU := Lib.hid (HAU.out.read hal)
      replace HW := Lib.hid (belowOn HW.out (Nat.le_refl _) hal)
      replace HY := Lib.hid (HY.out.kept (hal))
      have HBU := Lib.hid (at_box w8 #[.int .i64 t.kind, .int .i64 t.num, .string t.name, .slice xu t.args.length cu] 25)
      clear hal
      generalize hwx : w8.alloc (.cells #[.int .i64 t.kind, .int .i64 t.num, .string t.name, .slice xu t.args.length cu] 25) = w8x at HAT HBT HAV HAL HBL HAU HBU HW HY ⊢
      clear hwx
      have HC := Lib.hid (same_any (t.nodes + 1) t t _ _ w8x (Nat.lt_succ_self _) HAU.out.argsAt HAT.out.argsAt htz htz HGT.out HGT.out)
      rw [show (t.cmp t == 0) = true from by rw [cmp_self]; rfl] at HC
      obtain ⟨pa, pb, pc, pd⟩ := HBT.out.cells
      have zp := HBT.out.le
      obtain ⟨qa, qb, qc, qd⟩ := HBU.out.cells
      have zq := HBU.out.le
      obtain ⟨sa, sb, sc, sd⟩ := HBL.out.cells
      have zs := HBL.out.le
      go_wp2_with fail
      refine HC.out.mono ?_
      rintro e w9 ⟨rfl, hb⟩
      clear pa pb pc pd zp
      clear qa qb qc qd zq
      clear sa sb sc sd zs
      replace HAT := Lib.hid (HAT.out.read hb)
      replace HBT := Lib.hid (HBT.out.read hb)
      replace HAV := Lib.hid (HAV.out.read hb)
      replace HAL := Lib.hid (HAL.out.read hb)
      replace HBL := Lib.hid (HBL.out.read hb)
      replace HAU := Lib.hid (HAU.out.read hb)
      replace HBU := Lib.hid (HBU.out.read hb)
      replace HW := Lib.hid (belowOn HW.out (Nat.le_refl _) hb)
      replace HY := Lib.hid (HY.out.kept (hb))
      clear hb HC
      have HC := Lib.hid (implTermOk_any t _ w9 HAT.out.argsAt htz)
      rw [okB_true.2 ⟨by omega, HGT.out⟩] at HC
      obtain ⟨pa, pb, pc, pd⟩ := HBT.out.cells
      have zp := HBT.out.le
      obtain ⟨sa, sb, sc, sd⟩ := HBL.out.cells
      have zs := HBL.out.le
      go_wp2_with fail
      refine HC.out.mono ?_
      rintro e w10 ⟨rfl, hb⟩
      clear pa pb pc pd zp
      clear sa sb sc sd zs
      replace HAT := Lib.hid (HAT.out.read hb)
      replace HBT := Lib.hid (HBT.out.read hb)
      replace HAV := Lib.hid (HAV.out.read hb)
      replace HAL := Lib.hid (HAL.out.read hb)
      replace HBL := Lib.hid (HBL.out.read hb)
      replace HAU := Lib.hid (HAU.out.read hb)
      replace HBU := Lib.hid (HBU.out.read hb)
      replace HW := Lib.hid (belowOn HW.out (Nat.le_refl _) hb)
      replace HY := Lib.hid (HY.out.kept (hb))
      clear hb HC
      go_wp2
      go_ret
      exact ⟨rfl, HW.out⟩
end Go.Proofs.Ytokndpmoamjbfaa

