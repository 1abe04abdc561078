/-
  Terms drawn: l02Draw.
-/
import Derived.Test.YtokndpmoamjbfaaDoorDrawn
import Derived.Deep.RegionHeld3
import Derived.Deep.RegionWith
import Derived.IntWalk
namespace Go.Proofs.YtokndpmoamjbfaaDoor
open Go.RowKit
set_option linter.unusedVariables false
set_option linter.unusedSimpArgs false

theorem half_facts {s : Int} (h : 2 < s) : 1 ≤ s / 2 ∧ 2 * (s / 2) ≤ s ∧ s.tdiv 2 = s / 2 := by
  refine ⟨by omega, by omega, Int.tdiv_eq_ediv_of_nonneg (by omega)⟩
theorem even_facts {r : Int} (h : 0 ≤ r) : r.tmod 2 = r % 2 := Int.tmod_eq_emod_of_nonneg h
theorem pair_nodes (x y : Tm) {q s : Int} (hx : (x.nodes : Int) ≤ 2 * q - 1) (hy : (y.nodes : Int) ≤ 2 * q - 1) (hq : 2 * q ≤ s) : ((Tm.mk 4 0 ⟨#[]⟩ [x, y]).nodes : Int) ≤ 2 * s - 1 := by
  rw [Tm.nodes, nodesL, nodesL, nodesL]; omega

set_option maxHeartbeats 4000000 in
set_option maxRecDepth 100000 in
theorem drawTerm_any (w0 : World) (p : Nat) (a : Option Addr) (len cap : Nat) (v : Int) (hv0 : 0 < v) (hv1 : v ≤ 256) (N : Nat) : ∀ (s : Int) (w : World), s < N → 1 ≤ s → s ≤ 1000 → Ready w0 p a len cap w →
    Calls Tryd.prog 30 #[.pointer (some ⟨p, 0, none⟩), .int .i64 s, .int .i64 v] w (DrawT w0 p a len cap (2 * s - 1) w) := by
  induction N with
  | zero => intro s w h1 h2; omega
  | succ N ih =>
    intro s w hN hs1 hs2 h
    have HI := Lib.hid ih
    have hn1 : w.heap.size + 1 ≤ (w.alloc (.cells #[.int .i64 0, .int .i64 0, .string ⟨#[]⟩, .slice none 0 0] 26)).heap.size := by simp
    have HR := Lib.hid (at_box w #[.int .i64 0, .int .i64 0, .string ⟨#[]⟩, .slice none 0 0] 26)
    have HG := Lib.hid (h.below (belowAlloc (Below.refl _ _) (.cells #[.int .i64 0, .int .i64 0, .string ⟨#[]⟩, .slice none 0 0] 26)))
    have HO : Hid (Only (iv p (p + 1)) w (w.alloc (.cells #[.int .i64 0, .int .i64 0, .string ⟨#[]⟩, .slice none 0 0] 26))) := Lib.hid (Only.of_below (belowAlloc (Below.refl _ _) _))
    have hp := h.hi
    have hlo := h.lo
    clear h ih
    go_enter Tryd.func30, Tryd.ntmps30
    go_upto_region 1 with (fail)
    generalize hw : w.alloc (.cells #[.int .i64 0, .int .i64 0, .string ⟨#[]⟩, .slice none 0 0] 26) = w1 at HR HG HO hn1 ⊢
    clear hw
    go_wp2_with fail
    refine (below_any 8 w0 p a len cap w1 HG.out (by omega) (by omega)).mono ?_
    rintro e w2 ⟨r, rfl, r0, r1, hg, ho⟩
    have HR2 := Lib.hid (HR.out.only ho (by omega))
    have HG2 := Lib.hid hg
    have HO2 := Lib.hid (HO.out.trans ho)
    have hn2 := ho.size
    clear HR HG HO hg ho
    by_cases hbig : 2 < s ∧ 3 ≤ r
    · obtain ⟨hb1, hb2⟩ := hbig
      have hd1 : decide (2 < s) = true := decide_eq_true hb1
      have hd2 : decide (3 ≤ r) = true := decide_eq_true hb2
      obtain ⟨hq0, hq1, hq2⟩ := half_facts hb1
      have HQ := Lib.hid hq2
      have HC : Hid (∀ (q : Int) W, (q = s / 2 ∨ q = s.tdiv 2) → Ready w0 p a len cap W → Calls Tryd.prog 30 #[.pointer (some ⟨p, 0, none⟩), .int .i64 q, .int .i64 v] W (DrawT w0 p a len cap (2 * (s / 2) - 1) W)) := Lib.hid fun q W hq hW => by
        obtain rfl : q = s / 2 := by
          rcases hq with h | h
          · exact h
          · rw [h, HQ.out]
        exact HI.out (s / 2) W (by omega) (by omega) (by omega) hW
      clear HI hq2
      go_wp2_with fail
      refine Calls.mono (HC.out _ w2 (by first | exact .inl rfl | exact .inr rfl) HG2.out) ?_
      rintro e w3 ⟨x, xa, xc, rfl, hx, hgx, hnx, hg, ho⟩
      have HR3 := Lib.hid (HR2.out.only ho (by omega))
      have HG3 := Lib.hid hg
      have HO3 := Lib.hid (HO2.out.trans ho)
      have HXG := Lib.hid hgx
      have HXA := Lib.hid hx
      have HXN := Lib.hid hnx
      have hn3 := ho.size
      clear HR2 HG2 HO2 hg ho hgx hx hnx
      go_upto_region 4 with (fail)
      have HB5 := Lib.hid (heap_alloc_new w3 (.cells #[.int .i64 x.kind, .int .i64 x.num, .string x.name, .slice xa x.args.length xc] 26))
      have HR5 := Lib.hid (HR3.out.read (belowAlloc (Below.refl _ _) (.cells #[.int .i64 x.kind, .int .i64 x.num, .string x.name, .slice xa x.args.length xc] 26)))
      have HG5 := Lib.hid (HG3.out.below (belowAlloc (Below.refl _ _) (.cells #[.int .i64 x.kind, .int .i64 x.num, .string x.name, .slice xa x.args.length xc] 26)))
      have HO5 := Lib.hid (only_below HO3.out (belowAlloc (Below.refl _ _) (.cells #[.int .i64 x.kind, .int .i64 x.num, .string x.name, .slice xa x.args.length xc] 26)))
      have HX5 : Hid (ArgsS (w3.alloc (.cells #[.int .i64 x.kind, .int .i64 x.num, .string x.name, .slice xa x.args.length xc] 26)) (iv (w.heap.size + 1) w3.heap.size) (.slice xa x.args.length xc) x.args) := Lib.hid ((HXA.out.kept (belowAlloc (Below.refl _ _) (.cells #[.int .i64 x.kind, .int .i64 x.num, .string x.name, .slice xa x.args.length xc] 26))).sub fun k hk => ⟨by have := hk.1; omega, hk.2⟩)
      have hn5 : (w3.alloc (.cells #[.int .i64 x.kind, .int .i64 x.num, .string x.name, .slice xa x.args.length xc] 26)).heap.size = w3.heap.size + 1 := by simp
      clear HR3 HG3 HO3 HXA
      generalize hw5 : w3.alloc (.cells #[.int .i64 x.kind, .int .i64 x.num, .string x.name, .slice xa x.args.length xc] 26) = w5 at HB5 HR5 HG5 HO5 HX5 hn5 ⊢
      clear hw5
      obtain ⟨b0, b1, b2, b3, bf⟩ := box_cells HB5.out
      have hself : Below w5.heap.size w5 w5 := Below.refl _ _
      have hself1 : Below w5.heap.size w5 w5.drew := hself.drew
      have HC2 : Hid (∀ (q : Int) W, (q = s / 2 ∨ q = s.tdiv 2) → Below w5.heap.size w5 W → Calls Tryd.prog 30 #[.pointer (some ⟨p, 0, none⟩), .int .i64 q, .int .i64 v] W fun e w6 =>
          ∃ (y : Tm) (ya : Option Addr) (yc : Nat), e = .returned (.agg #[.int .i64 y.kind, .int .i64 y.num, .string y.name, .slice ya y.args.length yc]) ∧ (w6.cell? ⟨w3.heap.size, 0, none⟩ = some (.int .i64 x.kind) ∧ w6.cell? ⟨w3.heap.size, 1, none⟩ = some (.int .i64 x.num) ∧ w6.cell? ⟨w3.heap.size, 2, none⟩ = some (.string x.name) ∧ w6.cell? ⟨w3.heap.size, 3, none⟩ = some (.slice xa x.args.length xc)) ∧
            Hid (Good y ∧ (y.nodes : Int) ≤ 2 * (s / 2) - 1 ∧ ∀ w7, Below w6.heap.size w6 w7 → Ready w0 p a len cap w7 ∧ Only (iv p (p + 1)) w w7 ∧ w7.heap[w.heap.size]? = some (Obj.cells #[.int .i64 0, .int .i64 0, .string ⟨#[]⟩, .slice none 0 0] 26) ∧ w.heap.size + 1 ≤ w6.heap.size ∧
              ArgsS w7 (iv (w.heap.size + 1) w6.heap.size) (.slice xa x.args.length xc) x.args ∧ ArgsS w7 (iv (w.heap.size + 1) w6.heap.size) (.slice ya y.args.length yc) y.args)) := Lib.hid fun q W hq hW => by
        refine (HC.out q W hq (HG5.out.below hW)).mono ?_
        rintro e w6 ⟨y, ya, yc, rfl, hy, hgy, hny, hg6, ho6⟩
        have hs5 := hW.size
        have hs6 := ho6.size
        have hh : w6.heap[w3.heap.size]? = _ := (ho6.block w3.heap.size (by omega) (fun hk => by have h1 := hk.1; have h2 := hk.2; omega)).trans ((hW.block w3.heap.size (by omega)).trans HB5.out)
        obtain ⟨y0, y1, y2, y3, _⟩ := box_cells hh
        refine ⟨y, ya, yc, rfl, ⟨y0, y1, y2, y3⟩, Lib.hid ⟨hgy, hny, fun w7 h7 => ⟨hg6.below h7, only_below ((only_below HO5.out hW).trans ho6) h7, (((HR5.out.read hW).only ho6 (by omega)).read h7).now, by omega, ?_, ?_⟩⟩⟩
        · exact ((((HX5.out.kept hW).frame ho6.size (fun k hk hks => ho6.block k hks (fun hh => by have q1 := hh.1; have q2 := hh.2; have q3 := hk.1; omega)))).kept h7).sub fun k hk => ⟨hk.1, by have := hk.2; omega⟩
        · exact (hy.kept h7).sub fun k hk => ⟨by have := hk.1; omega, hk.2⟩
      clear HX5 HR5 HO5 HB5 HC
      have ht : s.tdiv 2 = s / 2 := HQ.out
      have ht1 : IntKind.i64.wrap (s / 2) = s / 2 := IntWalk.i64_in _ (by omega)
      go_region_with (first
        | (go_at_call 30; (with_reducible refine Calls.mono (HC2.out _ _ ?_ ?_) ?_); (first | exact .inl rfl | exact .inr rfl); (first | exact hself | exact hself1 | exact hself1.drew); rintro e w6 ⟨y, ya, yc, rfl, ⟨k0, k1, k2, k3⟩, HY⟩)
        | (go_at_call 48; (with_reducible refine Calls.mono (specPair_any _ _ _ _ _ _ _ _ _ _ _ _ _) ?_); rintro e w7 ⟨g, rfl, hg1, hg2, hgh, hb7⟩; have HZ := Lib.hid (HY.out.2.2 w7 (by first | exact hb7 | exact ((Below.refl _ _).drew).trans hb7)); have hw67 : w6.heap.size ≤ g := hg1; have HP := Lib.hid (And.intro hg2 hgh); clear hg1 hg2 hgh hb7; have HRE := Lib.hid HZ.out.2.2.1; obtain ⟨q0, q1, q2, q3, qf⟩ := box_cells HRE.out))
      all_goals go_wp2_with fail
      all_goals
        have hs6 := HZ.out.2.2.2.1
        have hg2 := HP.out.1
        exact drawT_end (t := .mk 4 0 ⟨#[]⟩ [x, y]) (b := w.heap.size) rfl rfl rfl rfl rfl rfl rfl Tryd.underlying26 (by kernel_rfl) HRE.out (Nat.le_refl _) (by omega) (by omega) HZ.out.1 HZ.out.2.1
          (argsS_pair HP.out.2 hg2 ⟨by omega, by omega⟩ (HZ.out.2.2.2.2.1.sub fun k hk => ⟨by have h1 := hk.1; have h2 := hk.2; omega, by have := hk.1; omega⟩) (HZ.out.2.2.2.2.2.sub fun k hk => ⟨by have h1 := hk.1; have h2 := hk.2; omega, by have := hk.1; omega⟩))
          (.pair x y HXG.out HY.out.1) (pair_nodes x y HXN.out HY.out.2.1 (by omega))
    · have hbig' : (2 < s ∧ ¬ 3 ≤ r) ∨ ¬ 2 < s := by omega
      have hdv : decide (0 < v) = true := decide_eq_true hv0
      have ht := even_facts r0
      clear HI hbig
      by_cases he : r % 2 = 0
      · have he1 : (r % 2 == 0) = true := by simp [he]
        have HE := Lib.hid he
        clear he
        have HV := Lib.hid (below_any v w0 p a len cap w2 HG2.out hv0 hv1)
        rcases hbig' with ⟨hb1, hb2⟩ | hb1
        all_goals
          go_wp2_with fail
          refine HV.out.mono ?_
          rintro e w3 ⟨i, rfl, i0, i1, hg, ho⟩
          have HR3 := Lib.hid (HR2.out.only ho (by omega))
          have HG3 := Lib.hid hg
          have HO3 := Lib.hid (HO2.out.trans ho)
          have hn3 := ho.size
          clear hg ho
          go_wp2_with fail
          refine (var_any i w3).mono ?_
          rintro e w4 ⟨rfl, hb⟩
          have HRE := Lib.hid (HR3.out.read hb).now
          obtain ⟨q0, q1, q2, q3, qf⟩ := box_cells (HR3.out.read hb).now
          have hn4 := hb.size
          have HG4 := Lib.hid (HG3.out.below hb)
          have HO4 := Lib.hid (only_below HO3.out hb)
          clear hb
          go_wp2
          exact drawT_end (t := .mk 1 i ⟨#[]⟩ []) (b := w.heap.size) rfl rfl rfl rfl rfl rfl rfl Tryd.underlying26 (by kernel_rfl) HRE.out (Nat.le_refl _) (by omega) (by omega) HG4.out HO4.out (atom_args rfl) (.var i (by omega) (by omega)) (Int.le_trans (nodes_atom rfl) (by omega))
      · have he1 : (r % 2 == 0) = false := by simp [he]
        have HE := Lib.hid he
        clear he
        have HV := Lib.hid (atom_any w0 p a len cap w2 HG2.out)
        rcases hbig' with ⟨hb1, hb2⟩ | hb1
        all_goals
          go_wp2_with fail
          refine HV.out.mono ?_
          rintro e w3 ⟨y, ya, yc, rfl, hy, hgy, hny, hg, ho⟩
          have HR3 := Lib.hid (HR2.out.only ho (by omega))
          have HG3 := Lib.hid hg
          have HO3 := Lib.hid (HO2.out.trans ho)
          have HY := Lib.hid (And.intro hy (And.intro hgy hny))
          have hn3 := ho.size
          clear hg ho hy hgy hny
          have HRE := Lib.hid HR3.out.now
          obtain ⟨q0, q1, q2, q3, qf⟩ := box_cells HR3.out.now
          go_wp2
          exact drawT_end (t := y) (b := w.heap.size) rfl rfl rfl rfl rfl rfl rfl Tryd.underlying26 (by kernel_rfl) HRE.out (Nat.le_refl _) (by omega) (by omega) HG3.out HO3.out
            (HY.out.1.sub fun k hk => ⟨⟨by have := hk.1; omega, hk.2⟩, by have := hk.1; omega⟩) HY.out.2.1 (Int.le_trans HY.out.2.2 (by omega))
end Go.Proofs.YtokndpmoamjbfaaDoor

