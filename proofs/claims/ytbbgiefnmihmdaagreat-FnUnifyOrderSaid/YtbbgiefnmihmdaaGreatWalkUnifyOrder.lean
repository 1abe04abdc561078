/-
  The law of the order of equations (FnUnifyOrder), walked over the program's contracts. (Written by wip/tools/gen_walkunifyorder.py.)
-/
import Derived.Test.YtbbgiefnmihmdaaGreatAlike
import Derived.Test.YtbbgiefnmihmdaaGreatSpecUnify
import Derived.Test.YtbbgiefnmihmdaaGreatUnifyLaw
import Derived.Test.YtbbgiefnmihmdaaGreatBindsSame
namespace Go.Proofs.YtbbgiefnmihmdaaGreat
open Go.RowKit
set_option linter.unusedVariables false
set_option linter.unusedSimpArgs false

theorem subst_wf {u : List Bd} (h : SubstP u) : ∀ b ∈ u, wfI b.v := fun b hb => by
  have := h.var hb
  exact wfI_of (by omega) (by omega)

set_option maxRecDepth 100000 in
set_option maxHeartbeats 16000000 in
theorem walkUnifyOrder (w : World) (a : Option Addr) (len cap : Nat) (zs : List Int) (hrow : ByteRow w a len cap zs) :
    Calls Tryz.prog 3 #[.slice a len cap] w fun e w' => e = .returned (.bool true) ∧ Below w.heap.size w w' := by
  obtain ⟨hby, hmx⟩ := hrow.bytes
  clear hrow
  unfold maxLen at hmx
  have HY := Lib.hid hby
  clear hby
  by_cases h : 1048576 < (len : Int)
  · go_enter Tryz.func3, Tryz.ntmps3
    go_wp2
    go_ret
    exact ⟨rfl, Below.refl _ _⟩
  have hl : len ≤ 1048576 := by omega
  go_enter Tryz.func3, Tryz.ntmps3
  go_wp2_with fail
  refine (makeSubst_any a len cap 0 _ HY.out hl (by decide)).mono ?_
  rintro e w1 ⟨s, us, rfl, hS, hsd, hb⟩
  clear h hmx
  have HW := Lib.hid hb
  replace HY := Lib.hid (HY.out.kept hb)
  have HS := Lib.hid hS
  have HSP := Lib.hid (hsd.subst (by decide) (by decide) (by decide) (by decide) (by decide))
  clear hb hS hsd
  go_wp2_with fail
  refine (makeTerm_any a len cap 20 6 8 _ HY.out hl (by decide) (by decide) (by decide) (by decide) (by decide)).mono ?_
  rintro e w2 ⟨p, pa, pc, rfl, hp, hgp, hnp, hb⟩
  replace HS := Lib.hid (HS.out.kept hb)
  replace HY := Lib.hid (HY.out.kept hb)
  replace HW := Lib.hid (belowOn HW.out (Nat.le_refl _) hb)
  have HAp := Lib.hid (at_args hp)
  have HGp : Hid (Good p ∧ p.nodes ≤ 11) := Lib.hid ⟨hgp, by omega⟩
  clear hb hp hgp hnp
  go_upto_region 5 with (fail)
  have hal : Below w2.heap.size w2 (w2.alloc (.cells #[.int .i64 p.kind, .int .i64 p.num, .string p.name, .slice pa p.args.length pc] 27)) := belowAlloc (Below.refl _ _) _
  replace HS := Lib.hid (HS.out.kept hal)
  replace HY := Lib.hid (HY.out.kept hal)
  replace HAp := Lib.hid (HAp.out.read hal)
  replace HW := Lib.hid (belowOn HW.out (Nat.le_refl _) hal)
  have HXp := Lib.hid (at_box_of w2 #[.int .i64 p.kind, .int .i64 p.num, .string p.name, .slice pa p.args.length pc] 27 w2.heap.size rfl)
  clear hal
  generalize hwx : w2.alloc (.cells #[.int .i64 p.kind, .int .i64 p.num, .string p.name, .slice pa p.args.length pc] 27) = w3 at HS HY HAp HXp HW ⊢
  clear hwx
  generalize w2.heap.size = np at HXp ⊢
  obtain ⟨kp0, kp1, kp2, kp3⟩ := HXp.out.cells
  have zp := HXp.out.le
  go_wp2_with fail
  refine (makeAlike_any a len cap 40 p _ 8 _ HY.out hl (by decide) (by decide) (by decide) HGp.out.1 HAp.out.argsAt).mono ?_
  rintro e w4 ⟨q, qa, qc, rfl, hq, hgq, hnq, hb⟩
  clear kp0 kp1 kp2 kp3 zp
  replace HS := Lib.hid (HS.out.kept hb)
  replace HY := Lib.hid (HY.out.kept hb)
  replace HAp := Lib.hid (HAp.out.read hb)
  replace HXp := Lib.hid (HXp.out.read hb)
  replace HW := Lib.hid (belowOn HW.out (Nat.le_refl _) hb)
  have HAq := Lib.hid (at_args hq)
  have HGq : Hid (Good q ∧ q.nodes ≤ 77) := Lib.hid ⟨hgq, by have := HGp.out.2; omega⟩
  clear hb hq hgq hnq
  go_upto_region 6 with (fail)
  have hal : Below w4.heap.size w4 (w4.alloc (.cells #[.int .i64 q.kind, .int .i64 q.num, .string q.name, .slice qa q.args.length qc] 27)) := belowAlloc (Below.refl _ _) _
  replace HS := Lib.hid (HS.out.kept hal)
  replace HY := Lib.hid (HY.out.kept hal)
  replace HAp := Lib.hid (HAp.out.read hal)
  replace HXp := Lib.hid (HXp.out.read hal)
  replace HAq := Lib.hid (HAq.out.read hal)
  replace HW := Lib.hid (belowOn HW.out (Nat.le_refl _) hal)
  have HXq := Lib.hid (at_box_of w4 #[.int .i64 q.kind, .int .i64 q.num, .string q.name, .slice qa q.args.length qc] 27 w4.heap.size rfl)
  clear hal
  generalize hwx : w4.alloc (.cells #[.int .i64 q.kind, .int .i64 q.num, .string q.name, .slice qa q.args.length qc] 27) = w5 at HS HY HAp HXp HAq HXq HW ⊢
  clear hwx
  generalize w4.heap.size = nq at HXq ⊢
  go_wp2_with fail
  refine (makeTerm_any a len cap 60 6 8 _ HY.out hl (by decide) (by decide) (by decide) (by decide) (by decide)).mono ?_
  rintro e w6 ⟨r, ra, rc, rfl, hr, hgr, hnr, hb⟩
  replace HS := Lib.hid (HS.out.kept hb)
  replace HY := Lib.hid (HY.out.kept hb)
  replace HAp := Lib.hid (HAp.out.read hb)
  replace HXp := Lib.hid (HXp.out.read hb)
  replace HAq := Lib.hid (HAq.out.read hb)
  replace HXq := Lib.hid (HXq.out.read hb)
  replace HW := Lib.hid (belowOn HW.out (Nat.le_refl _) hb)
  have HAr := Lib.hid (at_args hr)
  have HGr : Hid (Good r ∧ r.nodes ≤ 11) := Lib.hid ⟨hgr, by omega⟩
  clear hb hr hgr hnr
  go_upto_region 7 with (fail)
  have hal : Below w6.heap.size w6 (w6.alloc (.cells #[.int .i64 r.kind, .int .i64 r.num, .string r.name, .slice ra r.args.length rc] 27)) := belowAlloc (Below.refl _ _) _
  replace HS := Lib.hid (HS.out.kept hal)
  replace HY := Lib.hid (HY.out.kept hal)
  replace HAp := Lib.hid (HAp.out.read hal)
  replace HXp := Lib.hid (HXp.out.read hal)
  replace HAq := Lib.hid (HAq.out.read hal)
  replace HXq := Lib.hid (HXq.out.read hal)
  replace HAr := Lib.hid (HAr.out.read hal)
  replace HW := Lib.hid (belowOn HW.out (Nat.le_refl _) hal)
  have HXr := Lib.hid (at_box_of w6 #[.int .i64 r.kind, .int .i64 r.num, .string r.name, .slice ra r.args.length rc] 27 w6.heap.size rfl)
  clear hal
  generalize hwx : w6.alloc (.cells #[.int .i64 r.kind, .int .i64 r.num, .string r.name, .slice ra r.args.length rc] 27) = w7 at HS HY HAp HXp HAq HXq HAr HXr HW ⊢
  clear hwx
  generalize w6.heap.size = nr at HXr ⊢
  obtain ⟨kr0, kr1, kr2, kr3⟩ := HXr.out.cells
  have zr := HXr.out.le
  go_wp2_with fail
  refine (makeAlike_any a len cap 80 r _ 8 _ HY.out hl (by decide) (by decide) (by decide) HGr.out.1 HAr.out.argsAt).mono ?_
  rintro e w8 ⟨t, ta, tc, rfl, ht, hgt, hnt, hb⟩
  clear kr0 kr1 kr2 kr3 zr
  replace HS := Lib.hid (HS.out.kept hb)
  replace HY := Lib.hid (HY.out.kept hb)
  replace HAp := Lib.hid (HAp.out.read hb)
  replace HXp := Lib.hid (HXp.out.read hb)
  replace HAq := Lib.hid (HAq.out.read hb)
  replace HXq := Lib.hid (HXq.out.read hb)
  replace HAr := Lib.hid (HAr.out.read hb)
  replace HXr := Lib.hid (HXr.out.read hb)
  replace HW := Lib.hid (belowOn HW.out (Nat.le_refl _) hb)
  have HAt := Lib.hid (at_args ht)
  have HGt : Hid (Good t ∧ t.nodes ≤ 77) := Lib.hid ⟨hgt, by have := HGr.out.2; omega⟩
  clear hb ht hgt hnt
  clear HY
  go_upto_region 8 with (fail)
  have hal : Below w8.heap.size w8 (w8.alloc (.cells #[.int .i64 t.kind, .int .i64 t.num, .string t.name, .slice ta t.args.length tc] 27)) := belowAlloc (Below.refl _ _) _
  replace HS := Lib.hid (HS.out.kept hal)
  replace HAp := Lib.hid (HAp.out.read hal)
  replace HXp := Lib.hid (HXp.out.read hal)
  replace HAq := Lib.hid (HAq.out.read hal)
  replace HXq := Lib.hid (HXq.out.read hal)
  replace HAr := Lib.hid (HAr.out.read hal)
  replace HXr := Lib.hid (HXr.out.read hal)
  replace HAt := Lib.hid (HAt.out.read hal)
  replace HW := Lib.hid (belowOn HW.out (Nat.le_refl _) hal)
  have HXt := Lib.hid (at_box_of w8 #[.int .i64 t.kind, .int .i64 t.num, .string t.name, .slice ta t.args.length tc] 27 w8.heap.size rfl)
  clear hal
  generalize hwx : w8.alloc (.cells #[.int .i64 t.kind, .int .i64 t.num, .string t.name, .slice ta t.args.length tc] 27) = w9 at HS HAp HXp HAq HXq HAr HXr HAt HXt HW ⊢
  clear hwx
  generalize w8.heap.size = nt at HXt ⊢
  have HOp : Hid (Ok p) := Lib.hid ⟨by have := HGp.out.2; omega, HGp.out.1⟩
  have hzp : p.sz ≤ 1048576 := by have h1 := good_sz HGp.out.1; have h2 := HGp.out.2; omega
  have hyp : p.sz ≤ 1001 := by have h1 := good_sz HGp.out.1; have h2 := HGp.out.2; omega
  have HOq : Hid (Ok q) := Lib.hid ⟨by have := HGq.out.2; omega, HGq.out.1⟩
  have hzq : q.sz ≤ 1048576 := by have h1 := good_sz HGq.out.1; have h2 := HGq.out.2; omega
  have hyq : q.sz ≤ 1001 := by have h1 := good_sz HGq.out.1; have h2 := HGq.out.2; omega
  have HOr : Hid (Ok r) := Lib.hid ⟨by have := HGr.out.2; omega, HGr.out.1⟩
  have hzr : r.sz ≤ 1048576 := by have h1 := good_sz HGr.out.1; have h2 := HGr.out.2; omega
  have hyr : r.sz ≤ 1001 := by have h1 := good_sz HGr.out.1; have h2 := HGr.out.2; omega
  have HOt : Hid (Ok t) := Lib.hid ⟨by have := HGt.out.2; omega, HGt.out.1⟩
  have hzt : t.sz ≤ 1048576 := by have h1 := good_sz HGt.out.1; have h2 := HGt.out.2; omega
  have hyt : t.sz ≤ 1001 := by have h1 := good_sz HGt.out.1; have h2 := HGt.out.2; omega
  have HORD := Lib.hid (ua_order HSP.out HOp.out HOq.out HOr.out HOt.out)
  have HAFT := Lib.hid (ua_after HSP.out HOp.out HOq.out HOr.out HOt.out)
  have HEQ : Hid (uaL s [p, r] [q, t] = [] ∨ SubstP (uaL s [p, r] [q, t])) := Lib.hid (by rw [(ua_yes (ua_two HSP.out HOp.out HOq.out HOr.out HOt.out)).1]; exact mu_subst)
  have HZQ : Hid (unL s p q = [] ∨ SubstP (unL s p q)) := Lib.hid (by rw [unL, (ua_yes (ua_one HSP.out HOp.out HOq.out)).1]; exact mu_subst)
  obtain ⟨kp0, kp1, kp2, kp3⟩ := HXp.out.cells
  have zp := HXp.out.le
  obtain ⟨kq0, kq1, kq2, kq3⟩ := HXq.out.cells
  have zq := HXq.out.le
  obtain ⟨kr0, kr1, kr2, kr3⟩ := HXr.out.cells
  have zr := HXr.out.le
  obtain ⟨kt0, kt1, kt2, kt3⟩ := HXt.out.cells
  have zt := HXt.out.le
  have hB1 : Below w9.heap.size w9 (w9.alloc (.cells #[.int .i64 p.kind, .int .i64 p.num, .string p.name, .slice pa p.args.length pc, .int .i64 r.kind, .int .i64 r.num, .string r.name, .slice ra r.args.length rc] 27)) := belowAlloc (Below.refl _ _) _
  obtain ⟨jq0, jq1, jq2, jq3⟩ := (HXq.out.read hB1).cells
  have xq := (HXq.out.read hB1).le
  obtain ⟨jt0, jt1, jt2, jt3⟩ := (HXt.out.read hB1).cells
  have xt := (HXt.out.read hB1).le
  clear hB1
  have hB : Below w9.heap.size w9 ((w9.alloc (.cells #[.int .i64 p.kind, .int .i64 p.num, .string p.name, .slice pa p.args.length pc, .int .i64 r.kind, .int .i64 r.num, .string r.name, .slice ra r.args.length rc] 27)).alloc (.cells #[.int .i64 q.kind, .int .i64 q.num, .string q.name, .slice qa q.args.length qc, .int .i64 t.kind, .int .i64 t.num, .string t.name, .slice ta t.args.length tc] 27)) := belowAlloc (belowAlloc (Below.refl _ _) _) _
  have h3 : ((w9.alloc (.cells #[.int .i64 p.kind, .int .i64 p.num, .string p.name, .slice pa p.args.length pc, .int .i64 r.kind, .int .i64 r.num, .string r.name, .slice ra r.args.length rc] 27)).alloc (.cells #[.int .i64 q.kind, .int .i64 q.num, .string q.name, .slice qa q.args.length qc, .int .i64 t.kind, .int .i64 t.num, .string t.name, .slice ta t.args.length tc] 27)).heap[w9.heap.size]? = some (.cells #[.int .i64 p.kind, .int .i64 p.num, .string p.name, .slice pa p.args.length pc, .int .i64 r.kind, .int .i64 r.num, .string r.name, .slice ra r.args.length rc] 27) := by rw [Below.heap_alloc _ _ _ (by simp)]; exact heap_new _ _
  have h4 : ((w9.alloc (.cells #[.int .i64 p.kind, .int .i64 p.num, .string p.name, .slice pa p.args.length pc, .int .i64 r.kind, .int .i64 r.num, .string r.name, .slice ra r.args.length rc] 27)).alloc (.cells #[.int .i64 q.kind, .int .i64 q.num, .string q.name, .slice qa q.args.length qc, .int .i64 t.kind, .int .i64 t.num, .string t.name, .slice ta t.args.length tc] 27)).heap[w9.heap.size + 1]? = some (.cells #[.int .i64 q.kind, .int .i64 q.num, .string q.name, .slice qa q.args.length qc, .int .i64 t.kind, .int .i64 t.num, .string t.name, .slice ta t.args.length tc] 27) := by have := heap_new (w9.alloc (.cells #[.int .i64 p.kind, .int .i64 p.num, .string p.name, .slice pa p.args.length pc, .int .i64 r.kind, .int .i64 r.num, .string r.name, .slice ra r.args.length rc] 27)) (.cells #[.int .i64 q.kind, .int .i64 q.num, .string q.name, .slice qa q.args.length qc, .int .i64 t.kind, .int .i64 t.num, .string t.name, .slice ta t.args.length tc] 27); simpa using this
  have hl1 := args_pair (a := p) (b := r) h3 (by simp only [World.size_alloc]; omega) (HAp.out.argsAt.kept hB) (HAr.out.argsAt.kept hB)
  have hl2 := args_pair (a := q) (b := t) h4 (by simp only [World.size_alloc]; omega) (HAq.out.argsAt.kept hB) (HAt.out.argsAt.kept hB)
  have HC := Lib.hid (implUnifyAll_b s us [p, r] _ [q, t] _ _ (HS.out.kept hB) HSP.out.each (subst_wf HSP.out) hl1 (by simp only [szL]; omega) (by simp) hl2 (by simp only [szL]; omega))
  have HB := Lib.hid hB
  clear hB h3 h4 hl1 hl2
  go_wp2_with fail
  refine HC.out.mono ?_
  rintro e w10 ⟨ux, rfl, hu, hb⟩
  clear kp0 kp1 kp2 kp3 zp kq0 kq1 kq2 kq3 zq kr0 kr1 kr2 kr3 zr kt0 kt1 kt2 kt3 zt
  clear jq0 jq1 jq2 jq3 xq
  clear jt0 jt1 jt2 jt3 xt
  have hbb := belowOn HB.out (Nat.le_refl _) hb
  replace HS := Lib.hid (HS.out.kept hbb)
  replace HAp := Lib.hid (HAp.out.read hbb)
  replace HXp := Lib.hid (HXp.out.read hbb)
  replace HAq := Lib.hid (HAq.out.read hbb)
  replace HXq := Lib.hid (HXq.out.read hbb)
  replace HAr := Lib.hid (HAr.out.read hbb)
  replace HXr := Lib.hid (HXr.out.read hbb)
  replace HAt := Lib.hid (HAt.out.read hbb)
  replace HXt := Lib.hid (HXt.out.read hbb)
  replace HW := Lib.hid (belowOn HW.out (Nat.le_refl _) hbb)
  have HUx := Lib.hid hu.inS.any
  clear hu hb hbb HC HB
  obtain ⟨kp0, kp1, kp2, kp3⟩ := HXp.out.cells
  have zp := HXp.out.le
  obtain ⟨kq0, kq1, kq2, kq3⟩ := HXq.out.cells
  have zq := HXq.out.le
  obtain ⟨kr0, kr1, kr2, kr3⟩ := HXr.out.cells
  have zr := HXr.out.le
  obtain ⟨kt0, kt1, kt2, kt3⟩ := HXt.out.cells
  have zt := HXt.out.le
  have hB1 : Below w10.heap.size w10 (w10.alloc (.cells #[.int .i64 t.kind, .int .i64 t.num, .string t.name, .slice ta t.args.length tc, .int .i64 q.kind, .int .i64 q.num, .string q.name, .slice qa q.args.length qc] 27)) := belowAlloc (Below.refl _ _) _
  obtain ⟨jr0, jr1, jr2, jr3⟩ := (HXr.out.read hB1).cells
  have xr := (HXr.out.read hB1).le
  obtain ⟨jp0, jp1, jp2, jp3⟩ := (HXp.out.read hB1).cells
  have xp := (HXp.out.read hB1).le
  clear hB1
  have hB : Below w10.heap.size w10 ((w10.alloc (.cells #[.int .i64 t.kind, .int .i64 t.num, .string t.name, .slice ta t.args.length tc, .int .i64 q.kind, .int .i64 q.num, .string q.name, .slice qa q.args.length qc] 27)).alloc (.cells #[.int .i64 r.kind, .int .i64 r.num, .string r.name, .slice ra r.args.length rc, .int .i64 p.kind, .int .i64 p.num, .string p.name, .slice pa p.args.length pc] 27)) := belowAlloc (belowAlloc (Below.refl _ _) _) _
  have h3 : ((w10.alloc (.cells #[.int .i64 t.kind, .int .i64 t.num, .string t.name, .slice ta t.args.length tc, .int .i64 q.kind, .int .i64 q.num, .string q.name, .slice qa q.args.length qc] 27)).alloc (.cells #[.int .i64 r.kind, .int .i64 r.num, .string r.name, .slice ra r.args.length rc, .int .i64 p.kind, .int .i64 p.num, .string p.name, .slice pa p.args.length pc] 27)).heap[w10.heap.size]? = some (.cells #[.int .i64 t.kind, .int .i64 t.num, .string t.name, .slice ta t.args.length tc, .int .i64 q.kind, .int .i64 q.num, .string q.name, .slice qa q.args.length qc] 27) := by rw [Below.heap_alloc _ _ _ (by simp)]; exact heap_new _ _
  have h4 : ((w10.alloc (.cells #[.int .i64 t.kind, .int .i64 t.num, .string t.name, .slice ta t.args.length tc, .int .i64 q.kind, .int .i64 q.num, .string q.name, .slice qa q.args.length qc] 27)).alloc (.cells #[.int .i64 r.kind, .int .i64 r.num, .string r.name, .slice ra r.args.length rc, .int .i64 p.kind, .int .i64 p.num, .string p.name, .slice pa p.args.length pc] 27)).heap[w10.heap.size + 1]? = some (.cells #[.int .i64 r.kind, .int .i64 r.num, .string r.name, .slice ra r.args.length rc, .int .i64 p.kind, .int .i64 p.num, .string p.name, .slice pa p.args.length pc] 27) := by have := heap_new (w10.alloc (.cells #[.int .i64 t.kind, .int .i64 t.num, .string t.name, .slice ta t.args.length tc, .int .i64 q.kind, .int .i64 q.num, .string q.name, .slice qa q.args.length qc] 27)) (.cells #[.int .i64 r.kind, .int .i64 r.num, .string r.name, .slice ra r.args.length rc, .int .i64 p.kind, .int .i64 p.num, .string p.name, .slice pa p.args.length pc] 27); simpa using this
  have hl1 := args_pair (a := t) (b := q) h3 (by simp only [World.size_alloc]; omega) (HAt.out.argsAt.kept hB) (HAq.out.argsAt.kept hB)
  have hl2 := args_pair (a := r) (b := p) h4 (by simp only [World.size_alloc]; omega) (HAr.out.argsAt.kept hB) (HAp.out.argsAt.kept hB)
  have HC := Lib.hid (implUnifyAll_b s us [t, q] _ [r, p] _ _ (HS.out.kept hB) HSP.out.each (subst_wf HSP.out) hl1 (by simp only [szL]; omega) (by simp) hl2 (by simp only [szL]; omega))
  have HB := Lib.hid hB
  clear hB h3 h4 hl1 hl2
  rw [← HORD.out.1, ← HORD.out.2] at HC
  go_wp2_with fail
  refine HC.out.mono ?_
  rintro e w11 ⟨uy, rfl, hu, hb⟩
  clear kp0 kp1 kp2 kp3 zp kq0 kq1 kq2 kq3 zq kr0 kr1 kr2 kr3 zr kt0 kt1 kt2 kt3 zt
  clear jr0 jr1 jr2 jr3 xr
  clear jp0 jp1 jp2 jp3 xp
  have hbb := belowOn HB.out (Nat.le_refl _) hb
  replace HS := Lib.hid (HS.out.kept hbb)
  replace HAp := Lib.hid (HAp.out.read hbb)
  replace HXp := Lib.hid (HXp.out.read hbb)
  replace HAq := Lib.hid (HAq.out.read hbb)
  replace HXq := Lib.hid (HXq.out.read hbb)
  replace HAr := Lib.hid (HAr.out.read hbb)
  replace HXr := Lib.hid (HXr.out.read hbb)
  replace HAt := Lib.hid (HAt.out.read hbb)
  replace HXt := Lib.hid (HXt.out.read hbb)
  replace HUx := Lib.hid (HUx.out.kept hbb)
  replace HW := Lib.hid (belowOn HW.out (Nat.le_refl _) hbb)
  have HUy := Lib.hid hu.inS.any
  clear hu hb hbb HC HB
  obtain ⟨kp0, kp1, kp2, kp3⟩ := HXp.out.cells
  have zp := HXp.out.le
  obtain ⟨kq0, kq1, kq2, kq3⟩ := HXq.out.cells
  have zq := HXq.out.le
  have HC := Lib.hid (implUnify_e s us p _ q _ w11 HS.out HSP.out.each (subst_wf HSP.out) HAp.out.argsAt hzp HAq.out.argsAt hzq)
  go_wp2_with fail
  refine HC.out.mono ?_
  rintro e w12 ⟨uz, rfl, hu, hb⟩
  clear kp0 kp1 kp2 kp3 zp kq0 kq1 kq2 kq3 zq
  replace HS := Lib.hid (HS.out.kept hb)
  replace HAp := Lib.hid (HAp.out.read hb)
  replace HXp := Lib.hid (HXp.out.read hb)
  replace HAq := Lib.hid (HAq.out.read hb)
  replace HXq := Lib.hid (HXq.out.read hb)
  replace HAr := Lib.hid (HAr.out.read hb)
  replace HXr := Lib.hid (HXr.out.read hb)
  replace HAt := Lib.hid (HAt.out.read hb)
  replace HXt := Lib.hid (HXt.out.read hb)
  replace HUx := Lib.hid (HUx.out.kept hb)
  replace HUy := Lib.hid (HUy.out.kept hb)
  replace HW := Lib.hid (belowOn HW.out (Nat.le_refl _) hb)
  have HUz := Lib.hid hu.inS.any
  clear hu hb HC
  obtain ⟨kp0, kp1, kp2, kp3⟩ := HXp.out.cells
  have zp := HXp.out.le
  obtain ⟨kq0, kq1, kq2, kq3⟩ := HXq.out.cells
  have zq := HXq.out.le
  obtain ⟨kr0, kr1, kr2, kr3⟩ := HXr.out.cells
  have zr := HXr.out.le
  obtain ⟨kt0, kt1, kt2, kt3⟩ := HXt.out.cells
  have zt := HXt.out.le
  have hB1 : Below w12.heap.size w12 (w12.alloc (.cells #[.int .i64 p.kind, .int .i64 p.num, .string p.name, .slice pa p.args.length pc, .int .i64 r.kind, .int .i64 r.num, .string r.name, .slice ra r.args.length rc] 27)) := belowAlloc (Below.refl _ _) _
  obtain ⟨jq0, jq1, jq2, jq3⟩ := (HXq.out.read hB1).cells
  have xq := (HXq.out.read hB1).le
  obtain ⟨jt0, jt1, jt2, jt3⟩ := (HXt.out.read hB1).cells
  have xt := (HXt.out.read hB1).le
  clear hB1
  have hB : Below w12.heap.size w12 ((w12.alloc (.cells #[.int .i64 p.kind, .int .i64 p.num, .string p.name, .slice pa p.args.length pc, .int .i64 r.kind, .int .i64 r.num, .string r.name, .slice ra r.args.length rc] 27)).alloc (.cells #[.int .i64 q.kind, .int .i64 q.num, .string q.name, .slice qa q.args.length qc, .int .i64 t.kind, .int .i64 t.num, .string t.name, .slice ta t.args.length tc] 27)) := belowAlloc (belowAlloc (Below.refl _ _) _) _
  have h3 : ((w12.alloc (.cells #[.int .i64 p.kind, .int .i64 p.num, .string p.name, .slice pa p.args.length pc, .int .i64 r.kind, .int .i64 r.num, .string r.name, .slice ra r.args.length rc] 27)).alloc (.cells #[.int .i64 q.kind, .int .i64 q.num, .string q.name, .slice qa q.args.length qc, .int .i64 t.kind, .int .i64 t.num, .string t.name, .slice ta t.args.length tc] 27)).heap[w12.heap.size]? = some (.cells #[.int .i64 p.kind, .int .i64 p.num, .string p.name, .slice pa p.args.length pc, .int .i64 r.kind, .int .i64 r.num, .string r.name, .slice ra r.args.length rc] 27) := by rw [Below.heap_alloc _ _ _ (by simp)]; exact heap_new _ _
  have h4 : ((w12.alloc (.cells #[.int .i64 p.kind, .int .i64 p.num, .string p.name, .slice pa p.args.length pc, .int .i64 r.kind, .int .i64 r.num, .string r.name, .slice ra r.args.length rc] 27)).alloc (.cells #[.int .i64 q.kind, .int .i64 q.num, .string q.name, .slice qa q.args.length qc, .int .i64 t.kind, .int .i64 t.num, .string t.name, .slice ta t.args.length tc] 27)).heap[w12.heap.size + 1]? = some (.cells #[.int .i64 q.kind, .int .i64 q.num, .string q.name, .slice qa q.args.length qc, .int .i64 t.kind, .int .i64 t.num, .string t.name, .slice ta t.args.length tc] 27) := by have := heap_new (w12.alloc (.cells #[.int .i64 p.kind, .int .i64 p.num, .string p.name, .slice pa p.args.length pc, .int .i64 r.kind, .int .i64 r.num, .string r.name, .slice ra r.args.length rc] 27)) (.cells #[.int .i64 q.kind, .int .i64 q.num, .string q.name, .slice qa q.args.length qc, .int .i64 t.kind, .int .i64 t.num, .string t.name, .slice ta t.args.length tc] 27); simpa using this
  have hl1 := args_pair (a := p) (b := r) h3 (by simp only [World.size_alloc]; omega) (HAp.out.argsAt.kept hB) (HAr.out.argsAt.kept hB)
  have hl2 := args_pair (a := q) (b := t) h4 (by simp only [World.size_alloc]; omega) (HAq.out.argsAt.kept hB) (HAt.out.argsAt.kept hB)
  have HC := Lib.hid (specUnifyAll_e s us [p, r] _ [q, t] _ _ (HS.out.kept hB) HSP.out.each hl1 (by simp only [szL]; omega) (by simp) hl2 (by simp only [szL]; omega))
  have HB := Lib.hid hB
  clear hB h3 h4 hl1 hl2
  go_wp2_with fail
  refine HC.out.mono ?_
  rintro e w13 ⟨ud, rfl, hu, hb⟩
  clear kp0 kp1 kp2 kp3 zp kq0 kq1 kq2 kq3 zq kr0 kr1 kr2 kr3 zr kt0 kt1 kt2 kt3 zt
  clear jq0 jq1 jq2 jq3 xq
  clear jt0 jt1 jt2 jt3 xt
  have hbb := belowOn HB.out (Nat.le_refl _) hb
  replace HS := Lib.hid (HS.out.kept hbb)
  replace HAp := Lib.hid (HAp.out.read hbb)
  replace HXp := Lib.hid (HXp.out.read hbb)
  replace HAq := Lib.hid (HAq.out.read hbb)
  replace HXq := Lib.hid (HXq.out.read hbb)
  replace HAr := Lib.hid (HAr.out.read hbb)
  replace HXr := Lib.hid (HXr.out.read hbb)
  replace HAt := Lib.hid (HAt.out.read hbb)
  replace HXt := Lib.hid (HXt.out.read hbb)
  replace HUx := Lib.hid (HUx.out.kept hbb)
  replace HUy := Lib.hid (HUy.out.kept hbb)
  replace HUz := Lib.hid (HUz.out.kept hbb)
  replace HW := Lib.hid (belowOn HW.out (Nat.le_refl _) hbb)
  clear hu hb hbb HC HB
  obtain ⟨xa, xc, rfl⟩ := HUx.out.slice
  obtain ⟨ya, yc, rfl⟩ := HUy.out.slice
  obtain ⟨za, zc, rfl⟩ := HUz.out.slice
  have HZE : Hid (EachB (unL s p q) ∧ ∀ b ∈ unL s p q, wfI b.v) := Lib.hid (HZQ.out.elim (fun h => by rw [h]; exact ⟨⟨Nat.zero_le _, fun b hb => by simp at hb⟩, fun b hb => by simp at hb⟩) fun h => ⟨h.each, subst_wf h⟩)
  have HXG : Hid ((∀ b ∈ uaL s [p, r] [q, t], Good b.t ∧ b.t.sz ≤ 1048576) ∧ (uaL s [p, r] [q, t]).length ≤ 1048576) := Lib.hid (HEQ.out.elim (fun h => by rw [h]; exact ⟨fun b hb => by simp at hb, by simp⟩) fun h => ⟨fun b hb => ⟨h.good b hb, by have h1 := h.each.2 b hb; omega⟩, h.each.1⟩)
  have hul : (uaL s [p, r] [q, t]).length ≤ 1048576 := HXG.out.2
  have hzl : (unL s p q).length ≤ 1048576 := HZE.out.1.1
  have HC := Lib.hid (binds_any (uaL s [p, r] [q, t]) _ _ w13 HUx.out HUy.out HXG.out.1 HXG.out.2)
  generalize hub : uaB s [p, r] [q, t] = ub at HC HAFT ⊢
  generalize hzb : unB s p q = zb at HC HAFT ⊢
  generalize uaL s [p, r] [q, t] = ul at * 
  clear hub hzb HORD
  have HOR : Hid (zb = false → ub = false) := Lib.hid HAFT.out.2
  rcases ub with _ | _ <;> rcases zb with _ | _
  · -- ub = false, zb = false
    go_wp2_with fail
    refine HC.out.mono ?_
    rintro e w14 ⟨rfl, hb⟩
    replace HS := Lib.hid (HS.out.kept hb)
    replace HAp := Lib.hid (HAp.out.read hb)
    replace HXp := Lib.hid (HXp.out.read hb)
    replace HAq := Lib.hid (HAq.out.read hb)
    replace HXq := Lib.hid (HXq.out.read hb)
    replace HAr := Lib.hid (HAr.out.read hb)
    replace HXr := Lib.hid (HXr.out.read hb)
    replace HAt := Lib.hid (HAt.out.read hb)
    replace HXt := Lib.hid (HXt.out.read hb)
    replace HUx := Lib.hid (HUx.out.kept hb)
    replace HUy := Lib.hid (HUy.out.kept hb)
    replace HUz := Lib.hid (HUz.out.kept hb)
    replace HW := Lib.hid (belowOn HW.out (Nat.le_refl _) hb)
    clear hb HC
    obtain ⟨kr0, kr1, kr2, kr3⟩ := HXr.out.cells
    have zr := HXr.out.le
    obtain ⟨kt0, kt1, kt2, kt3⟩ := HXt.out.cells
    have zt := HXt.out.le
    have hI := implUnify_e (unL s p q) _ r _ t _ w14 HUz.out HZE.out.1 HZE.out.2 HAr.out.argsAt hzr HAt.out.argsAt hzt
    have HC := Lib.hid hI
    clear hI
    go_wp2_with fail
    refine HC.out.mono ?_
    rintro e w15 ⟨uw, rfl, hu, hb⟩
    clear kr0 kr1 kr2 kr3 zr kt0 kt1 kt2 kt3 zt
    replace HS := Lib.hid (HS.out.kept hb)
    replace HAp := Lib.hid (HAp.out.read hb)
    replace HXp := Lib.hid (HXp.out.read hb)
    replace HAq := Lib.hid (HAq.out.read hb)
    replace HXq := Lib.hid (HXq.out.read hb)
    replace HAr := Lib.hid (HAr.out.read hb)
    replace HXr := Lib.hid (HXr.out.read hb)
    replace HAt := Lib.hid (HAt.out.read hb)
    replace HXt := Lib.hid (HXt.out.read hb)
    replace HUx := Lib.hid (HUx.out.kept hb)
    replace HUy := Lib.hid (HUy.out.kept hb)
    replace HUz := Lib.hid (HUz.out.kept hb)
    replace HW := Lib.hid (belowOn HW.out (Nat.le_refl _) hb)
    have HUw := Lib.hid hu.inS.any
    clear hu hb HC
    go_wp2
    go_ret
    exact ⟨rfl, HW.out⟩
  · -- ub = false, zb = true
    go_wp2_with fail
    refine HC.out.mono ?_
    rintro e w14 ⟨rfl, hb⟩
    replace HS := Lib.hid (HS.out.kept hb)
    replace HAp := Lib.hid (HAp.out.read hb)
    replace HXp := Lib.hid (HXp.out.read hb)
    replace HAq := Lib.hid (HAq.out.read hb)
    replace HXq := Lib.hid (HXq.out.read hb)
    replace HAr := Lib.hid (HAr.out.read hb)
    replace HXr := Lib.hid (HXr.out.read hb)
    replace HAt := Lib.hid (HAt.out.read hb)
    replace HXt := Lib.hid (HXt.out.read hb)
    replace HUx := Lib.hid (HUx.out.kept hb)
    replace HUy := Lib.hid (HUy.out.kept hb)
    replace HUz := Lib.hid (HUz.out.kept hb)
    replace HW := Lib.hid (belowOn HW.out (Nat.le_refl _) hb)
    clear hb HC
    obtain ⟨kr0, kr1, kr2, kr3⟩ := HXr.out.cells
    have zr := HXr.out.le
    obtain ⟨kt0, kt1, kt2, kt3⟩ := HXt.out.cells
    have zt := HXt.out.le
    have hI := implUnify_e (unL s p q) _ r _ t _ w14 HUz.out HZE.out.1 HZE.out.2 HAr.out.argsAt hzr HAt.out.argsAt hzt
    obtain ⟨_, hal2, hab2⟩ := HAFT.out.1 (by trivial)
    rw [← hal2, ← hab2] at hI
    clear hal2 hab2
    have HC := Lib.hid hI
    clear hI
    go_wp2_with fail
    refine HC.out.mono ?_
    rintro e w15 ⟨uw, rfl, hu, hb⟩
    clear kr0 kr1 kr2 kr3 zr kt0 kt1 kt2 kt3 zt
    replace HS := Lib.hid (HS.out.kept hb)
    replace HAp := Lib.hid (HAp.out.read hb)
    replace HXp := Lib.hid (HXp.out.read hb)
    replace HAq := Lib.hid (HAq.out.read hb)
    replace HXq := Lib.hid (HXq.out.read hb)
    replace HAr := Lib.hid (HAr.out.read hb)
    replace HXr := Lib.hid (HXr.out.read hb)
    replace HAt := Lib.hid (HAt.out.read hb)
    replace HXt := Lib.hid (HXt.out.read hb)
    replace HUx := Lib.hid (HUx.out.kept hb)
    replace HUy := Lib.hid (HUy.out.kept hb)
    replace HUz := Lib.hid (HUz.out.kept hb)
    replace HW := Lib.hid (belowOn HW.out (Nat.le_refl _) hb)
    have HUw := Lib.hid hu.inS.any
    clear hu hb HC
    obtain ⟨wa, wc, rfl⟩ := HUw.out.slice
    have HC := Lib.hid (binds_any ul _ _ w15 HUw.out HUx.out HXG.out.1 HXG.out.2)
    go_wp2_with fail
    refine HC.out.mono ?_
    rintro e w16 ⟨rfl, hb⟩
    replace HW := Lib.hid (belowOn HW.out (Nat.le_refl _) hb)
    clear hb HC
    go_wp2
    go_ret
    exact ⟨rfl, HW.out⟩
  · -- ub = true, zb = false
    exact absurd (HOR.out rfl) (by decide)
  · -- ub = true, zb = true
    go_wp2_with fail
    refine HC.out.mono ?_
    rintro e w14 ⟨rfl, hb⟩
    replace HS := Lib.hid (HS.out.kept hb)
    replace HAp := Lib.hid (HAp.out.read hb)
    replace HXp := Lib.hid (HXp.out.read hb)
    replace HAq := Lib.hid (HAq.out.read hb)
    replace HXq := Lib.hid (HXq.out.read hb)
    replace HAr := Lib.hid (HAr.out.read hb)
    replace HXr := Lib.hid (HXr.out.read hb)
    replace HAt := Lib.hid (HAt.out.read hb)
    replace HXt := Lib.hid (HXt.out.read hb)
    replace HUx := Lib.hid (HUx.out.kept hb)
    replace HUy := Lib.hid (HUy.out.kept hb)
    replace HUz := Lib.hid (HUz.out.kept hb)
    replace HW := Lib.hid (belowOn HW.out (Nat.le_refl _) hb)
    clear hb HC
    obtain ⟨kr0, kr1, kr2, kr3⟩ := HXr.out.cells
    have zr := HXr.out.le
    obtain ⟨kt0, kt1, kt2, kt3⟩ := HXt.out.cells
    have zt := HXt.out.le
    have hI := implUnify_e (unL s p q) _ r _ t _ w14 HUz.out HZE.out.1 HZE.out.2 HAr.out.argsAt hzr HAt.out.argsAt hzt
    obtain ⟨_, hal2, hab2⟩ := HAFT.out.1 (by trivial)
    rw [← hal2, ← hab2] at hI
    clear hal2 hab2
    have HC := Lib.hid hI
    clear hI
    go_wp2_with fail
    refine HC.out.mono ?_
    rintro e w15 ⟨uw, rfl, hu, hb⟩
    clear kr0 kr1 kr2 kr3 zr kt0 kt1 kt2 kt3 zt
    replace HS := Lib.hid (HS.out.kept hb)
    replace HAp := Lib.hid (HAp.out.read hb)
    replace HXp := Lib.hid (HXp.out.read hb)
    replace HAq := Lib.hid (HAq.out.read hb)
    replace HXq := Lib.hid (HXq.out.read hb)
    replace HAr := Lib.hid (HAr.out.read hb)
    replace HXr := Lib.hid (HXr.out.read hb)
    replace HAt := Lib.hid (HAt.out.read hb)
    replace HXt := Lib.hid (HXt.out.read hb)
    replace HUx := Lib.hid (HUx.out.kept hb)
    replace HUy := Lib.hid (HUy.out.kept hb)
    replace HUz := Lib.hid (HUz.out.kept hb)
    replace HW := Lib.hid (belowOn HW.out (Nat.le_refl _) hb)
    have HUw := Lib.hid hu.inS.any
    clear hu hb HC
    obtain ⟨wa, wc, rfl⟩ := HUw.out.slice
    have HC := Lib.hid (binds_any ul _ _ w15 HUw.out HUx.out HXG.out.1 HXG.out.2)
    go_wp2_with fail
    refine HC.out.mono ?_
    rintro e w16 ⟨rfl, hb⟩
    replace HW := Lib.hid (belowOn HW.out (Nat.le_refl _) hb)
    clear hb HC
    go_wp2
    go_ret
    exact ⟨rfl, HW.out⟩
end Go.Proofs.YtbbgiefnmihmdaaGreat

