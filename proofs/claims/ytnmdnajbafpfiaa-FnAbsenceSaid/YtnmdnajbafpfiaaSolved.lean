/-
  The laws' MakeSolved: a drawn substitution and ground values that solve it. (Written by wip/tools/gen_solved.py.)
-/
import Derived.Test.YtnmdnajbafpfiaaDrawG
import Derived.Test.YtnmdnajbafpfiaaDemR
namespace Go.Proofs.Ytnmdnajbafpfiaa
open Go.RowKit
set_option linter.unusedVariables false
set_option linter.unusedSimpArgs false

/-- The value that stands in the place of a ground one. -/
def svB (s f : List Bd) (b : Bd) : Bd := ⟨b.v, match getO s b.v with | some t => putT f t | none => b.t⟩
def svL (s f : List Bd) : List Bd := f.map (svB s f)
/-- The answer is a substitution and values, both lying anywhere. -/
def MadeSv (w : World) (e : Ending) (w' : World) : Prop :=
  ∃ (s f : List Bd) (u v : Value), e = .returned (.tuple #[u, v]) ∧ ListS bdE w' Any u s ∧ ListS bdE w' Any v (svL s f) ∧ SubD 4 8 4 11 s ∧ GroundP 8 f ∧ Below w.heap.size w w'
/-- Four cells of a box of five are written. -/
theorem box_to {w : World} {b : Nat} {e : TypeId} {x0 x1 x2 x3 x4 y1 y2 y3 y4 : Value} (h : w.heap[b]? = some (Obj.cells #[x0, x1, x2, x3, x4] e)) :
    ((((w.setCell ⟨b, 1, none⟩ y1).setCell ⟨b, 2, none⟩ y2).setCell ⟨b, 3, none⟩ y3).setCell ⟨b, 4, none⟩ y4).heap[b]? = some (Obj.cells #[x0, y1, y2, y3, y4] e) ∧
    Only (fun k => k = b) w ((((w.setCell ⟨b, 1, none⟩ y1).setCell ⟨b, 2, none⟩ y2).setCell ⟨b, 3, none⟩ y3).setCell ⟨b, 4, none⟩ y4) := by
  have h1 := heap_setCell_same w b 1 _ e y1 h
  have h2 := heap_setCell_same _ b 2 _ e y2 h1
  have h3 := heap_setCell_same _ b 3 _ e y3 h2
  have h4 := heap_setCell_same _ b 4 _ e y4 h3
  have one : ∀ (W : World) (j : Nat) (u : Value), Only (fun k => k = b) W (W.setCell ⟨b, j, none⟩ u) := fun W j u => ⟨rfl, rfl, rfl, by simp, fun k _ hk => Below.heap_setCell _ _ _ _ hk⟩
  exact ⟨h4, (((one _ _ _).trans (one _ _ _)).trans (one _ _ _)).trans (one _ _ _)⟩
theorem RowK.only {α : Type} {E : El α} {e : TypeId} {w w' : World} {lo : Nat} {v : Value} {xs : List α} {S : Nat → Prop} (h : RowK E e w lo v xs) (ho : Only S w w') (hS : ∀ k, S k → w.heap.size ≤ k) : RowK E e w' lo v xs :=
  h.kept (ho.below hS (Nat.le_refl _))

set_option maxRecDepth 100000 in
set_option maxHeartbeats 4000000 in
theorem makeSolved_any (a : Option Addr) (len cap n : Nat) (w : World) (hb : Bytes w a len) (hl : len ≤ 1048576) (hn : n ≤ 1000000) :
    Calls Try.prog 8 #[.slice a len cap, .int .i64 n] w (MadeSv w) := by
  obtain ⟨i0, hi, hz0, hz1, hz2⟩ := info_parts infoBinding
  have HII := Lib.hid (And.intro hi (And.intro hz0 (And.intro hz1 hz2)))
  have HB := Lib.hid hb
  clear hb hi hz0 hz1 hz2
  go_enter Try.func8, Try.ntmps8
  go_wp2_with fail
  refine (newAt_any a len cap n w HB.out hl hn).mono ?_
  rintro e w2 ⟨p, rfl, hcur, hp1, hp2, hb1⟩
  have HD := Lib.hid (drawSubst_any w p a len cap w2 (ready_new HB.out hl hcur hp1 hp2 hb1))
  have HW := Lib.hid hb1
  clear hcur hb1
  go_wp2_with fail
  refine HD.out.mono ?_
  rintro e w3 ⟨s, u, rfl, hrow, hsd, hr, ho⟩
  have HF := Lib.hid (drawGround_any w p a len cap 8 w3 hr (Nat.le_refl _))
  have HS := Lib.hid hrow
  have HSD := Lib.hid hsd
  have HW3 := Lib.hid (HW.out.trans (ho.below (fun k hk => by have := hk.1; omega) HW.out.size))
  have hp3 : p < w2.heap.size := hp2
  clear hrow hsd hr ho HD HW
  go_wp2_with fail
  refine HF.out.mono ?_
  rintro e w4 ⟨f, v, rfl, hrow, hfd, hr, ho⟩
  obtain ⟨fa, fc, rfl⟩ := hrow.slice
  have HSL := Lib.hid (HS.out.only ho hp3).toK.inS.lowB
  have HFL := Lib.hid hrow.toK.inS.lowB
  have HFD := Lib.hid hfd
  have HW4 := Lib.hid (HW3.out.trans (ho.below (fun k hk => by have := hk.1; omega) HW3.out.size))
  have hfl : f.length ≤ 8 := Nat.le_of_eq hfd.1
  have hsl : s.length ≤ 1048576 := by have := (HSD.out.subst (by decide) (by decide) (by decide) (by decide) (by decide)).1.2.2; omega
  obtain ⟨sa, sc, rfl⟩ := HSL.out.slice
  clear hrow hfd hr ho HF HS HW3
  have HR0 := Lib.hid (rowK_start (E := bdE) (e := 73) (w := w4))
  have HB0 : Hid (Below w4.heap.size w4 (w4.alloc (.cells #[] 73))) := Lib.hid (belowAlloc (Below.refl _ _) _)
  go_wp2
  go_loopw [9, 24] (fun lv iv' wr => ∃ k : Nat, k ≤ f.length ∧ iv' = .int .i64 k ∧ Hid (RowK bdE 73 wr w4.heap.size lv ((svL s f).take k)) ∧ Hid (Below w4.heap.size w4 wr)) (fun _ iv' _ => f.length - (intOf iv').toNat)
  case atStart => exact ⟨0, Nat.zero_le _, rfl, HR0, HB0⟩
  case round =>
    obtain ⟨k, hk, rfl, HO, HBW⟩ := hrel
    have hll : (svL s f).length = f.length := List.length_map ..
    have hkl : ((svL s f).take k).length = k := by rw [List.length_take, hll]; omega
    have HKL := Lib.hid hkl
    obtain ⟨oa, oc, hov⟩ := HO.out.slice
    rw [hkl] at hov
    subst hov
    clear HR0 HB0 hkl
    by_cases hlt : k < f.length
    · have hltI : (k : Int) < (f.length : Int) := by omega
      obtain ⟨x, hx⟩ : ∃ x, f[k]? = some x := ⟨_, List.getElem?_eq_getElem hlt⟩
      have hxv : x.v = k := (HFD.out.2 k x hx).1
      have hy : (svL s f)[k]? = some (svB s f x) := by unfold svL; rw [List.getElem?_map, hx]; rfl
      have HTK := Lib.hid (takeE hy)
      have HXG := Lib.hid (HFD.out.2 k x hx)
      obtain ⟨g, off, u1, u2, rfl, hg, hq, hc, hu⟩ := HFL.out.bd hx
      obtain ⟨d0, d1, d2, d3, d4⟩ := hc wr HBW.out
      have HU := Lib.hid hu
      clear hq hc hu hx hy hll hxv
      go_upto_region 8 with (fail)
      have hal : Below wr.heap.size wr (wr.alloc (.cells #[.int .i64 x.v, .int .i64 x.t.kind, .int .i64 x.t.num, .string x.t.name, .slice u1 x.t.args.length u2] 73)) := belowAlloc (Below.refl _ _) _
      have HBX : Hid ((wr.alloc (.cells #[.int .i64 x.v, .int .i64 x.t.kind, .int .i64 x.t.num, .string x.t.name, .slice u1 x.t.args.length u2] 73)).heap[wr.heap.size]? = some (Obj.cells #[.int .i64 x.v, .int .i64 x.t.kind, .int .i64 x.t.num, .string x.t.name, .slice u1 x.t.args.length u2] 73)) := Lib.hid (heap_new wr _)
      have HRW := Lib.hid hal
      have HB1 := Lib.hid (belowOn HBW.out (Nat.le_refl _) hal)
      have hnb1 : w4.heap.size ≤ wr.heap.size := HBW.out.size
      have HOB := Lib.hid (rowK_block HO.out)
      clear d0 d1 d2 d3 d4 HBW
      have hnb2 : wr.heap.size < (wr.alloc (.cells #[.int .i64 x.v, .int .i64 x.t.kind, .int .i64 x.t.num, .string x.t.name, .slice u1 x.t.args.length u2] 73)).heap.size := by simp
      clear hal
      generalize hw1 : wr.alloc (.cells #[.int .i64 x.v, .int .i64 x.t.kind, .int .i64 x.t.num, .string x.t.name, .slice u1 x.t.args.length u2] 73) = w5 at HBX HRW HB1 hnb2 ⊢
      clear hw1
      have HKP : Hid (∀ W, Below wr.heap.size wr W → RowK bdE 73 W w4.heap.size (.slice oa k oc) ((svL s f).take k)) := Lib.hid fun W hW => HO.out.kept hW
      clear HO
      generalize wr.heap.size = nb at HBX HOB HRW HKP hnb1 hnb2 ⊢
      obtain ⟨c0, _, _, _, _, _⟩ := box_cells5 HBX.out
      have HG := Lib.hid (specGet_any s (.slice sa s.length sc) x.v (fun k => k < w4.heap.size) w5 (HSL.out.kept HB1.out) hsl)
      go_wp2_with fail
      refine HG.out.mono ?_
      clear HG
      cases hgo : getO s x.v with
      | none =>
        rintro e w6 ⟨u, rfl, hu, hb⟩
        rw [(get_no hgo).1] at hu
        rw [(get_no hgo).1, (get_no hgo).2]
        obtain ⟨ga, gc, rfl⟩ := hu.at.slice
        have HX8 : Hid (svB s f x = ⟨x.v, x.t⟩) := Lib.hid (by unfold svB; rw [hgo])
        have HBX6 : Hid (w6.heap[nb]? = some (Obj.cells #[.int .i64 x.v, .int .i64 x.t.kind, .int .i64 x.t.num, .string x.t.name, .slice u1 x.t.args.length u2] 73)) := Lib.hid ((hb.block nb hnb2).trans HBX.out)
        have HB6 := Lib.hid (belowOn HB1.out (Nat.le_refl _) hb)
        have HRW6 := Lib.hid (HRW.out.trans (hb.mono (Nat.le_of_lt hnb2)))
        have hnb6 : nb < w6.heap.size := Nat.lt_of_lt_of_le hnb2 hb.size
        clear hu hb HBX HB1 HRW c0 hgo
        have hal : Below w6.heap.size w6 (w6.alloc (.cells #[.int .i64 zeroTm.kind, .int .i64 zeroTm.num, .string zeroTm.name, .slice ga zeroTm.args.length gc] 28)) := belowAlloc (Below.refl _ _) _
        go_upto_region 11 with (fail)
        have HBX8 := Lib.hid ((hal.block nb hnb6).trans HBX6.out)
        have HB8 := Lib.hid (belowOn HB6.out (Nat.le_refl _) hal)
        have HO8 := Lib.hid (HKP.out _ (HRW6.out.trans (hal.mono (Nat.le_of_lt hnb6))))
        have hnb8 := Nat.lt_of_lt_of_le hnb6 hal.size
        clear hal HBX6 HB6 HRW6 hnb6
        generalize hw8 : w6.alloc (.cells #[.int .i64 zeroTm.kind, .int .i64 zeroTm.num, .string zeroTm.name, .slice ga zeroTm.args.length gc] 28) = w8 at HBX8 HB8 HO8 hnb8 ⊢
        clear hw8
        have HU8 : Hid (bdE.kid w8 (fun b => b < w4.heap.size ∨ (nb < b ∧ b < w8.heap.size)) (.slice u1 x.t.args.length u2) ⟨x.v, x.t⟩) := Lib.hid ((HU.out.kept HB8.out).sub fun k hk => .inl hk)
        have HTKX := Lib.hid HX8.out
        obtain ⟨L, hL1, hrow, hch⟩ := HO8.out
        have hLn : k = L.length := by have := congrArg List.length hL1; rw [HKL.out, List.length_map] at this; exact this
        rw [← hLn] at hrow
        have HROW := Lib.hid hrow
        have HPA := Lib.hid (And.intro hL1 (And.intro hLn hch))
        clear hL1 hLn hrow hch
        obtain ⟨e0, e1, e2, e3, e4, _⟩ := box_cells5 HBX8.out
        go_wp2_with (at_builtin; refine wpList_append_lies _ rfl _ _ 23 rfl w4.heap.size 73 i0 _ 5 64 Try.underlying23 HII.out.1 HII.out.2.1 HII.out.2.2.1 HII.out.2.2.2 rfl (by omega) (.slice oa k oc) k (cellsE bdE L) rfl (HROW.out.alloc _) ⟨w8.heap.size, 0, none⟩ 1 1 (bdE.cells ⟨x.v, x.t⟩ (.slice u1 x.t.args.length u2)) rfl rfl (World.news_of_block (heap_alloc_new w8 _)) (by simp [bdE, Value.oneCell']) (by omega) (by unfold maxLen; omega) (by omega) (by simp; omega) (w8.heap.size + 1) (by simp) ?_; intro gg cap' w9 hown1 hgrow hat hlt1; have HAP := Lib.hid (And.intro hown1 (And.intro hgrow (And.intro hat hlt1))); clear hown1 hgrow hat hlt1)
        have HBF := Lib.hid ((belowAlloc HB8.out (.cells #[.int .i64 x.v, .int .i64 x.t.kind, .int .i64 x.t.num, .string x.t.name, .slice u1 x.t.args.length u2] 73)).trans (below_of_grown HAP.out.2.1 (by have := HB8.out.size; simp; omega) (fun j hj => (HOB.out j hj).1)))
        have HN : Hid (RowK bdE 73 w9 w4.heap.size (.slice (some ⟨gg, 0, none⟩) (k + 1) cap') ((svL s f).take (k + 1))) := Lib.hid (by
          have h := rowK_append (E := bdE) (x := ⟨x.v, x.t⟩) HPA.out.2.1 HROW.out HPA.out.2.2 (C := fun b => b < w4.heap.size ∨ (nb < b ∧ b < w8.heap.size)) HU8.out (fun b hb => ⟨by have := HB8.out.size; omega, fun e => by have h1 := HOB.out b e; omega⟩) (belowAlloc (Below.refl _ _) _) HAP.out.1 HAP.out.2.1 (HAP.out.2.2.1.imp id (fun h => by omega))
          rw [← HPA.out.1, ← HTKX.out, ← HTK.out] at h
          exact h)
        clear HAP HPA HROW e0 e1 e2 e3 e4
        go_wp2
        go_roundw
        case rel => exact ⟨k + 1, by omega, by go_num, HN, HBF⟩
        case measure => simp [intOf]; omega
      | some t =>
        rintro e w6 ⟨u, rfl, hu, hb⟩
        rw [(get_yes hgo).1] at hu
        rw [(get_yes hgo).1, (get_yes hgo).2]
        obtain ⟨ga, gc, rfl⟩ := hu.at.slice
        have HX8 : Hid (svB s f x = ⟨x.v, putT f t⟩) := Lib.hid (by unfold svB; rw [hgo])
        have HTG : Hid (Good t ∧ t.nodes ≤ 11) := Lib.hid (by
          obtain ⟨b, hb, _, rfl⟩ := getO_some hgo
          have h1 := (HSD.out.1 b hb).2.2
          exact ⟨h1.1.1, by have := h1.2; omega⟩)
        have HBX6 : Hid (w6.heap[nb]? = some (Obj.cells #[.int .i64 x.v, .int .i64 x.t.kind, .int .i64 x.t.num, .string x.t.name, .slice u1 x.t.args.length u2] 73)) := Lib.hid ((hb.block nb hnb2).trans HBX.out)
        have HB6 := Lib.hid (belowOn HB1.out (Nat.le_refl _) hb)
        have HRW6 := Lib.hid (HRW.out.trans (hb.mono (Nat.le_of_lt hnb2)))
        have HU6 := Lib.hid hu
        have hnb6 : nb < w6.heap.size := Nat.lt_of_lt_of_le hnb2 hb.size
        clear hu hb HBX HB1 HRW c0 hgo
        have hal : Below w6.heap.size w6 (w6.alloc (.cells #[.int .i64 t.kind, .int .i64 t.num, .string t.name, .slice ga t.args.length gc] 28)) := belowAlloc (Below.refl _ _) _
        have hcell := box_cells (heap_new w6 (.cells #[.int .i64 t.kind, .int .i64 t.num, .string t.name, .slice ga t.args.length gc] 28))
        go_upto_region 10 with (fail)
        have HBX7 := Lib.hid ((hal.block nb hnb6).trans HBX6.out)
        have HB7 := Lib.hid (belowOn HB6.out (Nat.le_refl _) hal)
        have HRW7 := Lib.hid (HRW6.out.trans (hal.mono (Nat.le_of_lt hnb6)))
        have HU7 := Lib.hid (HU6.out.kept hal)
        have hnb7 := Nat.lt_of_lt_of_le hnb6 hal.size
        clear hal HBX6 HB6 HRW6 HU6
        generalize hw7 : w6.alloc (.cells #[.int .i64 t.kind, .int .i64 t.num, .string t.name, .slice ga t.args.length gc] 28) = w7 at HBX7 HB7 HRW7 HU7 hnb7 hcell ⊢
        clear hw7
        obtain ⟨c0, c1, c2, c3, _⟩ := hcell
        have HP := Lib.hid (specPut4_any f (by omega) (t.nodes + 1) t (.slice (some ⟨g, off, none⟩) f.length fc) (.slice ga t.args.length gc) (fun k => k < w4.heap.size) w7 (Nat.lt_succ_self _) (fun k hk => Nat.lt_of_lt_of_le hk HB7.out.size) (HFL.out.kept HB7.out) HU7.out (by have h1 := good_sz HTG.out.1; have h2 := HTG.out.2; omega) HTG.out.1)
        generalize hpt : putT f t = pt at HP HX8
        clear hpt HTG
        go_wp2_with fail
        refine HP.out.mono ?_
        rintro e wz ⟨u, rfl, hu, hb⟩
        obtain ⟨pa, pc, rfl⟩ := hu.at.slice
        have HBZ := Lib.hid ((hb.block nb hnb7).trans HBX7.out)
        have HB9 := Lib.hid (belowOn HB7.out (Nat.le_refl _) hb)
        have HRW9 := Lib.hid (HRW7.out.trans (hb.mono (Nat.le_of_lt hnb7)))
        have HU9 := Lib.hid hu
        have hnz := Nat.lt_of_lt_of_le hnb7 hb.size
        have hn7 : nb < w7.heap.size := hnb7
        clear hu hb HP HBX7 HB7 HRW7 HU7 hnb7 c0 c1 c2 c3
        obtain ⟨q0, q1, q2, q3, q4, qf⟩ := box_cells5 HBZ.out
        go_upto_region 11 with (fail)
        have hst := box_to (y1 := .int .i64 pt.kind) (y2 := .int .i64 pt.num) (y3 := .string pt.name) (y4 := .slice pa pt.args.length pc) HBZ.out
        have HBX8 := Lib.hid hst.1
        have HON := Lib.hid hst.2
        clear hst q0 q1 q2 q3 q4 qf
        generalize hw8 : (((wz.setCell ⟨nb, 1, none⟩ (.int .i64 pt.kind)).setCell ⟨nb, 2, none⟩ (.int .i64 pt.num)).setCell ⟨nb, 3, none⟩ (.string pt.name)).setCell ⟨nb, 4, none⟩ (.slice pa pt.args.length pc) = w8 at HBX8 HON ⊢
        clear hw8
        have HB8 := Lib.hid (HB9.out.trans (HON.out.below (fun k hk => by subst hk; exact hnb1) HB9.out.size))
        have HO8 := Lib.hid (HKP.out _ (HRW9.out.trans (HON.out.below (fun k hk => by omega) (Nat.le_of_lt hnz))))
        have hnb8 : nb < w8.heap.size := Nat.lt_of_lt_of_le hnz HON.out.size
        have HU8 : Hid (bdE.kid w8 (fun b => b < w4.heap.size ∨ (nb < b ∧ b < w8.heap.size)) (.slice pa pt.args.length pc) ⟨x.v, pt⟩) := Lib.hid ((HU9.out.frame HON.out.size fun k hk hks => HON.out.block k hks (fun e => by omega)).sub fun k hk => by have := HON.out.size; omega)
        have HTKX := Lib.hid HX8.out
        obtain ⟨L, hL1, hrow, hch⟩ := HO8.out
        have hLn : k = L.length := by have := congrArg List.length hL1; rw [HKL.out, List.length_map] at this; exact this
        rw [← hLn] at hrow
        have HROW := Lib.hid hrow
        have HPA := Lib.hid (And.intro hL1 (And.intro hLn hch))
        clear hL1 hLn hrow hch
        obtain ⟨e0, e1, e2, e3, e4, _⟩ := box_cells5 HBX8.out
        go_wp2_with (at_builtin; refine wpList_append_lies _ rfl _ _ 23 rfl w4.heap.size 73 i0 _ 5 64 Try.underlying23 HII.out.1 HII.out.2.1 HII.out.2.2.1 HII.out.2.2.2 rfl (by omega) (.slice oa k oc) k (cellsE bdE L) rfl (HROW.out.alloc _) ⟨w8.heap.size, 0, none⟩ 1 1 (bdE.cells ⟨x.v, pt⟩ (.slice pa pt.args.length pc)) rfl rfl (World.news_of_block (heap_alloc_new w8 _)) (by simp [bdE, Value.oneCell']) (by omega) (by unfold maxLen; omega) (by omega) (by simp; omega) (w8.heap.size + 1) (by simp) ?_; intro gg cap' w9 hown1 hgrow hat hlt1; have HAP := Lib.hid (And.intro hown1 (And.intro hgrow (And.intro hat hlt1))); clear hown1 hgrow hat hlt1)
        have HBF := Lib.hid ((belowAlloc HB8.out (.cells #[.int .i64 x.v, .int .i64 pt.kind, .int .i64 pt.num, .string pt.name, .slice pa pt.args.length pc] 73)).trans (below_of_grown HAP.out.2.1 (by have := HB8.out.size; simp; omega) (fun j hj => (HOB.out j hj).1)))
        have HN : Hid (RowK bdE 73 w9 w4.heap.size (.slice (some ⟨gg, 0, none⟩) (k + 1) cap') ((svL s f).take (k + 1))) := Lib.hid (by
          have h := rowK_append (E := bdE) (x := ⟨x.v, pt⟩) HPA.out.2.1 HROW.out HPA.out.2.2 (C := fun b => b < w4.heap.size ∨ (nb < b ∧ b < w8.heap.size)) HU8.out (fun b hb => ⟨by have := HB8.out.size; omega, fun e => by have h1 := HOB.out b e; omega⟩) (belowAlloc (Below.refl _ _) _) HAP.out.1 HAP.out.2.1 (HAP.out.2.2.1.imp id (fun h => by omega))
          rw [← HPA.out.1, ← HTKX.out, ← HTK.out] at h
          exact h)
        clear HAP HPA HROW e0 e1 e2 e3 e4
        go_wp2
        go_roundw
        case rel => exact ⟨k + 1, by omega, by go_num, HN, HBF⟩
        case measure => simp [intOf]; omega
    · obtain rfl : k = f.length := by omega
      have HL := Lib.hid HO.out.inS
      rw [show (svL s f).take f.length = svL s f from by rw [← hll, List.take_length]] at HL
      go_wp2
      refine bodyPost_ret (v := .tuple #[.slice sa s.length sc, .slice oa f.length oc]) (by simp [results, Try.results8, go_sem]) rfl ?_
      exact ⟨s, f, _, _, rfl, (HSL.out.kept HBW.out).any, HL.out, HSD.out, HFD.out, HW4.out.trans (HBW.out.mono HW4.out.size)⟩
end Go.Proofs.Ytnmdnajbafpfiaa

