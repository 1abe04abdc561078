/-
  The order of Marks by their keys, plain; the program's joined. (Written by wip/tools/gen_demj.py.)
-/
import Derived.Test.YtnmdnajbafpfiaaDemOkM
import Derived.Test.YtnmdnajbafpfiaaDemP
import Derived.Test.YtnmdnajbafpfiaaDemG
import Derived.Test.YtnmdnajbafpfiaaUnifT
import Derived.Deep.RegionHeld3
import Derived.Deep.RegionLaw
import Derived.Handy
namespace Go.Proofs.Ytnmdnajbafpfiaa
open Go.RowKit
set_option linter.unusedVariables false
set_option linter.unusedSimpArgs false

theorem mkFlat : Flat mkE := ⟨fun _ _ _ _ => trivial, fun _ _ _ _ => trivial, fun x U u hu => by
  simp only [mkE, List.mem_cons, List.not_mem_nil, or_false] at hu
  rcases hu with rfl | rfl <;> rfl⟩
theorem mkLt_irr (a : Mk) : mkLt a a = false := by
  obtain ⟨v, s⟩ := a
  simp [mkLt, bytesLess_irrefl]
theorem mkLt_iff {a b : Mk} : mkLt a b = true ↔ a.v < b.v ∨ (a.v = b.v ∧ Op.bytesLess a.tag.toList b.tag.toList = true) := by
  unfold mkLt
  rw [Bool.or_eq_true, Bool.and_eq_true, decide_eq_true_iff, beq_iff_eq]
theorem mkLt_tr {a b c : Mk} (h1 : mkLt a b = true) (h2 : mkLt b c = true) : mkLt a c = true := by
  rw [mkLt_iff] at h1 h2 ⊢
  rcases h1 with h1 | ⟨e1, h1⟩ <;> rcases h2 with h2 | ⟨e2, h2⟩
  · exact .inl (by omega)
  · exact .inl (by omega)
  · exact .inl (by omega)
  · exact .inr ⟨by omega, bl_trans _ _ _ h1 h2⟩
theorem mkLt_total {a b : Mk} (h1 : mkLt a b = false) (h2 : mkLt b a = false) : a = b := by
  obtain ⟨v, s⟩ := a
  obtain ⟨u, t⟩ := b
  rw [Bool.eq_false_iff, Ne, mkLt_iff] at h1 h2
  have hv : v = u := by
    have a1 : ¬ v < u := fun h => h1 (.inl h)
    have a2 : ¬ u < v := fun h => h2 (.inl h)
    omega
  subst hv
  by_cases ht : s.toList = t.toList
  · rw [toList_inj ht]
  · exfalso
    have h3 := bl_anti s.toList t.toList ht
    have h4 : Op.bytesLess s.toList t.toList = false := by rw [Bool.eq_false_iff]; exact fun h => h1 (.inr ⟨rfl, h⟩)
    rw [h4] at h3
    exact h2 (.inr ⟨rfl, h3⟩)
def ordM : KeyO Mk where
  lt := mkLt
  irr := mkLt_irr
  tr a b c := mkLt_tr
  neg a b c h1 h2 := by
    cases h3 : mkLt a c with
    | false => rfl
    | true =>
      cases h4 : mkLt b a with
      | true => have := mkLt_tr h4 h3; rw [h2] at this; cases this
      | false => have := mkLt_total h1 h4; subst this; rw [h2] at h3; cases h3
theorem ordM_neg {x y : Mk} (h : mkCmp x y < 0) : ordM.lt x y = true := mkCmp_neg.1 h
theorem mkCmp_anti (x y : Mk) : mkCmp y x = -mkCmp x y := by
  unfold mkCmp
  by_cases h : x.v = y.v
  · rw [if_pos h, if_pos h.symm, cmpS_anti]
  · rw [if_neg h, if_neg (fun e => h e.symm), cmpI_anti]
theorem ordM_pos {x y : Mk} (h : 0 < mkCmp x y) : ordM.lt x y = false ∧ ordM.lt y x = true := by
  have h2 : ordM.lt y x = true := mkCmp_neg.1 (by rw [mkCmp_anti]; omega)
  exact ⟨ordM.asym h2, h2⟩
theorem ordM_zero {x y : Mk} (h : mkCmp x y = 0) : x = y := by
  have h1 : mkLt x y = false := by rw [Bool.eq_false_iff]; intro hh; have := mkCmp_neg.2 hh; omega
  have h2 : mkLt y x = false := by rw [Bool.eq_false_iff]; intro hh; have := mkCmp_neg.2 hh; rw [mkCmp_anti] at this; omega
  exact mkLt_total h1 h2
theorem ordM_total {x y : Mk} : ¬ Clash ordM x y := fun h => h.2.2 (mkLt_total h.1 h.2.1)
theorem mksP_asc {l : List Mk} (h : MksP l) : AscO ordM l := by
  refine List.pairwise_iff_getElem.2 fun i j hi hj hij => ?_
  have step : ∀ (d i : Nat) (x y : Mk), l[i]? = some x → l[i + 1 + d]? = some y → mkLt x y = true := by
    intro d
    induction d with
    | zero => intro i x y hx hy; exact (h (i + 1) y hy).2 i x rfl hx
    | succ d ih =>
      intro i x y hx hy
      have hlen := (List.getElem?_eq_some_iff.1 hy).1
      obtain ⟨z, hz⟩ : ∃ z, l[i + 1 + d]? = some z := ⟨_, List.getElem?_eq_getElem (by omega)⟩
      exact mkLt_tr (ih i x z hx hz) ((h (i + 1 + d + 1) y (by rw [show i + 1 + d + 1 = i + 1 + (d + 1) from rfl]; exact hy)).2 (i + 1 + d) z rfl hz)
  exact step (j - i - 1) i _ _ (List.getElem?_eq_getElem hi) (by rw [show i + 1 + (j - i - 1) = j from by omega]; exact List.getElem?_eq_getElem hj)
def sliceLenM : Value → Nat
  | .slice _ n _ => n
  | _ => 0
/-- A list of the call's own, or nil and false. -/
def NewDM (r : Option (List Mk)) (w : World) (e : Ending) (w' : World) : Prop :=
  ∃ v, e = .returned (.tuple #[v, .bool r.isSome]) ∧ ListO mkE 49 w' (iv w.heap.size w'.heap.size) v (r.getD []) ∧ CapL v (r.getD []).length ∧ Below w.heap.size w w'
theorem newDM_yes {xs : List Mk} {w w' : World} {v : Value} (h : RowX mkE 49 w' w.heap.size v xs) (hb : Below w.heap.size w w') : NewDM (some xs) w (.returned (.tuple #[v, .bool true])) w' :=
  ⟨v, rfl, h.ownL mkFlat, h.capL, hb⟩
theorem jn_onM {x : Mk} {acc : List Mk} {o R : Option (List Mk)} (h : (o.map (x :: ·)).map (acc ++ ·) = R) : o.map ((acc ++ [x]) ++ ·) = R := by
  rw [← h]
  cases o with
  | none => rfl
  | some r => show some (acc ++ [x] ++ r) = some (acc ++ (x :: r)); rw [List.append_assoc]; rfl
theorem newDM_no {w w' : World} (hb : Below w.heap.size w w') : NewDM none w (.returned (.tuple #[.slice none 0 0, .bool false])) w' := ⟨_, rfl, .nil, .inl ⟨rfl, rfl⟩, hb⟩

set_option maxRecDepth 100000 in
set_option maxHeartbeats 16000000 in
theorem mkJoined_any (l o : List Mk) (Vl Vo : Value) (w : World) (hA : ListS mkE w Any Vl l) (hCA : CapL Vl l.length) (hB : ListS mkE w Any Vo o) (hCB : CapL Vo o.length) (hL : l.length + o.length ≤ 68719476736) :
    Calls Try.prog 78 #[Vl, Vo] w (NewDM (jn ordM l o) w) := by
  obtain ⟨A0, c0, rfl, hc0, hm0, hn0⟩ := hCA.slice
  obtain ⟨A1, c1, rfl, hc1, hm1, hn1⟩ := hCB.slice
  obtain ⟨i0, hi, hz0, hz1, hz2⟩ := info_parts infoMark
  have HII := Lib.hid (And.intro hi (And.intro hz0 (And.intro hz1 hz2)))
  have HA := Lib.hid hA
  have HBO := Lib.hid hB
  have HR0 : Hid ((jn ordM l o).map (([] : List Mk) ++ ·) = jn ordM l o) := Lib.hid (by cases jn ordM l o <;> rfl)
  obtain ⟨R, hR⟩ : ∃ R, jn ordM l o = R := ⟨_, rfl⟩
  rw [hR]
  have HR : Hid ((jn ordM l o).map (([] : List Mk) ++ ·) = R) := Lib.hid (HR0.out.trans hR)
  obtain ⟨nl, hnl⟩ : ∃ n : Nat, n = l.length := ⟨_, rfl⟩
  obtain ⟨no, hno⟩ : ∃ n : Nat, n = o.length := ⟨_, rfl⟩
  rw [← hnl] at hc0 hn0 hL HA ⊢
  rw [← hno] at hc1 hn1 hL HBO ⊢
  have HN0 := Lib.hid hn0
  have HN1 := Lib.hid hn1
  have HNL := Lib.hid hnl
  have HNO := Lib.hid hno
  clear hi hz0 hz1 hz2 hA hB HR0 hR hnl hno hn0 hn1 hCA hCB
  go_enter Try.func78, Try.ntmps78
  go_wp2_with (at_make; refine wpList_make_own _ rfl _ _ 86 rfl w.heap.size 49 i0 _ 2 Try.underlying86 HII.out.1 HII.out.2.1 HII.out.2.2.1 .i64 .i64 _ (nl + no) rfl rfl (by omega) (by rw [HII.out.2.2.2]; omega) (by unfold maxLen; omega) (Nat.le_refl _) ?_; intro w1 hown hg; have HO1 := Lib.hid hown; have HG1 := Lib.hid hg; clear hown hg)
  have HB1 := Lib.hid (below_of_grown (B := w.heap.size) HG1.out (Nat.le_refl _) (fun k hk => by cases hk))
  have HRW : Hid (RowX mkE 49 w1 w.heap.size (.slice (some ⟨w.heap.size, 0, none⟩) 0 (nl + no)) []) := Lib.hid ⟨[], rfl, HO1.out, fun j p hj => by simp at hj⟩
  clear HO1 HG1
  go_loopw [0, 1, 6] (fun v0 v1 v6 wr => ∃ (p q acc : List Mk) (B0 B1 : Option Addr) (np nq kk b0 b1 gg cc : Nat), v0 = .slice B0 np b0 ∧ v1 = .slice B1 nq b1 ∧ v6 = .slice (some ⟨gg, 0, none⟩) kk cc ∧ np ≤ b0 ∧ b0 ≤ 9223372036854775807 ∧ nq ≤ b1 ∧ b1 ≤ 9223372036854775807 ∧ kk + np + nq ≤ 68719476736 ∧
      Hid (np = p.length ∧ nq = q.length ∧ kk = acc.length) ∧ Hid (ListS mkE w Any (.slice B0 np b0) p) ∧ Hid (ListS mkE w Any (.slice B1 nq b1) q) ∧ Hid (B0 = none → np = 0 ∧ b0 = 0) ∧ Hid (B1 = none → nq = 0 ∧ b1 = 0) ∧ Hid (RowX mkE 49 wr w.heap.size (.slice (some ⟨gg, 0, none⟩) kk cc) acc) ∧ Hid ((jn ordM p q).map (acc ++ ·) = R) ∧ Hid (Below w.heap.size w wr)) (fun v0 v1 _ _ => sliceLenM v0 + sliceLenM v1)
  case atStart => exact ⟨l, o, [], A0, A1, nl, no, 0, c0, c1, w.heap.size, nl + no, rfl, rfl, rfl, hc0, hm0, hc1, hm1, by omega, Lib.hid ⟨HNL.out, HNO.out, rfl⟩, HA, HBO, HN0, HN1, HRW, HR, HB1⟩
  case round =>
    obtain ⟨p, q, acc, B0, B1, np, nq, kk, b0, b1, gg, cc, rfl, rfl, rfl, hnb0, hb0, hnb1, hb1, hsum, HN, HP, HQ, HM0, HM1, HRX, HJ, HB⟩ := hrel
    clear HRW HB1 HR
    have hwz : w.heap.size ≤ wr.heap.size := HB.out.size
    by_cases hne : p = [] ∨ q = []
    · obtain rfl : R = some (acc ++ (p ++ q)) := by
        rw [← HJ.out]
        rcases hne with rfl | rfl
        · rw [jn_nil]; rfl
        · rw [jn_none2, List.append_nil]; rfl
      obtain ⟨Lp, hLp, hlp, hcp⟩ := HP.out.flatCells
      obtain ⟨Lq, hLq, hlq, hcq⟩ := HQ.out.flatCells
      have HLP : Hid (Lp.length = np ∧ Lq.length = nq) := Lib.hid ⟨hlp, hlq⟩
      have HCP := Lib.hid hcp
      have HCQ := Lib.hid hcq
      have HPQ : Hid (acc ++ (p ++ q) = (acc ++ Lp.map Prod.fst) ++ Lq.map Prod.fst) := Lib.hid (by rw [← hLp, ← hLq, List.append_assoc])
      have HKA : Hid (acc.length = kk ∧ (acc ++ Lp.map Prod.fst).length = kk + np) := Lib.hid ⟨HN.out.2.2.symm, by rw [List.length_append, List.length_map, HLP.out.1, HN.out.2.2]⟩
      have HZ : Hid (¬ 0 < np ∨ (0 < np ∧ ¬ 0 < nq)) := Lib.hid (by
        have h1 := HN.out
        rcases hne with rfl | rfl
        · left; have := h1.1; simp at this; omega
        · have := h1.2.1; simp at this; omega)
      clear hLp hLq hlp hlq hcp hcq hne
      rcases HZ.out with hz | ⟨hz, hz2⟩
      · clear HZ
        go_wp2_with (first | (at_builtin; refine append_rowY rfl _ _ 86 rfl mkE mkFlat w.heap.size 49 i0 _ 24 Try.underlying86 HII.out.1 HII.out.2.1 HII.out.2.2.1 HII.out.2.2.2 rfl (by omega) (.slice (some ⟨gg, 0, none⟩) kk cc) acc rfl HRX.out B0 np b0 rfl Lp HLP.out.1 HM0.out (HCP.out _ HB.out) (by have := HKA.out.1; omega) hwz ?_; intro v7 w7 hown7 hb7; have HO7 := Lib.hid hown7; have HB7 := Lib.hid (HB.out.trans hb7); have hwz7 : w.heap.size ≤ w7.heap.size := HB7.out.size; clear hown7 hb7) | (at_builtin; refine append_rowY rfl _ _ 86 rfl mkE mkFlat w.heap.size 49 i0 _ 24 Try.underlying86 HII.out.1 HII.out.2.1 HII.out.2.2.1 HII.out.2.2.2 rfl (by omega) (v7) (acc ++ Lp.map Prod.fst) rfl HO7.out B1 nq b1 rfl Lq HLP.out.2 HM1.out (HCQ.out _ HB7.out) (by have := HKA.out.2; omega) hwz7 ?_; intro v8 w8 hown8 hb8; have HO8 := Lib.hid hown8; have HB8 := Lib.hid (HB7.out.trans hb8); clear hown8 hb8))
        go_ret2
        rw [HPQ.out]
        exact newDM_yes HO8.out HB8.out
      · clear HZ
        go_wp2_with (first | (at_builtin; refine append_rowY rfl _ _ 86 rfl mkE mkFlat w.heap.size 49 i0 _ 24 Try.underlying86 HII.out.1 HII.out.2.1 HII.out.2.2.1 HII.out.2.2.2 rfl (by omega) (.slice (some ⟨gg, 0, none⟩) kk cc) acc rfl HRX.out B0 np b0 rfl Lp HLP.out.1 HM0.out (HCP.out _ HB.out) (by have := HKA.out.1; omega) hwz ?_; intro v7 w7 hown7 hb7; have HO7 := Lib.hid hown7; have HB7 := Lib.hid (HB.out.trans hb7); have hwz7 : w.heap.size ≤ w7.heap.size := HB7.out.size; clear hown7 hb7) | (at_builtin; refine append_rowY rfl _ _ 86 rfl mkE mkFlat w.heap.size 49 i0 _ 24 Try.underlying86 HII.out.1 HII.out.2.1 HII.out.2.2.1 HII.out.2.2.2 rfl (by omega) (v7) (acc ++ Lp.map Prod.fst) rfl HO7.out B1 nq b1 rfl Lq HLP.out.2 HM1.out (HCQ.out _ HB7.out) (by have := HKA.out.2; omega) hwz7 ?_; intro v8 w8 hown8 hb8; have HO8 := Lib.hid hown8; have HB8 := Lib.hid (HB7.out.trans hb8); clear hown8 hb8))
        go_ret2
        rw [HPQ.out]
        exact newDM_yes HO8.out HB8.out
    · obtain ⟨x, p', rfl⟩ : ∃ x p', p = x :: p' := by cases p with | nil => exact absurd (.inl rfl) hne | cons x p' => exact ⟨x, p', rfl⟩
      obtain ⟨y, q', rfl⟩ : ∃ y q', q = y :: q' := by cases q with | nil => exact absurd (.inr rfl) hne | cons y q' => exact ⟨y, q', rfl⟩
      have HNP : Hid (np = p'.length + 1 ∧ nq = q'.length + 1) := Lib.hid ⟨HN.out.1, HN.out.2.1⟩
      have hnp : 0 < np := by have := HNP.out; omega
      have hnq : 0 < nq := by have := HNP.out; omega
      have hnpI : (0 : Int) < (np : Int) := by omega
      have hnqI : (0 : Int) < (nq : Int) := by omega
      obtain ⟨g0, a0, hgx, hxl, hq0, hcx⟩ := HP.out.mk (k := 0) (x := x) rfl
      obtain ⟨g1, a1, hgy, hyl, hq1, hcy⟩ := HQ.out.mk (k := 0) (x := y) rfl
      subst hgx
      subst hgy
      clear hq0 hq1
      obtain ⟨a0', HP', hsl0⟩ := cut_one (E := mkE) 86 49 Try.underlying86 (fun W => by kernel_rfl) HNP.out.1 HP.out hnb0
      obtain ⟨a1', HQ', hsl1⟩ := cut_one (E := mkE) 86 49 Try.underlying86 (fun W => by kernel_rfl) HNP.out.2 HQ.out hnb1
      have HP2 := Lib.hid HP'
      have HQ2 := Lib.hid HQ'
      obtain ⟨xv, xs⟩ := x
      obtain ⟨yv, ys⟩ := y
      have HCC : Hid (∀ W, Below w.heap.size w W → W.cell? ⟨g0, a0, none⟩ = some (.int .i64 xv) ∧ W.cell? ⟨g0, a0 + 1, none⟩ = some (.string xs) ∧ W.cell? ⟨g1, a1, none⟩ = some (.int .i64 yv) ∧ W.cell? ⟨g1, a1 + 1, none⟩ = some (.string ys)) := Lib.hid fun W hW => by
        have h1 := hcx W hW
        have h2 := hcy W hW
        rw [Nat.zero_mul, Nat.add_zero] at h1 h2
        exact ⟨h1.1, h1.2, h2.1, h2.2⟩
      have HCE : Hid (∀ W, Below wr.heap.size wr W → W.cell? ⟨g0, a0, none⟩ = some (.int .i64 xv) ∧ W.cell? ⟨g0, a0 + 1, none⟩ = some (.string xs) ∧ W.cell? ⟨g1, a1, none⟩ = some (.int .i64 yv) ∧ W.cell? ⟨g1, a1 + 1, none⟩ = some (.string ys)) := Lib.hid fun W hW => HCC.out W (belowOn HB.out (Nat.le_refl _) hW)
      have hself : Below wr.heap.size wr wr := Below.refl _ _
      have hdrew : Below wr.heap.size wr wr.drew := hself.drew
      have HTR : Hid (∀ a b, Below wr.heap.size wr a → Below a.heap.size a b → Below wr.heap.size wr b) := Lib.hid fun a b h1 h2 => belowOn h1 (Nat.le_refl _) h2
      have HCO : Hid (∀ W, Calls Try.prog 154 #[.agg #[.int .i64 xv, .string xs], .agg #[.int .i64 yv, .string ys]] W fun e w' => e = .returned (.int .i64 (mkCmp ⟨xv, xs⟩ ⟨yv, ys⟩)) ∧ Below W.heap.size W w') := Lib.hid fun W => mkCompareC_any ⟨xv, xs⟩ ⟨yv, ys⟩ W
      obtain ⟨c, hc⟩ : ∃ c, mkCmp ⟨xv, xs⟩ ⟨yv, ys⟩ = c := ⟨_, rfl⟩
      rw [hc] at HCO
      have HCV := Lib.hid hc
      have HSL := Lib.hid (And.intro hsl0 hsl1)
      clear hcx hcy hc HP' HQ' hne hsl0 hsl1
      obtain ⟨e0, e1, e2, e3⟩ := HCE.out wr hself
      go_upto_region 3 with (fail)
      refine wp_region_held_drew (S := (fun w' => Below wr.heap.size wr w' ∧ w'.cell? ⟨g0, a0, none⟩ = some (.int .i64 xv) ∧ w'.cell? ⟨g0, a0 + 1, none⟩ = some (.string xs) ∧ w'.cell? ⟨g1, a1, none⟩ = some (.int .i64 yv) ∧ w'.cell? ⟨g1, a1 + 1, none⟩ = some (.string ys))) (by kernel_rfl) (by (try dsimp only); go_keep) (fun hHeld => ?_)
      (refine wpAnyH_take (i := 0) (oi := ⟨_, _, _, _, _, _⟩) (v := ?_) rfl (by kernel_rfl) (by kernel_rfl) (by kernel_rfl) (fun _ _ _ h => h) (Or.inl ⟨by rfl, ?_⟩) (by assumption) ?_; rotate_left; focus ((intro w' hSw; (try dsimp only at hSw); go_simp; (try with_reducible rfl)))); (try simp only [Act.put, List.setIfInBounds_toArray, List.set_cons_zero, List.set_cons_succ])
      (refine wpAnyH_take (i := 1) (oi := ⟨_, _, _, _, _, _⟩) (v := ?_) rfl (by kernel_rfl) (by kernel_rfl) (by kernel_rfl) (fun _ _ _ h => h) (Or.inl ⟨by rfl, ?_⟩) (by assumption) ?_; rotate_left; focus ((intro w' hSw; (try dsimp only at hSw); go_simp; (try with_reducible rfl)))); (try simp only [Act.put, List.setIfInBounds_toArray, List.set_cons_zero, List.set_cons_succ])
      (refine wpAnyH_take (i := 2) (oi := ⟨_, _, _, _, _, _⟩) (v := ?_) rfl (by kernel_rfl) (by kernel_rfl) (by kernel_rfl) (fun _ _ _ h => h) (Or.inl ⟨by rfl, ?_⟩) (by assumption) ?_; rotate_left; focus ((intro w' hSw; (try dsimp only at hSw); go_simp; (try with_reducible rfl)))); (try simp only [Act.put, List.setIfInBounds_toArray, List.set_cons_zero, List.set_cons_succ])
      (refine wpAnyH_take (i := 3) (oi := ⟨_, _, _, _, _, _⟩) (v := ?_) rfl (by kernel_rfl) (by kernel_rfl) (by kernel_rfl) (fun _ _ _ h => h) (Or.inl ⟨by rfl, ?_⟩) (by assumption) ?_; rotate_left; focus ((intro w' hSw; (try dsimp only at hSw); go_simp; (try with_reducible rfl)))); (try simp only [Act.put, List.setIfInBounds_toArray, List.set_cons_zero, List.set_cons_succ])
      (refine wpAnyH_take (i := 4) (oi := ⟨_, _, _, _, _, _⟩) (v := ?_) rfl (by kernel_rfl) (by kernel_rfl) (by kernel_rfl) (fun _ _ _ h => h) (Or.inl ⟨by rfl, ?_⟩) (by assumption) ?_; rotate_left; focus ((intro w' hSw; (try dsimp only at hSw); go_simp; (try with_reducible rfl)))); (try simp only [Act.put, List.setIfInBounds_toArray, List.set_cons_zero, List.set_cons_succ])
      (refine wpAnyH_take (i := 5) (oi := ⟨_, _, _, _, _, _⟩) (v := ?_) rfl (by kernel_rfl) (by kernel_rfl) (by kernel_rfl) (fun _ _ _ h => h) (Or.inl ⟨by rfl, ?_⟩) (by assumption) ?_; rotate_left; focus ((intro w' hSw; (try dsimp only at hSw); go_simp; (try with_reducible rfl)))); (try simp only [Act.put, List.setIfInBounds_toArray, List.set_cons_zero, List.set_cons_succ])
      (refine wpAnyH_take (i := 6) (oi := ⟨_, _, _, _, _, _⟩) (v := ?_) rfl (by kernel_rfl) (by kernel_rfl) (by kernel_rfl) (fun _ _ _ h => h) (Or.inl ⟨by rfl, ?_⟩) (by assumption) ?_; rotate_left; focus ((intro w' hSw; (try dsimp only at hSw); go_simp; (try with_reducible rfl)))); (try simp only [Act.put, List.setIfInBounds_toArray, List.set_cons_zero, List.set_cons_succ])
      refine wpAnyH_ready (rs := [7]) (by kernel_rfl) (by simp) ?_
      refine AllReadyH.cons (o := ⟨_, _, _, _, _, _⟩) rfl (fun K hK => ?_) AllReadyH.nil
      go_simp
      (try (go_invoke; go_simp))
      (first | (go_at_call 154; (with_reducible refine Calls.mono (HCO.out _) ?_); rintro e w2 ⟨rfl, hb⟩; have hB' := HTR.out _ _ (by assumption) hb; obtain ⟨k0, k1, k2, k3⟩ := HCE.out _ hB'))
      (try go_wp2_with fail)
      refine hK.out _ _ (by (try dsimp only); (first | go_keep | (refine ⟨by assumption, ?_⟩; go_keep))) (fun hHeld => ?_)
      clear hK K
      (try simp only [Act.put, List.setIfInBounds_toArray, List.set_cons_zero, List.set_cons_succ])
      (refine wpAnyH_take (i := 8) (oi := ⟨_, _, _, _, _, _⟩) (v := ?_) rfl (by kernel_rfl) (by kernel_rfl) (by kernel_rfl) (fun _ _ _ h => h) (Or.inl ⟨by rfl, ?_⟩) (by assumption) ?_; rotate_left; focus ((intro w' hSw; (try dsimp only at hSw); go_simp; (try with_reducible rfl)))); (try simp only [Act.put, List.setIfInBounds_toArray, List.set_cons_zero, List.set_cons_succ])
      refine wpAnyH_done (by kernel_rfl) ?_ _
      have HB2 : Hid (Below wr.heap.size wr w2) := Lib.hid hB'
      clear hHeld hB' hb e0 e1 e2 e3 hself hdrew
      try clear k0 k1 k2 k3
      have HBW : Hid (Below w.heap.size w w2) := Lib.hid (belowOn HB.out (Nat.le_refl _) HB2.out)
      have HRX2 := Lib.hid (HRX.out.kept HB2.out)
      obtain ⟨e0, e1, e2, e3⟩ := HCC.out w2 HBW.out
      have hwz2 : w.heap.size ≤ w2.heap.size := HBW.out.size
      clear HCE HCO HTR HRX HB2 HB hwz
      obtain ⟨hsl0, hsl1⟩ := HSL.out
      obtain ⟨L, hL, hLn, hrow⟩ := rowX_at HRX2.out
      have HROW := Lib.hid hrow
      have HNE := Lib.hid (fun k hk => (World.ownsRow.lt hrow k hk).1)
      have HLL := Lib.hid (And.intro hL hLn)
      clear hL hLn hrow HSL
      rcases Int.lt_trichotomy c 0 with hc | hc | hc
      · have l1 : decide (c < 0) = true := decide_eq_true hc
        have HJ2 : Hid ((jn ordM p' (⟨yv, ys⟩ :: q')).map ((acc ++ [⟨xv, xs⟩]) ++ ·) = R) := Lib.hid (jn_onM (by rw [← jn_less (ordM_neg (by rw [HCV.out]; exact hc))]; exact HJ.out))
        clear HCV HJ hc hsl1
        go_upto_region 6 with (fail)
        go_region_law (first
          | (refine step_append_lies _ (by rfl) _ _ _ (by rfl) w.heap.size 49 i0 _ 2 24 Try.underlying86 HII.out.1 HII.out.2.1 HII.out.2.2.1 HII.out.2.2.2 rfl (by omega) (.slice (some ⟨gg, 0, none⟩) kk cc) kk (cellsE mkE L) (by rfl) (HROW.out.drew.alloc _) ⟨w2.heap.size, 0, none⟩ 1 1 (mkE.cells ⟨xv, xs⟩ (.slice none 0 0)) (by rfl) (by rfl) (World.news_of_block (heap_alloc_new w2.drew _)) (by simp [mkE, Value.oneCell']) (by omega) (by unfold maxLen; omega) (by omega) (by simp; omega) (w2.heap.size + 1) (by simp) ?_; intro gg2 cc2 w3 hown1 hgrow hat hlt1; have HAP := Lib.hid (And.intro hown1 hgrow); clear hown1 hgrow hat hlt1))
        all_goals
          (try simp only [List.getElem_toArray, List.getElem_cons_succ, List.getElem_cons_zero, Act.put, List.setIfInBounds_toArray, List.set_cons_zero, List.set_cons_succ])
          have HB3 : Hid (Below w.heap.size w w3) := Lib.hid ((HBW.out.drew.alloc (by simp; omega) (.cells #[.int .i64 xv, .string xs] 49)).trans (below_of_grown HAP.out.2 (by simp; omega) HNE.out))
          have HR3 : Hid (RowX mkE 49 w3 w.heap.size (.slice (some ⟨gg2, 0, none⟩) (kk + 1) cc2) (acc ++ [⟨xv, xs⟩])) := Lib.hid (rowX_one (x := ⟨xv, xs⟩) mkFlat HLL.out.1 HLL.out.2 HAP.out.1)
          clear HAP HROW HRX2 HBW e0 e1 e2 e3
          go_wp2
          go_roundw
          case rel =>
            have hn1 := HNP.out.1
            have hn2 := HNP.out.2
            exact ⟨p', ⟨yv, ys⟩ :: q', acc ++ [⟨xv, xs⟩], _, _, p'.length, nq, kk + 1, b0 - 1, b1, gg2, cc2, rfl, rfl, rfl, by omega, by omega, hnb1, hb1, by omega, Lib.hid ⟨rfl, HN.out.2.1, by rw [List.length_append, ← HN.out.2.2]; rfl⟩, HP2, HQ, Lib.hid (fun h => by cases h), HM1, HR3, HJ2, HB3⟩
          case measure =>
            have hn1 := HNP.out.1
            have hn2 := HNP.out.2
            simp [sliceLenM]
            omega
      · have l1 : decide (c < 0) = false := decide_eq_false (by omega)
        have l2 : decide (0 < c) = false := decide_eq_false (by omega)
        go_upto_region 9 with (fail)
        have hxy := ordM_zero (by rw [HCV.out]; exact hc)
        cases hxy
        clear hc
        have HJ2 : Hid ((jn ordM (⟨xv, xs⟩ :: p') q').map (acc ++ ·) = R) := Lib.hid (by rw [← jn_same]; exact HJ.out)
        clear HCV HJ
        refine wp_region_held_drew (S := (fun w' => w'.cell? ⟨g0, a0, none⟩ = some (.int .i64 xv) ∧ w'.cell? ⟨g0, a0 + 1, none⟩ = some (.string xs) ∧ w'.cell? ⟨g1, a1, none⟩ = some (.int .i64 xv) ∧ w'.cell? ⟨g1, a1 + 1, none⟩ = some (.string xs))) (by kernel_rfl) (by (try dsimp only); go_keep) (fun hHeld => ?_)
        (refine wpAnyH_take (i := 0) (oi := ⟨_, _, _, _, _, _⟩) (v := ?_) rfl (by kernel_rfl) (by kernel_rfl) (by kernel_rfl) (fun _ _ _ h => h) (Or.inl ⟨by rfl, ?_⟩) (by assumption) ?_; rotate_left; focus ((intro w' hSw; (try dsimp only at hSw); go_simp; (try with_reducible rfl)))); (try simp only [Act.put, List.setIfInBounds_toArray, List.set_cons_zero, List.set_cons_succ])
        (refine wpAnyH_take (i := 1) (oi := ⟨_, _, _, _, _, _⟩) (v := ?_) rfl (by kernel_rfl) (by kernel_rfl) (by kernel_rfl) (fun _ _ _ h => h) (Or.inl ⟨by rfl, ?_⟩) (by assumption) ?_; rotate_left; focus ((intro w' hSw; (try dsimp only at hSw); go_simp; (try with_reducible rfl)))); (try simp only [Act.put, List.setIfInBounds_toArray, List.set_cons_zero, List.set_cons_succ])
        (refine wpAnyH_take (i := 2) (oi := ⟨_, _, _, _, _, _⟩) (v := ?_) rfl (by kernel_rfl) (by kernel_rfl) (by kernel_rfl) (fun _ _ _ h => h) (Or.inl ⟨by rfl, ?_⟩) (by assumption) ?_; rotate_left; focus ((intro w' hSw; (try dsimp only at hSw); go_simp; (try with_reducible rfl)))); (try simp only [Act.put, List.setIfInBounds_toArray, List.set_cons_zero, List.set_cons_succ])
        (refine wpAnyH_take (i := 3) (oi := ⟨_, _, _, _, _, _⟩) (v := ?_) rfl (by kernel_rfl) (by kernel_rfl) (by kernel_rfl) (fun _ _ _ h => h) (Or.inl ⟨by rfl, ?_⟩) (by assumption) ?_; rotate_left; focus ((intro w' hSw; (try dsimp only at hSw); go_simp; (try with_reducible rfl)))); (try simp only [Act.put, List.setIfInBounds_toArray, List.set_cons_zero, List.set_cons_succ])
        (refine wpAnyH_take (i := 4) (oi := ⟨_, _, _, _, _, _⟩) (v := ?_) rfl (by kernel_rfl) (by kernel_rfl) (by kernel_rfl) (fun _ _ _ h => h) (Or.inl ⟨by rfl, ?_⟩) (by assumption) ?_; rotate_left; focus ((intro w' hSw; (try dsimp only at hSw); go_simp; (try with_reducible rfl)))); (try simp only [Act.put, List.setIfInBounds_toArray, List.set_cons_zero, List.set_cons_succ])
        (refine wpAnyH_take (i := 5) (oi := ⟨_, _, _, _, _, _⟩) (v := ?_) rfl (by kernel_rfl) (by kernel_rfl) (by kernel_rfl) (fun _ _ _ h => h) (Or.inl ⟨by rfl, ?_⟩) (by assumption) ?_; rotate_left; focus ((intro w' hSw; (try dsimp only at hSw); go_simp; (try with_reducible rfl)))); (try simp only [Act.put, List.setIfInBounds_toArray, List.set_cons_zero, List.set_cons_succ])
        (refine wpAnyH_take (i := 6) (oi := ⟨_, _, _, _, _, _⟩) (v := ?_) rfl (by kernel_rfl) (by kernel_rfl) (by kernel_rfl) (fun _ _ _ h => h) (Or.inl ⟨by rfl, ?_⟩) (by assumption) ?_; rotate_left; focus ((intro w' hSw; (try dsimp only at hSw); go_simp; (try with_reducible rfl)))); (try simp only [Act.put, List.setIfInBounds_toArray, List.set_cons_zero, List.set_cons_succ])
        (refine wpAnyH_take (i := 7) (oi := ⟨_, _, _, _, _, _⟩) (v := ?_) rfl (by kernel_rfl) (by kernel_rfl) (by kernel_rfl) (fun _ _ _ h => h) (Or.inl ⟨by rfl, ?_⟩) (by assumption) ?_; rotate_left; focus ((intro w' hSw; (try dsimp only at hSw); go_simp; (try with_reducible rfl)))); (try simp only [Act.put, List.setIfInBounds_toArray, List.set_cons_zero, List.set_cons_succ])
        refine wpAnyH_done (by kernel_rfl) ?_ _
        have HB3 : Hid (Below w.heap.size w w2.drew) := Lib.hid HBW.out.drew
        have HR3 := Lib.hid (HRX2.out.kept (Below.refl w2.heap.size w2).drew)
        clear HROW HRX2 HBW e0 e1 e2 e3
        try clear hHeld
        go_wp2
        go_roundw
        case rel =>
          have hn1 := HNP.out.1
          have hn2 := HNP.out.2
          exact ⟨⟨xv, xs⟩ :: p', q', acc, _, _, np, q'.length, kk, b0, b1 - 1, gg, cc, rfl, rfl, rfl, hnb0, hb0, by omega, by omega, by omega, Lib.hid ⟨HN.out.1, rfl, HN.out.2.2⟩, HP, HQ2, HM0, Lib.hid (fun h => by cases h), HR3, HJ2, HB3⟩
        case measure =>
          have hn1 := HNP.out.1
          have hn2 := HNP.out.2
          simp [sliceLenM]
          omega
      · have l1 : decide (c < 0) = false := decide_eq_false (by omega)
        have l2 : decide (0 < c) = true := decide_eq_true hc
        have HJ2 : Hid ((jn ordM (⟨xv, xs⟩ :: p') q').map ((acc ++ [⟨yv, ys⟩]) ++ ·) = R) := Lib.hid (jn_onM (by rw [← jn_more (ordM_pos (by rw [HCV.out]; exact hc)).1 (ordM_pos (by rw [HCV.out]; exact hc)).2]; exact HJ.out))
        clear HCV HJ hc hsl0
        go_upto_region 8 with (fail)
        go_region_law (first
          | (refine step_append_lies _ (by rfl) _ _ _ (by rfl) w.heap.size 49 i0 _ 2 24 Try.underlying86 HII.out.1 HII.out.2.1 HII.out.2.2.1 HII.out.2.2.2 rfl (by omega) (.slice (some ⟨gg, 0, none⟩) kk cc) kk (cellsE mkE L) (by rfl) (HROW.out.drew.alloc _) ⟨w2.heap.size, 0, none⟩ 1 1 (mkE.cells ⟨yv, ys⟩ (.slice none 0 0)) (by rfl) (by rfl) (World.news_of_block (heap_alloc_new w2.drew _)) (by simp [mkE, Value.oneCell']) (by omega) (by unfold maxLen; omega) (by omega) (by simp; omega) (w2.heap.size + 1) (by simp) ?_; intro gg2 cc2 w3 hown1 hgrow hat hlt1; have HAP := Lib.hid (And.intro hown1 hgrow); clear hown1 hgrow hat hlt1))
        all_goals
          (try simp only [List.getElem_toArray, List.getElem_cons_succ, List.getElem_cons_zero, Act.put, List.setIfInBounds_toArray, List.set_cons_zero, List.set_cons_succ])
          have HB3 : Hid (Below w.heap.size w w3) := Lib.hid ((HBW.out.drew.alloc (by simp; omega) (.cells #[.int .i64 yv, .string ys] 49)).trans (below_of_grown HAP.out.2 (by simp; omega) HNE.out))
          have HR3 : Hid (RowX mkE 49 w3 w.heap.size (.slice (some ⟨gg2, 0, none⟩) (kk + 1) cc2) (acc ++ [⟨yv, ys⟩])) := Lib.hid (rowX_one (x := ⟨yv, ys⟩) mkFlat HLL.out.1 HLL.out.2 HAP.out.1)
          clear HAP HROW HRX2 HBW e0 e1 e2 e3
          go_wp2
          go_roundw
          case rel =>
            have hn1 := HNP.out.1
            have hn2 := HNP.out.2
            exact ⟨⟨xv, xs⟩ :: p', q', acc ++ [⟨yv, ys⟩], _, _, np, q'.length, kk + 1, b0, b1 - 1, gg2, cc2, rfl, rfl, rfl, hnb0, hb0, by omega, by omega, by omega, Lib.hid ⟨HN.out.1, rfl, by rw [List.length_append, ← HN.out.2.2]; rfl⟩, HP, HQ2, HM0, Lib.hid (fun h => by cases h), HR3, HJ2, HB3⟩
          case measure =>
            have hn1 := HNP.out.1
            have hn2 := HNP.out.2
            simp [sliceLenM]
            omega
end Go.Proofs.Ytnmdnajbafpfiaa

