/-
  The law of canonical forms (FnCanonical), walked over the program's contracts. (Written by wip/tools/gen_walkfncanonical.py.)
-/
import Derived.Test.YtdgkhimledcfbaaDrawG
import Derived.Test.YtdgkhimledcfbaaAlike
import Derived.Test.YtdgkhimledcfbaaImplReify
import Derived.Test.YtdgkhimledcfbaaImplShift
import Derived.Test.YtdgkhimledcfbaaImplVar
import Derived.Test.YtdgkhimledcfbaaNameLaw
import Derived.Test.YtdgkhimledcfbaaListD
import Derived.Test.YtdgkhimledcfbaaVars
namespace Go.Proofs.Ytdgkhimledcfbaa
open Go.RowKit
set_option linter.unusedVariables false
set_option linter.unusedSimpArgs false

theorem subst_wf {u : List Bd} (h : SubstP u) : ∀ b ∈ u, wfI b.v := fun b hb => by
  have := h.var hb
  exact wfI_of (by omega) (by omega)
theorem args_row {w : World} {g off : Nat} {t : Tm} {V : Value} (hs : g < w.heap.size) (h0 : w.cell? ⟨g, off, none⟩ = some (.int .i64 t.kind)) (h1 : w.cell? ⟨g, off + 1, none⟩ = some (.int .i64 t.num)) (h2 : w.cell? ⟨g, off + 2, none⟩ = some (.string t.name)) (h3 : w.cell? ⟨g, off + 3, none⟩ = some V) (hV : ArgsAt w V t.args) (cap : Nat) : ArgsAt w (.slice (some ⟨g, off, none⟩) 1 cap) [t] := by
  refine .row g off 1 cap (fun _ => V) [t] rfl hs (fun j x hx i u hi => ?_) (fun j x hx => ?_)
  · match j, hx with
    | 0, hx =>
      simp at hx
      subst hx
      match i, hi with
      | 0, hi => simp [cells4] at hi; subst hi; simpa using h0
      | 1, hi => simp [cells4] at hi; subst hi; simpa using h1
      | 2, hi => simp [cells4] at hi; subst hi; simpa using h2
      | 3, hi => simp [cells4] at hi; subst hi; simpa using h3
      | i + 4, hi => simp [cells4] at hi
  · match j, hx with
    | 0, hx =>
      simp at hx
      subst hx
      exact hV
/-- The first of a list's terms, as a list of its own. -/
theorem args_head {w : World} {a : Option Addr} {n cap : Nat} {x : Tm} {l : List Tm} (h : ArgsAt w (.slice a n cap) (x :: l)) : ArgsAt w (.slice a 1 cap) [x] := by
  obtain ⟨g, off, u1, u2, rfl, hg, _, hc, hx⟩ := h.elem (k := 0) (x := x) rfl
  obtain ⟨c0, c1, c2, c3⟩ := hc w (Below.refl _ _)
  exact args_row hg (by simpa using c0) (by simpa using c1) (by simpa using c2) (by simpa using c3) hx cap
theorem args_two {w : World} {g : Nat} {e : TypeId} {x y : Tm} {Vx Vy : Value} (h : w.heap[g]? = some (.cells #[.int .i64 x.kind, .int .i64 x.num, .string x.name, Vx, .int .i64 y.kind, .int .i64 y.num, .string y.name, Vy] e))
    (hx : ArgsAt w Vx x.args) (hy : ArgsAt w Vy y.args) : ArgsAt w (.slice (some ⟨g, 0, none⟩) 2 2) [x, y] := by
  have hs : g < w.heap.size := (Array.getElem?_eq_some_iff.1 h).1
  have a0 : w.cell? ⟨g, 0, none⟩ = some (.int .i64 x.kind) := cell_of_row w g 0 _ _ _ h
  have a1 : w.cell? ⟨g, 1, none⟩ = some (.int .i64 x.num) := cell_of_row w g 1 _ _ _ h
  have a2 : w.cell? ⟨g, 2, none⟩ = some (.string x.name) := cell_of_row w g 2 _ _ _ h
  have a3 : w.cell? ⟨g, 3, none⟩ = some Vx := cell_of_row w g 3 _ _ _ h
  have b0 : w.cell? ⟨g, 4, none⟩ = some (.int .i64 y.kind) := cell_of_row w g 4 _ _ _ h
  have b1 : w.cell? ⟨g, 5, none⟩ = some (.int .i64 y.num) := cell_of_row w g 5 _ _ _ h
  have b2 : w.cell? ⟨g, 6, none⟩ = some (.string y.name) := cell_of_row w g 6 _ _ _ h
  have b3 : w.cell? ⟨g, 7, none⟩ = some Vy := cell_of_row w g 7 _ _ _ h
  clear h
  refine .row g 0 2 2 (fun j => if j = 0 then Vx else Vy) [x, y] rfl hs (fun j t ht i u hi => ?_) (fun j t ht => ?_)
  · match j, ht with
    | 0, ht =>
      simp at ht
      subst ht
      match i, hi with
      | 0, hi => simp [cells4] at hi; subst hi; simpa using a0
      | 1, hi => simp [cells4] at hi; subst hi; simpa using a1
      | 2, hi => simp [cells4] at hi; subst hi; simpa using a2
      | 3, hi => simp [cells4] at hi; subst hi; simpa using a3
      | i + 4, hi => simp [cells4] at hi
    | 1, ht =>
      simp at ht
      subst ht
      match i, hi with
      | 0, hi => simp [cells4] at hi; subst hi; simpa using b0
      | 1, hi => simp [cells4] at hi; subst hi; simpa using b1
      | 2, hi => simp [cells4] at hi; subst hi; simpa using b2
      | 3, hi => simp [cells4] at hi; subst hi; simpa using b3
      | i + 4, hi => simp [cells4] at hi
    | j + 2, ht => simp at ht
  · match j, ht with
    | 0, ht => simp at ht; subst ht; exact hx
    | 1, ht => simp at ht; subst ht; exact hy
    | j + 2, ht => simp at ht

/-! ### What the law says, plain -/
theorem vars_len {p : Tm} (hp : Ok p) : (varsOf p).length = (ordT p).length := by
  have e : varsOf p = p.vl.foldl insAsc [] := by rw [varsOf, if_pos hp, ins_is_compact]; rfl
  obtain ⟨h1, h2⟩ := insL_spec p.vl [] List.Pairwise.nil
  rw [← e] at h1 h2
  have hn1 : (varsOf p).Nodup := by rw [List.nodup_iff_pairwise_ne]; exact h1.imp fun h => by omega
  have hn2 : (ordT p).Nodup := ordL_nodup _ _ List.nodup_nil
  have a := nodup_len hn2 (m := varsOf p) fun x hx => (h2 x).2 (.inr (ordT_mem.1 hx))
  have b := nodup_len hn1 (m := ordT p) fun x hx => ordT_mem.2 (((h2 x).1 hx).elim (fun h => by cases h) id)
  omega
theorem var_can {a b : Tm} (ha : Good a) (hb : Good b) : varB a b = listB [canF a] [canF b] := by
  unfold varB
  by_cases h : canF a = canF b
  · rw [h, listB_self, (matB_iff ha).2 (var_of_can ha hb h), (matB_iff hb).2 (var_of_can hb ha h.symm)]; rfl
  · rw [listB_ne (fun e => h (List.cons.inj e).1)]
    cases h1 : matB (fun _ => none) a b with
    | false => rfl
    | true =>
      cases h2 : matB (fun _ => none) b a with
      | false => rfl
      | true => exact absurd (can_of_var ha hb ((matB_iff ha).1 h1) ((matB_iff hb).1 h2)) h
def twoB (m : Int) : List Bd := [⟨0, varTm m⟩, ⟨1, varTm 0⟩]
theorem put_two {p : Tm} {m : Int} (hp : Good p) (h0 : 0 ≤ m) (h1 : m ≤ 3) : Good (putT (twoB m) p) ∧ (putT (twoB m) p).nodes = p.nodes := by
  have e : putT (twoB m) p = renT (fun v => if v = 0 then m else if v = 1 then 0 else v) p := by
    rw [put_ev hp]
    refine ev_congr hp fun v hv => ?_
    by_cases a : v = 0
    · subst a
      exact (sgm_bound (t := varTm m) (by simp [twoB, getO])).trans (by simp)
    · by_cases b : v = 1
      · subst b
        exact (sgm_bound (t := varTm 0) (by simp [twoB, getO])).trans (by simp)
      · exact (sgm_free (by simp [twoB, getO, Ne.symm a, Ne.symm b])).trans (by simp [a, b])
  rw [e]
  refine ⟨ren_good hp fun v hv => ?_, ren_nodes hp⟩
  have := good_vrange hp v hv
  show 0 ≤ (if v = 0 then m else if v = 1 then 0 else v) ∧ (if v = 0 then m else if v = 1 then 0 else v) ≤ 100000
  split
  · omega
  · split <;> omega
theorem reify_two {u : List Bd} {p : Tm} (hu : SubD 4 8 4 11 u) (hp : Ok p) (hv : ∀ v ∈ p.vl, v < 3) : reB u [p, shT p 77] = true ∧ ∃ y, reL u [p, shT p 77] = [canF p, y] ∧ Ok y := by
  obtain ⟨h1, h2, h3, h4, h5⟩ := shift_facts hp hv
  rw [h2]
  refine reify_same (hu.subst (by decide) (by decide) (by decide) (by decide) (by decide)) hp h3 fun v hm => getO_none.2 fun b hb e => ?_
  have hb := hu.1 b hb
  rcases List.mem_append.1 hm with hm | hm
  · have := hv v hm; omega
  · have := h4 v hm; omega
/-- What the law asks of a term and its shift. -/
theorem shift_two {p : Tm} (hp : Ok p) (hn : p.nodes ≤ 7) (hv : ∀ v ∈ p.vl, v < 3) : ∃ s, shT p 77 = s ∧ shB p 77 = true ∧ (Ok s ∧ s.nodes ≤ 7) ∧ varB s p = true := by
  obtain ⟨h1, h2, h3, h4, h5⟩ := shift_facts hp hv
  refine ⟨_, h2, h1, ⟨h3, by rw [ren_nodes hp.2]; exact hn⟩, ?_⟩
  rw [var_can h3.2 hp.2, h5]
  exact listB_self _

/-- The row of the two bindings. -/
theorem two_list {w : World} {g : Nat} {e : TypeId} {m : Int} (h : w.heap[g]? = some (.cells #[.int .i64 0, .int .i64 1, .int .i64 m, .string ⟨#[]⟩, .slice none 0 0, .int .i64 1, .int .i64 1, .int .i64 0, .string ⟨#[]⟩, .slice none 0 0] e)) : ListS bdE w Any (.slice (some ⟨g, 0, none⟩) 2 2) (twoB m) := by
  have hs : g < w.heap.size := (Array.getElem?_eq_some_iff.1 h).1
  refine .row g 0 2 2 [(⟨0, varTm m⟩, .slice none 0 0), (⟨1, varTm 0⟩, .slice none 0 0)] (twoB m) rfl rfl trivial hs (fun i v hi => ?_) (fun j q hq => ?_)
  · have hc : cellsE bdE [(⟨0, varTm m⟩, .slice none 0 0), (⟨1, varTm 0⟩, .slice none 0 0)] = [.int .i64 0, .int .i64 1, .int .i64 m, .string ⟨#[]⟩, .slice none 0 0, .int .i64 1, .int .i64 1, .int .i64 0, .string ⟨#[]⟩, .slice none 0 0] := rfl
    rw [hc] at hi
    rw [Nat.zero_add]
    match i, hi with
    | 0, hi => simp at hi; subst hi; exact cell_of_row w g 0 _ _ _ h
    | 1, hi => simp at hi; subst hi; exact cell_of_row w g 1 _ _ _ h
    | 2, hi => simp at hi; subst hi; exact cell_of_row w g 2 _ _ _ h
    | 3, hi => simp at hi; subst hi; exact cell_of_row w g 3 _ _ _ h
    | 4, hi => simp at hi; subst hi; exact cell_of_row w g 4 _ _ _ h
    | 5, hi => simp at hi; subst hi; exact cell_of_row w g 5 _ _ _ h
    | 6, hi => simp at hi; subst hi; exact cell_of_row w g 6 _ _ _ h
    | 7, hi => simp at hi; subst hi; exact cell_of_row w g 7 _ _ _ h
    | 8, hi => simp at hi; subst hi; exact cell_of_row w g 8 _ _ _ h
    | 9, hi => simp at hi; subst hi; exact cell_of_row w g 9 _ _ _ h
    | i + 10, hi => simp at hi
  · match j, hq with
    | 0, hq => simp at hq; subst hq; exact .nil none 0
    | 1, hq => simp at hq; subst hq; exact .nil none 0
    | j + 2, hq => simp at hq

theorem own_two {w : World} {e : TypeId} {S : Nat → Prop} {v : Value} {x y : Tm} (h : Own w e S v [x, y]) : ∃ g c, v = .slice (some ⟨g, 0, none⟩) 2 c ∧ 2 ≤ c ∧ c ≤ maxLen := by
  generalize hl0 : [x, y] = l0 at h
  cases h with
  | nil S => cases hl0
  | row S g n cap L C l hl hn hg hown hr hC hd =>
    have h2 : n = 2 := by rw [hn, ← List.length_map (f := Prod.fst), ← hl, ← hl0]; rfl
    subst h2
    rcases hown.2 with ⟨h, _⟩ | ⟨g', cap', cur, he, h1, h2, h3, h4, h5, h6⟩
    · cases h
    · cases he; exact ⟨_, _, rfl, h3, h4⟩
/-- A struct of the call's own, filled with an answer that doesn't reach it. -/
theorem struct2_put {W0 wS : World} {r : Tm} {c : Bool} {C : Nat → Prop} {B : Nat} {a : Option Addr} {k : Nat} {x0 x1 x2 x3 : Value} (hx : wS.heap[B]? = some (Obj.cells #[x0, x1, x2, x3] 25) ∧ W0.heap.size ≤ B) (hl : ¬ C B)
    (hu : ArgsS wS C (.slice a r.args.length k) r.args) (hb : Below W0.heap.size W0 wS) :
    Struct2 W0 r c (.pointer (some ⟨B, 0, none⟩)) (.bool c) ((((wS.setCell ⟨B, 0, none⟩ (.int .i64 r.kind)).setCell ⟨B, 1, none⟩ (.int .i64 r.num)).setCell ⟨B, 2, none⟩ (.string r.name)).setCell ⟨B, 3, none⟩ (.slice a r.args.length k)) := by
  have h0 := heap_setCell_same wS B 0 _ 25 (.int .i64 r.kind) hx.1
  have h1 := heap_setCell_same _ B 1 _ 25 (.int .i64 r.num) h0
  have h2 := heap_setCell_same _ B 2 _ 25 (.string r.name) h1
  have h3 := heap_setCell_same _ B 3 _ 25 (.slice a r.args.length k) h2
  have one : ∀ (W : World) (j : Nat) (u : Value), Only (fun k => k = B) W (W.setCell ⟨B, j, none⟩ u) := fun W j u => ⟨rfl, rfl, rfl, by simp, fun k _ hk => Below.heap_setCell _ _ _ _ hk⟩
  have ho := (((one wS 0 (.int .i64 r.kind)).trans (one _ 1 (.int .i64 r.num))).trans (one _ 2 (.string r.name))).trans (one _ 3 (.slice a r.args.length k))
  exact ⟨B, a, k, rfl, rfl, h3, hx.2, (hu.frame ho.size fun j hj hjs => ho.block j hjs (fun e => hl (e ▸ hj))).at, hb.trans (ho.below (fun j hj => by have := hx.2; omega) hb.size)⟩
/-- The canonical form of one term. -/
theorem canOne_any (t : Tm) (V : Value) (w : World) (hA : ArgsAt w V [t]) (ht : Ok t) (hn : t.nodes ≤ 49) :
    Calls Try.prog 18 #[V] w fun e w' => ∃ (xa : Option Addr) (xc : Nat), e = .returned (.slice xa 1 xc) ∧ ArgsAt w' (.slice xa 1 xc) [canF t] ∧ Below w.heap.size w w' := by
  have hc := implCanonical_any [t] V w hA (by simp only [szL]; have := good_sz ht.2; omega)
  rw [cn_one ht] at hc
  refine hc.mono ?_
  rintro e w' ⟨u, rfl, hu, hb⟩
  obtain ⟨xa, xc, rfl⟩ := hu.argsAt.slice
  exact ⟨xa, xc, rfl, hu.argsAt, hb⟩
theorem listOne_any (x y : Tm) (V1 V2 : Value) (w : World) (h1 : ArgsAt w V1 [x]) (h2 : ArgsAt w V2 [y]) (hx : Ok x) (hy : Ok y) (c : Bool) (hc : listB [x] [y] = c) :
    Calls Try.prog 17 #[V1, V2] w fun e w' => e = .returned (.bool c) ∧ Below w.heap.size w w' := by
  subst hc
  exact listD_any [x] [y] V1 V2 w h1 h2 (fun u hu => by rw [List.mem_singleton.1 hu]; exact hx.2) (fun u hu => by rw [List.mem_singleton.1 hu]; exact hy.2) (eachT_one (by have := good_sz hx.2; have := hx.1; omega)) (eachT_one (by have := good_sz hy.2; have := hy.1; omega))

theorem ordOne_any (t : Tm) (V : Value) (w : World) (hA : ArgsAt w V [t]) (ht : Ok t) (hn : t.nodes ≤ 49) :
    Calls Try.prog 25 #[V] w fun e w' => ∃ (oa : Option Addr) (oc : Nat), e = .returned (.slice oa (ordT t).length oc) ∧ Below w.heap.size w w' := by
  have hc := implOrderedVars_any [t] V w hA (by simp only [szL]; have := good_sz ht.2; omega)
  rw [ov_yes (by simp [okB_true.2 ht]), ordOf_one] at hc
  refine hc.mono ?_
  rintro e w' ⟨u, rfl, hu, hb⟩
  obtain ⟨oa, oc, rfl⟩ := hu.slice
  exact ⟨oa, oc, rfl, hb⟩
theorem varsOne_any (t : Tm) (V : Value) (w : World) (hA : ArgsAt w V t.args) (ht : Ok t) :
    Calls Try.prog 27 #[.agg #[.int .i64 t.kind, .int .i64 t.num, .string t.name, V]] w fun e w' => ∃ (oa : Option Addr) (oc : Nat), e = .returned (.slice oa (ordT t).length oc) ∧ Below w.heap.size w w' := by
  refine (implTermVars_any t V w hA (by have := good_sz ht.2; have := ht.1; omega)).mono ?_
  rintro e w' ⟨u, rfl, hu, hb⟩
  obtain ⟨oa, oc, rfl⟩ := hu.slice
  rw [vars_len ht]
  exact ⟨oa, oc, rfl, hb⟩
theorem boundOne_any (t : Tm) (V : Value) (w : World) (hA : ArgsAt w V [canF t]) (ht : Ok t) (hn : (canF t).nodes ≤ 49) :
    Calls Try.prog 26 #[V] w fun e w' => e = .returned (.int .i64 ((ordT t).length : Int)) ∧ Below w.heap.size w w' := by
  have hc := implVarBound_any [canF t] V w hA (by simp only [szL]; have := good_sz (canF_ok ht).2; omega)
  rwa [canF_bound ht] at hc

set_option maxRecDepth 100000 in
set_option maxHeartbeats 32000000 in
theorem walkFnCanonical (w : World) (a : Option Addr) (len cap : Nat) (zs : List Int) (hrow : ByteRow w a len cap zs) :
    Calls Try.prog 4 #[.slice a len cap] w fun e w' => e = .returned (.bool true) ∧ Below w.heap.size w w' := by
  obtain ⟨hby, hmx⟩ := hrow.bytes
  clear hrow
  unfold maxLen at hmx
  have HY := Lib.hid hby
  clear hby
  by_cases h : 1048576 < (len : Int)
  · go_enter Try.func4, Try.ntmps4
    go_wp2
    go_ret
    exact ⟨rfl, Below.refl _ _⟩
  have hl : len ≤ 1048576 := by omega
  go_enter Try.func4, Try.ntmps4
  go_wp2_with fail
  refine (makeTermB_any half_small a len cap 0 6 3 _ HY.out hl (by decide) (by decide) (by decide) (by decide) (by decide) (closed_gv (by decide))).mono ?_
  rintro e w1 ⟨p, pa, pc, rfl, hp, hgp, hnp, hb⟩
  clear h hmx
  have HW := Lib.hid hb
  replace HY := Lib.hid (HY.out.kept hb)
  have HAp := Lib.hid hp
  have HPS : Hid (Good p ∧ (∀ v ∈ p.vl, v < ((3 : Nat) : Int)) ∧ p.nodes ≤ 7) := Lib.hid ⟨hgp.1, hgp.2, by have h3 : (p.nodes : Int) ≤ 7 := hnp; omega⟩
  clear hb hp hgp hnp
  go_upto_region 4 with (fail)
  have hal : Below w1.heap.size w1 (w1.alloc (.cells #[.int .i64 p.kind, .int .i64 p.num, .string p.name, .slice pa p.args.length pc] 25)) := belowAlloc (Below.refl _ _) _
  replace HY := Lib.hid (HY.out.kept hal)
  replace HAp := Lib.hid (HAp.out.kept hal)
  replace HW := Lib.hid (belowOn HW.out (Nat.le_refl _) hal)
  have HXp := Lib.hid (at_box_of w1 #[.int .i64 p.kind, .int .i64 p.num, .string p.name, .slice pa p.args.length pc] 25 w1.heap.size rfl)
  clear hal
  generalize hwx : w1.alloc (.cells #[.int .i64 p.kind, .int .i64 p.num, .string p.name, .slice pa p.args.length pc] 25) = w2 at HY HAp HXp HW ⊢
  clear hwx
  generalize w1.heap.size = np at HXp ⊢
  have hzp : p.sz ≤ 1048576 := by have h1 := good_sz HPS.out.1; have h2 := HPS.out.2.2; omega
  have HOP : Hid (Ok p) := Lib.hid ⟨by have := HPS.out.2.2; omega, HPS.out.1⟩
  obtain ⟨kp0, kp1, kp2, kp3⟩ := HXp.out.cells
  have zp := HXp.out.le
  go_wp2_with fail
  refine (makeAlike_any a len cap 20 p _ 3 _ HY.out hl (by decide) (by decide) (by decide) HPS.out.1 HAp.out).mono ?_
  rintro e w3 ⟨q0, za, zc, rfl, hq, hgq, hnq, hb⟩
  clear kp0 kp1 kp2 kp3 zp
  replace HY := Lib.hid (HY.out.kept hb)
  replace HAp := Lib.hid (HAp.out.kept hb)
  replace HXp := Lib.hid (HXp.out.read hb)
  replace HW := Lib.hid (belowOn HW.out (Nat.le_refl _) hb)
  have HAz := Lib.hid hq
  have HZS : Hid (Good q0 ∧ q0.nodes ≤ 49) := Lib.hid ⟨hgq, by have := HPS.out.2.2; omega⟩
  clear hb hq hgq hnq
  go_upto_region 5 with (fail)
  have hal : Below w3.heap.size w3 (w3.alloc (.cells #[.int .i64 q0.kind, .int .i64 q0.num, .string q0.name, .slice za q0.args.length zc] 25)) := belowAlloc (Below.refl _ _) _
  have HB3 := Lib.hid hal
  have HXz := Lib.hid (heap_new w3 (.cells #[.int .i64 q0.kind, .int .i64 q0.num, .string q0.name, .slice za q0.args.length zc] 25))
  have HSZ : Hid ((w3.alloc (.cells #[.int .i64 q0.kind, .int .i64 q0.num, .string q0.name, .slice za q0.args.length zc] 25)).heap.size = w3.heap.size + 1) := Lib.hid (by simp)
  clear hal
  generalize hwx : w3.alloc (.cells #[.int .i64 q0.kind, .int .i64 q0.num, .string q0.name, .slice za q0.args.length zc] 25) = w4 at HB3 HXz HSZ ⊢
  clear hwx
  go_wp2_with fail
  refine (makeNum_any a len cap 40 _ (HY.out.kept HB3.out) hl (by decide)).mono ?_
  rintro e w5 ⟨⟨r, rfl, hr0, hr1⟩, hb⟩
  have HB5 := Lib.hid (belowOn HB3.out (Nat.le_refl _) hb)
  have HX5 := Lib.hid ((hb.block w3.heap.size (by have := HSZ.out; omega)).trans HXz.out)
  have HS5 : Hid (w3.heap.size < w5.heap.size) := Lib.hid (by have := hb.size; have := HSZ.out; omega)
  clear hb HXz HB3 HSZ
  go_upto_if 23 with (fail)
  generalize (r % 2 == 0) = par
  go_cut [4] from 24 to 32 (fun pb wx => ∃ q, (Good q ∧ q.nodes ≤ 49) ∧ Struct2 w3 q true pb (.bool true) wx)
  case first =>
    cases par with
    | false =>
      go_wp2_with fail
      go_meet
      exact ⟨q0, HZS.out, w3.heap.size, za, zc, rfl, rfl, HX5.out, Nat.le_refl _, HAz.out.kept HB5.out, HB5.out⟩
    | true =>
      go_upto_region 6 with (fail)
      have hself : Below w5.heap.size w5 w5 := Below.refl _ _
      have HTR : Hid (∀ a b, Below w5.heap.size w5 a → Below a.heap.size a b → Below w5.heap.size w5 b) := Lib.hid fun a b h1 h2 => belowOn h1 (Nat.le_refl _) h2
      have HCB : Hid (∀ W, Below w5.heap.size w5 W → (W.cell? ⟨np, 0, none⟩ = some (.int .i64 p.kind) ∧ W.cell? ⟨np, 1, none⟩ = some (.int .i64 p.num) ∧ W.cell? ⟨np, 2, none⟩ = some (.string p.name) ∧ W.cell? ⟨np, 3, none⟩ = some (.slice pa p.args.length pc)) ∧ np < w3.heap.size) := Lib.hid fun W hW => ⟨(HXp.out.read (belowOn HB5.out (Nat.le_refl _) hW)).cells, HXp.out.le⟩
      have HHB : Hid (∀ W, Below w5.heap.size w5 W → W.heap[w3.heap.size]? = some (.cells #[.int .i64 q0.kind, .int .i64 q0.num, .string q0.name, .slice za q0.args.length zc] 25)) := Lib.hid fun W hW => (hW.block _ HS5.out).trans HX5.out
      have HMS : Hid (∀ W, Below w5.heap.size w5 W → Calls Try.prog 21 #[.slice a len cap, .int .i64 42, .int .i64 0, .int .i64 3] W fun e w' => (∃ r : Int, e = .returned (.int .i64 r) ∧ 0 ≤ r ∧ r ≤ 3) ∧ Below W.heap.size W w') := Lib.hid fun W hW => makeSize_any a len cap 42 0 3 W (HY.out.kept (belowOn HB5.out (Nat.le_refl _) hW)) hl (by decide) (by decide) (by decide) (by decide)
      have HMV : Hid (∀ W (m : Int) (V : Value), Below w5.heap.size w5 W → 0 ≤ m → m ≤ 3 → ListS bdE W Any V (twoB m) → Calls Try.prog 11 #[.agg #[.int .i64 p.kind, .int .i64 p.num, .string p.name, .slice pa p.args.length pc], V] W fun e w' => ∃ (t : Tm) (x : Option Addr) (c : Nat), e = .returned (.agg #[.int .i64 t.kind, .int .i64 t.num, .string t.name, .slice x t.args.length c]) ∧ (Good t ∧ t.nodes ≤ 49) ∧ ArgsS w' (fun k => w5.heap.size ≤ k) (.slice x t.args.length c) t.args ∧ Below W.heap.size W w') := Lib.hid fun W m V hW h0 h1 hL => by
        have hput := put_two HPS.out.1 h0 h1
        have h2 := HPS.out.2.2
        have h3 := good_sz hput.1
        refine (makeValue_any (twoB m) p V _ W (show 2 ≤ 1048576 by decide) hL (HAp.out.kept (belowOn HB5.out (Nat.le_refl _) hW)) hzp HPS.out.1 (by omega)).mono ?_
        rintro e w' ⟨x, c, he, hA, hB⟩
        exact ⟨putT (twoB m) p, x, c, he, ⟨hput.1, by omega⟩, hA.sub (fun k hk => Nat.le_trans hW.size hk), hB⟩
      obtain ⟨⟨k0, k1, k2, k3⟩, zn⟩ := HCB.out w5 hself
      have n1 : ¬ np = w3.heap.size := by omega
      have n2 : ¬ w3.heap.size = np := by omega
      have hq9 := box_cells (HHB.out w5 hself)
      obtain ⟨q0', q1', q2', q3', qf'⟩ := hq9
      have HBW := HB5
      have HSW := HS5
      clear HW HY HAp HXp HAz HZS HX5 HB5 HS5
      go_region_held3 (fun w' => w'.cell? ⟨np, 0, none⟩ = some (.int .i64 p.kind) ∧ w'.cell? ⟨np, 1, none⟩ = some (.int .i64 p.num) ∧ w'.cell? ⟨np, 2, none⟩ = some (.string p.name) ∧ w'.cell? ⟨np, 3, none⟩ = some (.slice pa p.args.length pc)) (go_keep)
        (first
        | (go_at_call 21; (with_reducible refine Calls.mono (HMS.out _ ?_) ?_); (first | assumption | exact Below.drew (by assumption) | exact belowAlloc (by assumption) _ | exact (belowAlloc (by assumption) _).drew | exact belowAlloc (belowAlloc (by assumption) _) _ | exact (belowAlloc (belowAlloc (by assumption) _) _).drew); rintro e wA ⟨⟨m, rfl, hm0, hm1⟩, hb1⟩; have hB1 := HTR.out _ _ (by (first | assumption | exact Below.drew (by assumption) | exact belowAlloc (by assumption) _ | exact (belowAlloc (by assumption) _).drew | exact belowAlloc (belowAlloc (by assumption) _) _ | exact (belowAlloc (belowAlloc (by assumption) _) _).drew)) hb1; clear k0 k1 k2 k3 q0' q1' q2' q3' qf' hb1; obtain ⟨⟨k0, k1, k2, k3⟩, _⟩ := HCB.out _ hB1; (have hq9 := box_cells (HHB.out _ hB1); obtain ⟨q0', q1', q2', q3', qf'⟩ := hq9))
        | (go_at_call 11; (with_reducible refine Calls.mono (HMV.out _ m _ ?_ hm0 hm1 ?_) ?_); (first | assumption | exact Below.drew (by assumption) | exact belowAlloc (by assumption) _ | exact (belowAlloc (by assumption) _).drew | exact belowAlloc (belowAlloc (by assumption) _) _ | exact (belowAlloc (belowAlloc (by assumption) _) _).drew); (exact two_list (heap_new _ _)); rintro e wB ⟨q, qa, qc, rfl, hqg, hqA, hb2⟩; have HQG := Lib.hid hqg; have HQA := Lib.hid hqA; have hB2 := HTR.out _ _ (by (first | assumption | exact Below.drew (by assumption) | exact belowAlloc (by assumption) _ | exact (belowAlloc (by assumption) _).drew | exact belowAlloc (belowAlloc (by assumption) _) _ | exact (belowAlloc (belowAlloc (by assumption) _) _).drew)) hb2; clear k0 k1 k2 k3 q0' q1' q2' q3' qf' hqg hqA hb2; obtain ⟨⟨k0, k1, k2, k3⟩, _⟩ := HCB.out _ hB2; (have hq9 := box_cells (HHB.out _ hB2); obtain ⟨q0', q1', q2', q3', qf'⟩ := hq9)))
      all_goals (go_wp2_with fail; go_meet; first | exact ⟨q, HQG.out, struct2_put ⟨HHB.out _ hB2, Nat.le_refl _⟩ (Nat.not_le.2 HSW.out) HQA.out (belowOn HBW.out (Nat.le_refl _) hB2)⟩ | trace_state)
  case rest =>
    obtain ⟨q, hqg, nq, qa, qc, rfl, hc1, hbx, hlo, hu, hb⟩ := hcut
    obtain ⟨w6, rfl⟩ : ∃ x : World, x = wc := ⟨_, rfl⟩
    have HOQ : Hid (Ok q ∧ q.nodes ≤ 49) := Lib.hid ⟨⟨by have := hqg.2; omega, hqg.1⟩, hqg.2⟩
    have HAq := Lib.hid hu
    have HXq := Lib.hid (at_box_in hbx)
    replace HY := Lib.hid (HY.out.kept hb)
    replace HAp := Lib.hid (HAp.out.kept hb)
    replace HXp := Lib.hid (HXp.out.read hb)
    replace HW := Lib.hid (belowOn HW.out (Nat.le_refl _) hb)
    clear hqg hc1 hbx hlo hu hb HAz HZS HX5 HB5 HS5
    obtain ⟨s, hs1, hs2, hs3, hs4⟩ := shift_two HOP.out HPS.out.2.2 HPS.out.2.1
    have HOS := Lib.hid hs3
    have HVS := Lib.hid hs4
    clear hs3 hs4
    have hzq : q.sz ≤ 1048576 := by have h1 := good_sz HOQ.out.1.2; have h2 := HOQ.out.2; omega
    have hzs : s.sz ≤ 1048576 := by have h1 := good_sz HOS.out.1.2; have h2 := HOS.out.2; omega
    have HOC : Hid (Ok (canF p) ∧ (canF p).nodes ≤ 49 ∧ Ok (canF q) ∧ (canF q).nodes ≤ 49) := Lib.hid ⟨canF_ok HOP.out, by rw [canF_nodes HOP.out.2]; have := HPS.out.2.2; omega, canF_ok HOQ.out.1, by rw [canF_nodes HOQ.out.1.2]; exact HOQ.out.2⟩
    have hA1 := args_single (heap_new w6 (.cells #[.int .i64 p.kind, .int .i64 p.num, .string p.name, .slice pa p.args.length pc] 25)) (HAp.out.kept (belowAlloc (Below.refl _ _) _))
    have HC := Lib.hid (canOne_any p _ _ hA1 HOP.out (by have := HPS.out.2.2; omega))
    clear hA1
    obtain ⟨c0, c1, c2, c3⟩ := HXp.out.cells
    have zc' := HXp.out.le
    go_wp2_with fail
    refine HC.out.mono ?_
    rintro e w7 ⟨xa, xc, rfl, hx, hb0⟩
    have hb := belowOn (belowAlloc (Below.refl w6.heap.size w6) _) (Nat.le_refl _) hb0
    clear c0 c1 c2 c3 zc' HC hb0
    replace HY := Lib.hid (HY.out.kept hb)
    replace HAp := Lib.hid (HAp.out.kept hb)
    replace HAq := Lib.hid (HAq.out.kept hb)
    replace HXp := Lib.hid (HXp.out.read hb)
    replace HXq := Lib.hid (HXq.out.read hb)
    replace HW := Lib.hid (belowOn HW.out (Nat.le_refl _) hb)
    have HAx := Lib.hid hx
    clear hx hb
    have hA1 := args_single (heap_new w7 (.cells #[.int .i64 q.kind, .int .i64 q.num, .string q.name, .slice qa q.args.length qc] 25)) (HAq.out.kept (belowAlloc (Below.refl _ _) _))
    have HC := Lib.hid (canOne_any q _ _ hA1 HOQ.out.1 HOQ.out.2)
    clear hA1
    obtain ⟨c0, c1, c2, c3⟩ := HXq.out.cells
    have zc' := HXq.out.le
    go_wp2_with fail
    refine HC.out.mono ?_
    rintro e w8 ⟨ya, yc, rfl, hx, hb0⟩
    have hb := belowOn (belowAlloc (Below.refl w7.heap.size w7) _) (Nat.le_refl _) hb0
    clear c0 c1 c2 c3 zc' HC hb0
    replace HY := Lib.hid (HY.out.kept hb)
    replace HAp := Lib.hid (HAp.out.kept hb)
    replace HAq := Lib.hid (HAq.out.kept hb)
    replace HAx := Lib.hid (HAx.out.kept hb)
    replace HXp := Lib.hid (HXp.out.read hb)
    replace HXq := Lib.hid (HXq.out.read hb)
    replace HW := Lib.hid (belowOn HW.out (Nat.le_refl _) hb)
    have HAy := Lib.hid hx
    clear hx hb
    have hI := implShiftTerm_any p _ 77 w8 HAp.out hzp
    rw [hs1, hs2] at hI
    have HC := Lib.hid hI
    clear hI
    obtain ⟨c0, c1, c2, c3⟩ := HXp.out.cells
    have zc' := HXp.out.le
    go_wp2_with fail
    refine HC.out.mono ?_
    rintro e w9 ⟨u, rfl, hn⟩
    obtain ⟨sa, sc, rfl⟩ := hn.1.argsAt.slice
    have hb := hn.2
    have HAs := Lib.hid hn.1.argsAt
    replace HY := Lib.hid (HY.out.kept hb)
    replace HAp := Lib.hid (HAp.out.kept hb)
    replace HAq := Lib.hid (HAq.out.kept hb)
    replace HAx := Lib.hid (HAx.out.kept hb)
    replace HAy := Lib.hid (HAy.out.kept hb)
    replace HXp := Lib.hid (HXp.out.read hb)
    replace HXq := Lib.hid (HXq.out.read hb)
    replace HW := Lib.hid (belowOn HW.out (Nat.le_refl _) hb)
    clear c0 c1 c2 c3 zc' HC hb hn
    go_upto_region 10 with (fail)
    have hal : Below w9.heap.size w9 (w9.alloc (.cells #[.int .i64 s.kind, .int .i64 s.num, .string s.name, .slice sa s.args.length sc] 25)) := belowAlloc (Below.refl _ _) _
    replace HY := Lib.hid (HY.out.kept hal)
    replace HAp := Lib.hid (HAp.out.kept hal)
    replace HAq := Lib.hid (HAq.out.kept hal)
    replace HAx := Lib.hid (HAx.out.kept hal)
    replace HAy := Lib.hid (HAy.out.kept hal)
    replace HAs := Lib.hid (HAs.out.kept hal)
    replace HXp := Lib.hid (HXp.out.read hal)
    replace HXq := Lib.hid (HXq.out.read hal)
    replace HW := Lib.hid (belowOn HW.out (Nat.le_refl _) hal)
    have HXs := Lib.hid (at_box_of w9 #[.int .i64 s.kind, .int .i64 s.num, .string s.name, .slice sa s.args.length sc] 25 w9.heap.size rfl)
    clear hal
    generalize hwx : w9.alloc (.cells #[.int .i64 s.kind, .int .i64 s.num, .string s.name, .slice sa s.args.length sc] 25) = w10 at HY HAp HAq HAx HAy HAs HXp HXq HXs HW ⊢
    clear hwx
    generalize w9.heap.size = ns at HXs ⊢
    obtain ⟨c, hc⟩ : ∃ c, varB p q = c := ⟨_, rfl⟩
    have HVC := Lib.hid hc
    have HLC : Hid (listB [canF p] [canF q] = c) := Lib.hid (by rw [← var_can HOP.out.2 HOQ.out.1.2]; exact hc)
    have hcc : (c != c) = false := by cases c <;> rfl
    have HSH := Lib.hid hs1
    clear hc hs1 hs2
    have HC := Lib.hid (canOne_any (canF p) _ w10 HAx.out HOC.out.1 HOC.out.2.1)
    obtain ⟨c0, c1, c2, c3⟩ := HXp.out.cells
    obtain ⟨d0, d1, d2, d3⟩ := HXq.out.cells
    obtain ⟨e0, e1, e2, e3⟩ := HXs.out.cells
    have zc' := HXp.out.le
    have zd' := HXq.out.le
    have ze' := HXs.out.le
    go_wp2_with fail
    refine HC.out.mono ?_
    rintro e w11 ⟨ca, cc, rfl, hx, hb⟩
    replace HY := Lib.hid (HY.out.kept hb)
    replace HAp := Lib.hid (HAp.out.kept hb)
    replace HAq := Lib.hid (HAq.out.kept hb)
    replace HAx := Lib.hid (HAx.out.kept hb)
    replace HAy := Lib.hid (HAy.out.kept hb)
    replace HAs := Lib.hid (HAs.out.kept hb)
    replace HXp := Lib.hid (HXp.out.read hb)
    replace HXq := Lib.hid (HXq.out.read hb)
    replace HXs := Lib.hid (HXs.out.read hb)
    replace HW := Lib.hid (belowOn HW.out (Nat.le_refl _) hb)
    clear c0 c1 c2 c3 d0 d1 d2 d3 e0 e1 e2 e3 zc' zd' ze' HC
    rw [canF_self HOP.out] at hx
    have HAc := Lib.hid hx
    clear hx
    clear hb
    have HC := Lib.hid (listOne_any (canF p) (canF p) _ _ w11 HAc.out HAx.out HOC.out.1 HOC.out.1 true (listB_self _))
    obtain ⟨c0, c1, c2, c3⟩ := HXp.out.cells
    obtain ⟨d0, d1, d2, d3⟩ := HXq.out.cells
    obtain ⟨e0, e1, e2, e3⟩ := HXs.out.cells
    have zc' := HXp.out.le
    have zd' := HXq.out.le
    have ze' := HXs.out.le
    go_wp2_with fail
    refine HC.out.mono ?_
    rintro e w12 ⟨rfl, hb⟩
    replace HY := Lib.hid (HY.out.kept hb)
    replace HAp := Lib.hid (HAp.out.kept hb)
    replace HAq := Lib.hid (HAq.out.kept hb)
    replace HAx := Lib.hid (HAx.out.kept hb)
    replace HAy := Lib.hid (HAy.out.kept hb)
    replace HAs := Lib.hid (HAs.out.kept hb)
    replace HXp := Lib.hid (HXp.out.read hb)
    replace HXq := Lib.hid (HXq.out.read hb)
    replace HXs := Lib.hid (HXs.out.read hb)
    replace HW := Lib.hid (belowOn HW.out (Nat.le_refl _) hb)
    clear c0 c1 c2 c3 d0 d1 d2 d3 e0 e1 e2 e3 zc' zd' ze' HC
    clear HAc
    clear hb
    have hI := implIsVariant_any p q _ _ w12 HAp.out hzp HAq.out hzq HOP.out HOQ.out.1 (by have := HPS.out.2.2; omega) (by have := HOQ.out.2; omega)
    rw [HVC.out] at hI
    have HC := Lib.hid hI
    clear hI
    obtain ⟨c0, c1, c2, c3⟩ := HXp.out.cells
    obtain ⟨d0, d1, d2, d3⟩ := HXq.out.cells
    obtain ⟨e0, e1, e2, e3⟩ := HXs.out.cells
    have zc' := HXp.out.le
    have zd' := HXq.out.le
    have ze' := HXs.out.le
    go_wp2_with fail
    refine HC.out.mono ?_
    rintro e w13 ⟨rfl, hb⟩
    replace HY := Lib.hid (HY.out.kept hb)
    replace HAp := Lib.hid (HAp.out.kept hb)
    replace HAq := Lib.hid (HAq.out.kept hb)
    replace HAx := Lib.hid (HAx.out.kept hb)
    replace HAy := Lib.hid (HAy.out.kept hb)
    replace HAs := Lib.hid (HAs.out.kept hb)
    replace HXp := Lib.hid (HXp.out.read hb)
    replace HXq := Lib.hid (HXq.out.read hb)
    replace HXs := Lib.hid (HXs.out.read hb)
    replace HW := Lib.hid (belowOn HW.out (Nat.le_refl _) hb)
    clear c0 c1 c2 c3 d0 d1 d2 d3 e0 e1 e2 e3 zc' zd' ze' HC
    clear hb
    have HC := Lib.hid (listOne_any (canF p) (canF q) _ _ w13 HAx.out HAy.out HOC.out.1 HOC.out.2.2.1 c HLC.out)
    obtain ⟨c0, c1, c2, c3⟩ := HXp.out.cells
    obtain ⟨d0, d1, d2, d3⟩ := HXq.out.cells
    obtain ⟨e0, e1, e2, e3⟩ := HXs.out.cells
    have zc' := HXp.out.le
    have zd' := HXq.out.le
    have ze' := HXs.out.le
    go_wp2_with fail
    refine HC.out.mono ?_
    rintro e w14 ⟨rfl, hb⟩
    replace HY := Lib.hid (HY.out.kept hb)
    replace HAp := Lib.hid (HAp.out.kept hb)
    replace HAq := Lib.hid (HAq.out.kept hb)
    replace HAx := Lib.hid (HAx.out.kept hb)
    replace HAy := Lib.hid (HAy.out.kept hb)
    replace HAs := Lib.hid (HAs.out.kept hb)
    replace HXp := Lib.hid (HXp.out.read hb)
    replace HXq := Lib.hid (HXq.out.read hb)
    replace HXs := Lib.hid (HXs.out.read hb)
    replace HW := Lib.hid (belowOn HW.out (Nat.le_refl _) hb)
    clear c0 c1 c2 c3 d0 d1 d2 d3 e0 e1 e2 e3 zc' zd' ze' HC
    clear hb
    have hI := implIsVariant_any s p _ _ w14 HAs.out hzs HAp.out hzp HOS.out.1 HOP.out (by have := HOS.out.2; omega) (by have := HPS.out.2.2; omega)
    rw [HVS.out] at hI
    have HC := Lib.hid hI
    clear hI
    obtain ⟨c0, c1, c2, c3⟩ := HXp.out.cells
    obtain ⟨d0, d1, d2, d3⟩ := HXq.out.cells
    obtain ⟨e0, e1, e2, e3⟩ := HXs.out.cells
    have zc' := HXp.out.le
    have zd' := HXq.out.le
    have ze' := HXs.out.le
    go_wp2_with fail
    refine HC.out.mono ?_
    rintro e w15 ⟨rfl, hb⟩
    replace HY := Lib.hid (HY.out.kept hb)
    replace HAp := Lib.hid (HAp.out.kept hb)
    replace HAq := Lib.hid (HAq.out.kept hb)
    replace HAx := Lib.hid (HAx.out.kept hb)
    replace HAy := Lib.hid (HAy.out.kept hb)
    replace HAs := Lib.hid (HAs.out.kept hb)
    replace HXp := Lib.hid (HXp.out.read hb)
    replace HXq := Lib.hid (HXq.out.read hb)
    replace HXs := Lib.hid (HXs.out.read hb)
    replace HW := Lib.hid (belowOn HW.out (Nat.le_refl _) hb)
    clear c0 c1 c2 c3 d0 d1 d2 d3 e0 e1 e2 e3 zc' zd' ze' HC
    clear hb
    clear HVC HLC HVS HAq HAy HXq hzq HOQ
    go_upto_region 12 with (fail)
    have hself : Below w15.heap.size w15 w15 := Below.refl _ _
    have HTR : Hid (∀ a b, Below w15.heap.size w15 a → Below a.heap.size a b → Below w15.heap.size w15 b) := Lib.hid fun a b h1 h2 => belowOn h1 (Nat.le_refl _) h2
    have HCB : Hid (∀ W, Below w15.heap.size w15 W → (W.cell? ⟨np, 0, none⟩ = some (.int .i64 p.kind) ∧ W.cell? ⟨np, 1, none⟩ = some (.int .i64 p.num) ∧ W.cell? ⟨np, 2, none⟩ = some (.string p.name) ∧ W.cell? ⟨np, 3, none⟩ = some (.slice pa p.args.length pc)) ∧ W.cell? ⟨ns, 0, none⟩ = some (.int .i64 s.kind) ∧ W.cell? ⟨ns, 1, none⟩ = some (.int .i64 s.num) ∧ W.cell? ⟨ns, 2, none⟩ = some (.string s.name) ∧ W.cell? ⟨ns, 3, none⟩ = some (.slice sa s.args.length sc)) := Lib.hid fun W hW => ⟨(HXp.out.read hW).cells, (HXs.out.read hW).cells⟩
    have HROW : Hid (∀ W W' B, W.heap.size = B → Below w15.heap.size w15 W → Below (W.alloc (.cells #[.int .i64 p.kind, .int .i64 p.num, .string p.name, .slice pa p.args.length pc, .int .i64 s.kind, .int .i64 s.num, .string s.name, .slice sa s.args.length sc] 25)).heap.size (W.alloc (.cells #[.int .i64 p.kind, .int .i64 p.num, .string p.name, .slice pa p.args.length pc, .int .i64 s.kind, .int .i64 s.num, .string s.name, .slice sa s.args.length sc] 25)) W' → ArgsAt W' (.slice (some ⟨B, 0, none⟩) 2 2) [p, s]) := Lib.hid fun W W' B hB h1 h2 => by
      subst hB
      have h3 := belowOn h1 (Nat.le_refl _) (belowOn (belowAlloc (Below.refl _ _) _) (Nat.le_refl _) h2)
      exact args_two ((h2.block _ (by simp)).trans (heap_new W _)) (HAp.out.kept h3) (HAs.out.kept h3)
    have HMS : Hid (∀ W, Below w15.heap.size w15 W → Calls Try.prog 24 #[.slice a len cap, .int .i64 60] W (MadeS 4 8 4 11 W)) := Lib.hid fun W hW => makeSubst_any a len cap 60 W (HY.out.kept hW) hl (by decide)
    have HRE : Hid (∀ W u Vu V, Below w15.heap.size w15 W → SubD 4 8 4 11 u → ListS bdE W Any Vu u → ArgsAt W V [p, s] → Calls Try.prog 23 #[Vu, V] W fun e w' => ∃ (y : Tm) (rg rc : Nat), e = .returned (.tuple #[.slice (some ⟨rg, 0, none⟩) 2 rc, .bool true]) ∧ (2 ≤ rc ∧ rc ≤ maxLen) ∧ ArgsAt w' (.slice (some ⟨rg, 0, none⟩) 2 rc) [canF p, y] ∧ Below W.heap.size W w') := Lib.hid fun W u Vu V hW hS hL hA => by
      have hsu : SubstP u := hS.subst (by decide) (by decide) (by decide) (by decide) (by decide)
      obtain ⟨h1, y, h2, hy⟩ := reify_two hS HOP.out HPS.out.2.1
      have hE : EachT [p, s] := ⟨by simp, fun x hx => by
        simp only [List.mem_cons, List.not_mem_nil, or_false] at hx
        rcases hx with rfl | rfl
        · exact hzp
        · exact hzs⟩
      have hc := implReify_e u Vu [p, s] V W hL hsu.each (subst_wf hsu) hA hE
      rw [HSH.out] at h1 h2
      rw [h1, h2] at hc
      refine hc.mono ?_
      rintro e w' ⟨v, rfl, hv, hb⟩
      obtain ⟨rg, rc, rfl, hr⟩ := own_two hv
      exact ⟨y, rg, rc, rfl, hr, hv.argsAt, hb⟩
    obtain ⟨⟨k0, k1, k2, k3⟩, l0, l1, l2, l3⟩ := HCB.out w15 hself
    go_region_held3 (fun w' => (w'.cell? ⟨np, 0, none⟩ = some (.int .i64 p.kind) ∧ w'.cell? ⟨np, 1, none⟩ = some (.int .i64 p.num) ∧ w'.cell? ⟨np, 2, none⟩ = some (.string p.name) ∧ w'.cell? ⟨np, 3, none⟩ = some (.slice pa p.args.length pc)) ∧ w'.cell? ⟨ns, 0, none⟩ = some (.int .i64 s.kind) ∧ w'.cell? ⟨ns, 1, none⟩ = some (.int .i64 s.num) ∧ w'.cell? ⟨ns, 2, none⟩ = some (.string s.name) ∧ w'.cell? ⟨ns, 3, none⟩ = some (.slice sa s.args.length sc)) (go_keep)
      (first
      | (go_at_call 24; (with_reducible refine Calls.mono (HMS.out _ ?_) ?_); (first | assumption | exact Below.drew (by assumption) | exact belowAlloc (by assumption) _ | exact (belowAlloc (by assumption) _).drew | exact belowAlloc (belowAlloc (by assumption) _) _ | exact (belowAlloc (belowAlloc (by assumption) _) _).drew); rintro e wS ⟨u, vu, rfl, hL, hS, hbS⟩; have HL := Lib.hid hL; have HSD := Lib.hid hS; have hB1 := HTR.out _ _ (by (first | assumption | exact Below.drew (by assumption) | exact belowAlloc (by assumption) _ | exact (belowAlloc (by assumption) _).drew | exact belowAlloc (belowAlloc (by assumption) _) _ | exact (belowAlloc (belowAlloc (by assumption) _) _).drew)) hbS; clear hL hS k0 k1 k2 k3 l0 l1 l2 l3; obtain ⟨⟨k0, k1, k2, k3⟩, l0, l1, l2, l3⟩ := HCB.out _ hB1)
      | (go_at_call 23; (with_reducible refine Calls.mono (HRE.out _ _ _ _ ?_ HSD.out ?_ ?_) ?_); (first | assumption | exact Below.drew (by assumption) | exact belowAlloc (by assumption) _ | exact (belowAlloc (by assumption) _).drew | exact belowAlloc (belowAlloc (by assumption) _) _ | exact (belowAlloc (belowAlloc (by assumption) _) _).drew); (first | exact HL.out | exact HL.out.kept (Below.refl _ _).drew | exact HL.out.kept (belowAlloc (Below.refl _ _) _) | exact HL.out.kept (belowAlloc (Below.refl _ _) _).drew); (first | exact HROW.out wS _ _ rfl (by assumption) (Below.refl _ _) | exact HROW.out wS _ _ rfl (by assumption) (Below.refl _ _).drew | exact HROW.out w15 _ _ rfl (by assumption) (belowOn (Below.refl _ _) (Nat.le_refl _) hbS) | exact HROW.out w15 _ _ rfl (by assumption) (belowOn (Below.refl _ _) (Nat.le_refl _) hbS).drew | exact HROW.out w15 _ _ rfl (by assumption) (belowOn (Below.refl _ _).drew (Nat.le_refl _) hbS) | exact HROW.out w15 _ _ rfl (by assumption) (belowOn (Below.refl _ _).drew (Nat.le_refl _) hbS).drew); rintro e wR ⟨y2, rg, rc, rfl, hrc, hrA, hbR⟩; have HRC := Lib.hid hrc; have HAr := Lib.hid hrA; have hB2 := HTR.out _ _ (by (first | assumption | exact Below.drew (by assumption) | exact belowAlloc (by assumption) _ | exact (belowAlloc (by assumption) _).drew | exact belowAlloc (belowAlloc (by assumption) _) _ | exact (belowAlloc (belowAlloc (by assumption) _) _).drew)) hbR; clear hrc hrA hbR k0 k1 k2 k3 l0 l1 l2 l3; obtain ⟨⟨k0, k1, k2, k3⟩, l0, l1, l2, l3⟩ := HCB.out _ hB2))
    all_goals
      have hb := hB2
      replace HAp := Lib.hid (HAp.out.kept hb)
      replace HAx := Lib.hid (HAx.out.kept hb)
      replace HXp := Lib.hid (HXp.out.read hb)
      replace HW := Lib.hid (belowOn HW.out (Nat.le_refl _) hb)
      clear hb hB2 hB1 hself HTR HCB HROW HMS HRE k0 k1 k2 k3 l0 l1 l2 l3 HL HSD HXs HAs HY
      have hA1 := args_single (heap_new wR (.cells #[.int .i64 p.kind, .int .i64 p.num, .string p.name, .slice pa p.args.length pc] 25)) (HAp.out.kept (belowAlloc (Below.refl _ _) _))
      have HC := Lib.hid (ordOne_any p _ _ hA1 HOP.out (by have := HPS.out.2.2; omega))
      clear hA1
      obtain ⟨c0, c1, c2, c3⟩ := HXp.out.cells
      have zc' := HXp.out.le
      go_wp2_with fail
      refine HC.out.mono ?_
      rintro e w16 ⟨oa, oc, rfl, hb0⟩
      have hb := belowOn (belowAlloc (Below.refl wR.heap.size wR) _) (Nat.le_refl _) hb0
      clear c0 c1 c2 c3 zc' HC hb0
      replace HAp := Lib.hid (HAp.out.kept hb)
      replace HAx := Lib.hid (HAx.out.kept hb)
      replace HAr := Lib.hid (HAr.out.kept hb)
      replace HXp := Lib.hid (HXp.out.read hb)
      replace HW := Lib.hid (belowOn HW.out (Nat.le_refl _) hb)
      clear hb
      have hr1 : (1 : Int) ≤ (rc : Int) := by have := HRC.out.1; omega
      have hr2 : (rc : Int) ≤ 9223372036854775807 := by have := HRC.out.2; unfold maxLen at this; omega
      have hr3 : ¬ (rc : Int) = 0 := by omega
      have hr4 : 1 ≤ rc := by omega
      have HC := Lib.hid (listOne_any (canF p) (canF p) _ _ w16 (args_head HAr.out) HAx.out HOC.out.1 HOC.out.1 true (listB_self _))
      go_wp2_with fail
      refine HC.out.mono ?_
      rintro e w17 ⟨rfl, hb⟩
      clear HC HAr
      replace HAp := Lib.hid (HAp.out.kept hb)
      replace HAx := Lib.hid (HAx.out.kept hb)
      replace HXp := Lib.hid (HXp.out.read hb)
      replace HW := Lib.hid (belowOn HW.out (Nat.le_refl _) hb)
      clear hb
      have HC := Lib.hid (boundOne_any p _ w17 HAx.out HOP.out HOC.out.2.1)
      go_wp2_with fail
      refine HC.out.mono ?_
      rintro e w18 ⟨rfl, hb⟩
      clear HC HAx
      replace HAp := Lib.hid (HAp.out.kept hb)
      replace HXp := Lib.hid (HXp.out.read hb)
      replace HW := Lib.hid (belowOn HW.out (Nat.le_refl _) hb)
      clear hb
      have HC := Lib.hid (varsOne_any p _ w18 HAp.out HOP.out)
      obtain ⟨c0, c1, c2, c3⟩ := HXp.out.cells
      have zc' := HXp.out.le
      go_wp2_with fail
      refine HC.out.mono ?_
      rintro e w19 ⟨ta, tc, rfl, hb⟩
      clear c0 c1 c2 c3 zc' HC
      have HEND := Lib.hid (belowOn HW.out (Nat.le_refl _) hb)
      go_wp2
      go_ret
      exact ⟨rfl, HEND.out⟩
end Go.Proofs.Ytdgkhimledcfbaa
