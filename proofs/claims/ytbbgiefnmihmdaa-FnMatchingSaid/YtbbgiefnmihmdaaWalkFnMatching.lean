/-
  The law of matching (FnMatching), walked over the program's contracts. (Written by wip/tools/gen_walkfnmatching.py.)
-/
import Derived.Test.YtbbgiefnmihmdaaDrawG
import Derived.Test.YtbbgiefnmihmdaaAlike
import Derived.Test.YtbbgiefnmihmdaaImplMT
import Derived.Test.YtbbgiefnmihmdaaVars
namespace Go.Proofs.Ytbbgiefnmihmdaa
open Go.RowKit
set_option linter.unusedVariables false
set_option linter.unusedSimpArgs false

theorem occ_iff {v : Int} {t : Tm} (h : Good t) : 0 < t.occ v ↔ v ∈ t.vl := by
  induction h with
  | nil => rw [occ_eq]; simp [Tm.kind, Tm.args, Tm.vl, vlL, occL]
  | sym n hn => rw [occ_eq]; simp [Tm.kind, Tm.args, Tm.vl, vlL, occL]
  | int r h0 h1 => rw [occ_eq]; simp [Tm.kind, Tm.args, Tm.vl, vlL, occL]
  | var i h0 h1 =>
    rw [occ_eq]
    by_cases hi : i = v
    · subst hi; simp [Tm.kind, Tm.num, Tm.vl]
    · have hi' : ¬ v = i := fun e => hi e.symm
      simp [Tm.kind, Tm.num, Tm.args, Tm.vl, occL, hi, hi']
  | pair x y _ _ ihx ihy =>
    rw [vl_pair, List.mem_append, ← ihx, ← ihy, occ_eq]
    simp [Tm.kind, Tm.args, occL]
    omega
theorem GroundP.values {n : Nat} {g : List Bd} (h : GroundP n g) (hn : n ≤ 400) : ValuesP g := by
  refine ⟨fun k x hx => ?_, fun k x y hx hy => ?_, by have := h.1; omega⟩
  · have h1 := h.2 k x hx
    have h2 := (List.getElem?_eq_some_iff.1 hx).1
    rw [h.1] at h2
    exact ⟨⟨by omega, by omega⟩, ⟨by have := h1.2.2.2; omega, h1.2.1⟩⟩
  · have h1 := (h.2 k x hx).1
    have h2 := (h.2 (k + 1) y hy).1
    omega
theorem values_each {s : List Bd} (h : ValuesP s) : EachB s ∧ ∀ b ∈ s, wfI b.v := by
  refine ⟨⟨by have := h.2.2; omega, fun b hb => ?_⟩, fun b hb => ?_⟩
  · have h1 := h.fits b hb
    have h2 := good_sz h1.2
    have h3 := h1.1
    omega
  · obtain ⟨i, hi⟩ := List.getElem?_of_mem hb
    have := (h.1 i b hi).1
    exact wfI_of (by omega) (by omega)
theorem matL_values {p t : Tm} {l : List Bd} (h : MatL p t l) (hl : l.length ≤ 400) : ValuesP l := by
  refine ⟨fun k x hx => h.ok x (List.mem_of_getElem? hx), fun k x y hx hy => ?_, hl⟩
  obtain ⟨h1, e1⟩ := List.getElem?_eq_some_iff.1 hx
  obtain ⟨h2, e2⟩ := List.getElem?_eq_some_iff.1 hy
  have := List.pairwise_iff_getElem.1 h.asc k (k + 1) h1 h2 (by omega)
  rwa [e1, e2] at this
/-- The ground values of a term's own variables. -/
def gOf (g : List Bd) (p : Tm) : List Bd := g.filter fun b => decide (b.v ∈ p.vl)
theorem gOf_mt {n : Nat} {g : List Bd} {p : Tm} (hg : GroundP n g) (hn : n ≤ 400) (hp : Ok p) (hv : ∀ v ∈ p.vl, v < n) (hs : p.nodes ≤ 1000) : MtP p (putT g p) (gOf g p) := by
  have hput := ground_put hg hp.2
  have hasc : (gOf g p).Pairwise (fun a b => a.v < b.v) := hg.asc.sublist List.filter_sublist
  have hin : ∀ v ∈ p.vl, ∃ b ∈ gOf g p, b.v = v ∧ getO g v = some b.t := fun v hvv => by
    obtain ⟨b, hb, hgo⟩ := ground_get hg (v := v) ⟨(good_vrange hp.2 v hvv).1, hv v hvv⟩
    have hbv : b.v = v := by have := (hg.2 _ b hb).1; have := (good_vrange hp.2 v hvv).1; omega
    exact ⟨b, List.mem_filter.2 ⟨List.mem_of_getElem? hb, by rw [hbv]; exact decide_eq_true hvv⟩, hbv, hgo⟩
  refine ⟨hp, ⟨by have := hput.2; omega, hput.1⟩, ⟨hasc, fun b hb => ?_, fun v => ?_, ?_⟩, ?_⟩
  · obtain ⟨h1, h2, h3, h4⟩ := hg.mem b (List.mem_filter.1 hb).1
    exact ⟨⟨h1.1, by omega⟩, ⟨by omega, h2⟩⟩
  · rw [getO_ne]
    constructor
    · intro ⟨b, hb, hbv⟩
      have := of_decide_eq_true (List.mem_filter.1 hb).2
      rwa [hbv] at this
    · intro hvv
      obtain ⟨b, hb, hbv, _⟩ := hin v hvv
      exact ⟨b, hb, hbv⟩
  · rw [put_ev hp.2, put_ev hp.2]
    refine ev_congr hp.2 fun v hvv => ?_
    obtain ⟨b, hb, hbv, hgo⟩ := hin v hvv
    rw [sgm_bound hgo, ← hbv]
    exact sgm_bound (get_asc hasc b hb)
  · exact Nat.le_trans (List.length_filter_le _ _) (by rw [hg.1]; exact hn)
theorem gOf_at {n : Nat} {g : List Bd} {p : Tm} (hg : GroundP n g) : ∀ b ∈ gOf g p, ∃ (i : Nat) (u : Tm), b = ⟨i, u⟩ ∧ i < n ∧ g[i]? = some ⟨i, u⟩ ∧ (i : Int) ∈ p.vl ∧ Good u ∧ u.nodes ≤ 3 := fun b hb => by
  obtain ⟨h1, h2⟩ := List.mem_filter.1 hb
  obtain ⟨i, hi⟩ := List.getElem?_of_mem h1
  have h3 := hg.2 i b hi
  have h4 := (List.getElem?_eq_some_iff.1 hi).1
  rw [hg.1] at h4
  obtain ⟨v, u⟩ := b
  have h5 : v = (i : Int) := h3.1
  subst h5
  exact ⟨i, u, rfl, h4, hi, of_decide_eq_true h2, h3.2.1, h3.2.2.2⟩
theorem gOf_len {n : Nat} {g : List Bd} {p : Tm} (hg : GroundP n g) (hp : Ok p) (hv : ∀ v ∈ p.vl, v < n) : (gOf g p).length = (varsOf p).length := by
  have e : varsOf p = p.vl.foldl insAsc [] := by rw [varsOf, if_pos hp, ins_is_compact]; rfl
  obtain ⟨h1, h2⟩ := insL_spec p.vl [] List.Pairwise.nil
  rw [← e] at h1 h2
  have hn1 : (varsOf p).Nodup := by rw [List.nodup_iff_pairwise_ne]; exact h1.imp fun h => by omega
  have hasc : (gOf g p).Pairwise (fun a b => a.v < b.v) := hg.asc.sublist List.filter_sublist
  have hn2 : ((gOf g p).map Bd.v).Nodup := by rw [List.nodup_iff_pairwise_ne, List.pairwise_map]; exact hasc.imp fun h => by omega
  have a := nodup_len hn2 fun x hx => by
    obtain ⟨b, hb, rfl⟩ := List.mem_map.1 hx
    exact (h2 b.v).2 (.inr (of_decide_eq_true (List.mem_filter.1 hb).2))
  have b := nodup_len (m := (gOf g p).map Bd.v) hn1 fun x hx => by
    have hx : x ∈ p.vl := ((h2 x).1 hx).elim (fun h => by cases h) id
    obtain ⟨b, hb, _⟩ := ground_get hg (v := x) ⟨(good_vrange hp.2 x hx).1, hv x hx⟩
    have hbv : b.v = x := by have := (hg.2 _ b hb).1; have := (good_vrange hp.2 x hx).1; omega
    exact List.mem_map.2 ⟨b, List.mem_filter.2 ⟨List.mem_of_getElem? hb, by rw [hbv]; exact decide_eq_true hx⟩, hbv⟩
  rw [List.length_map] at a b
  omega
/-- What is drawn into a term. -/
def SmallA (y : Tm) : Prop := Good y ∧ y.nodes ≤ 3
theorem mt_back {p q : Tm} (h : mtB p q = true) : instT (mtL p q) p = q ∧ instB (mtL p q) p = true := by
  obtain ⟨h1, h2, h3, h4⟩ := mt_true h
  have h5 := in_yes (s := mtL p q) (t := p) ⟨h1, matL_values h3 h4, by rw [h3.put]; exact h2.1⟩
  exact ⟨by rw [h5.1, h3.put], h5.2⟩

set_option maxRecDepth 100000 in
set_option maxHeartbeats 32000000 in
theorem walkFnMatching (w : World) (a : Option Addr) (len cap : Nat) (zs : List Int) (hrow : ByteRow w a len cap zs) :
    Calls Try.prog 5 #[.slice a len cap] w fun e w' => e = .returned (.bool true) ∧ Below w.heap.size w w' := by
  obtain ⟨hby, hmx⟩ := hrow.bytes
  clear hrow
  unfold maxLen at hmx
  have HY := Lib.hid hby
  clear hby
  by_cases h : 1048576 < (len : Int)
  · go_enter Try.func5, Try.ntmps5
    go_wp2
    go_ret
    exact ⟨rfl, Below.refl _ _⟩
  have hl : len ≤ 1048576 := by omega
  go_enter Try.func5, Try.ntmps5
  go_wp2_with fail
  refine (makeTermB_any half_small a len cap 0 8 4 _ HY.out hl (by decide) (by decide) (by decide) (by decide) (by decide) (closed_gv (by decide))).mono ?_
  rintro e w1 ⟨p, pa, pc, rfl, hp, hgp, hnp, hb⟩
  clear h hmx
  have HW := Lib.hid hb
  replace HY := Lib.hid (HY.out.kept hb)
  have HAp := Lib.hid hp
  have HPS : Hid (Good p ∧ (∀ v ∈ p.vl, v < ((4 : Nat) : Int)) ∧ p.nodes ≤ 7) := Lib.hid ⟨hgp.1, hgp.2, by have h3 : (p.nodes : Int) ≤ 7 := hnp; omega⟩
  clear hb hp hgp hnp
  go_upto_region 4 with (fail)
  have hal : Below w1.heap.size w1 (w1.alloc (.cells #[.int .i64 p.kind, .int .i64 p.num, .string p.name, .slice pa p.args.length pc] 27)) := belowAlloc (Below.refl _ _) _
  replace HY := Lib.hid (HY.out.kept hal)
  replace HAp := Lib.hid (HAp.out.kept hal)
  replace HW := Lib.hid (belowOn HW.out (Nat.le_refl _) hal)
  have HXp := Lib.hid (at_box_of w1 #[.int .i64 p.kind, .int .i64 p.num, .string p.name, .slice pa p.args.length pc] 27 w1.heap.size rfl)
  clear hal
  generalize hwx : w1.alloc (.cells #[.int .i64 p.kind, .int .i64 p.num, .string p.name, .slice pa p.args.length pc] 27) = w2 at HY HAp HXp HW ⊢
  clear hwx
  generalize w1.heap.size = np at HXp ⊢
  go_wp2_with fail
  refine (makeGroundA_any a len cap 20 4 _ HY.out hl (by decide) (by decide) (by decide)).mono ?_
  rintro e w3 ⟨g, gb, gc, rfl, hgc1, hgc2, hG, hgp, hb⟩
  replace HY := Lib.hid (HY.out.kept hb)
  replace HAp := Lib.hid (HAp.out.kept hb)
  replace HXp := Lib.hid (HXp.out.read hb)
  replace HW := Lib.hid (belowOn HW.out (Nat.le_refl _) hb)
  have HG := Lib.hid hG
  have HGP := Lib.hid hgp
  have hgl : g.length = 4 := hgp.1
  rw [hgl] at hgc1 HG ⊢
  have HGL := Lib.hid hgl
  clear hb hG hgp hgl hgc1 hgc2
  have hzp : p.sz ≤ 1048576 := by have h1 := good_sz HPS.out.1; have h2 := HPS.out.2.2; omega
  have HOP : Hid (Ok p) := Lib.hid ⟨by have := HPS.out.2.2; omega, HPS.out.1⟩
  have HGV := Lib.hid (values_each (HGP.out.values (by decide)))
  have HPUT := Lib.hid (ground_put HGP.out HPS.out.1)
  have HMT := Lib.hid (mt_yes (gOf_mt HGP.out (by decide) HOP.out HPS.out.2.1 (by have := HPS.out.2.2; omega)))
  have HMP := Lib.hid (gOf_mt HGP.out (by decide) HOP.out HPS.out.2.1 (by have := HPS.out.2.2; omega))
  have HIN := Lib.hid (in_yes (s := g) (t := p) ⟨HOP.out, HGP.out.values (by decide), by have h1 := HPUT.out.2; have h2 := HPS.out.2.2; omega⟩)
  have hI := implInstantiate_e g (.slice (some ⟨gb, 0, none⟩) 4 gc) p _ w3 HG.out HGV.out.1 HGV.out.2 HAp.out hzp
  rw [HIN.out.1, HIN.out.2] at hI
  have HC := Lib.hid hI
  clear hI
  have HVAL := Lib.hid (fun W (h1 : ListS bdE W Any (.slice (some ⟨gb, 0, none⟩) 4 gc) g) (h2 : ArgsAt W (.slice pa p.args.length pc) p.args) (hz : (putT g p).sz ≤ 1048576) => makeValue_any g p _ _ W (by have := HGP.out.1; omega) h1 h2 hzp HPS.out.1 hz)
  have HLEN := Lib.hid (gOf_len HGP.out HOP.out HPS.out.2.1)
  have HAT := Lib.hid (gOf_at (p := p) HGP.out)
  generalize putT g p = t at HC HPUT HMT HMP HVAL
  generalize gOf g p = m at HMT HMP HLEN HAT
  obtain ⟨kp0, kp1, kp2, kp3⟩ := HXp.out.cells
  have zp := HXp.out.le
  go_wp2_with fail
  refine HC.out.mono ?_
  rintro e w4 ⟨u, rfl, hn⟩
  obtain ⟨ta, tc, rfl⟩ := hn.1.argsAt.slice
  have hb := hn.2
  have HAt := Lib.hid hn.1.argsAt
  replace HY := Lib.hid (HY.out.kept hb)
  replace HAp := Lib.hid (HAp.out.kept hb)
  replace HXp := Lib.hid (HXp.out.read hb)
  replace HG := Lib.hid (HG.out.kept hb)
  replace HW := Lib.hid (belowOn HW.out (Nat.le_refl _) hb)
  clear hb hn HC kp0 kp1 kp2 kp3 zp
  go_upto_region 6 with (fail)
  have hal : Below w4.heap.size w4 (w4.alloc (.cells #[.int .i64 t.kind, .int .i64 t.num, .string t.name, .slice ta t.args.length tc] 27)) := belowAlloc (Below.refl _ _) _
  replace HY := Lib.hid (HY.out.kept hal)
  replace HAp := Lib.hid (HAp.out.kept hal)
  replace HAt := Lib.hid (HAt.out.kept hal)
  replace HXp := Lib.hid (HXp.out.read hal)
  replace HG := Lib.hid (HG.out.kept hal)
  replace HW := Lib.hid (belowOn HW.out (Nat.le_refl _) hal)
  have HXt := Lib.hid (at_box_of w4 #[.int .i64 t.kind, .int .i64 t.num, .string t.name, .slice ta t.args.length tc] 27 w4.heap.size rfl)
  clear hal
  generalize hwx : w4.alloc (.cells #[.int .i64 t.kind, .int .i64 t.num, .string t.name, .slice ta t.args.length tc] 27) = w5 at HY HAp HAt HXp HXt HG HW ⊢
  clear hwx
  generalize w4.heap.size = nt at HXt ⊢
  have hzt : t.sz ≤ 1048576 := by have h1 := good_sz HPUT.out.1; have h2 := HPUT.out.2; have h3 := HPS.out.2.2; omega
  have hI := implMatchTerm_any p _ t _ w5 HAp.out hzp HAt.out hzt
  rw [HMT.out.1, HMT.out.2] at hI
  have HC := Lib.hid hI
  clear hI
  obtain ⟨kp0, kp1, kp2, kp3⟩ := HXp.out.cells
  have zp := HXp.out.le
  obtain ⟨kt0, kt1, kt2, kt3⟩ := HXt.out.cells
  have zt := HXt.out.le
  go_wp2_with fail
  refine HC.out.mono ?_
  rintro e w6 ⟨u, rfl, hu, hb⟩
  have HMl := Lib.hid hu.inS.any
  replace HY := Lib.hid (HY.out.kept hb)
  replace HAp := Lib.hid (HAp.out.kept hb)
  replace HAt := Lib.hid (HAt.out.kept hb)
  replace HXp := Lib.hid (HXp.out.read hb)
  replace HXt := Lib.hid (HXt.out.read hb)
  replace HG := Lib.hid (HG.out.kept hb)
  replace HW := Lib.hid (belowOn HW.out (Nat.le_refl _) hb)
  clear hb hu HC kp0 kp1 kp2 kp3 zp kt0 kt1 kt2 kt3 zt
  obtain ⟨ma, mc, rfl⟩ := HMl.out.slice
  have hml : m.length ≤ 400 := HMP.out.2.2.2
  have HMV := Lib.hid (matL_values HMP.out.2.2.1 hml)
  have hself : Below w6.heap.size w6 w6 := Below.refl _ _
  have hdrew : Below w6.heap.size w6 w6.drew := hself.drew
  have HTR : Hid (∀ a b, Below w6.heap.size w6 a → Below a.heap.size a b → Below w6.heap.size w6 b) := Lib.hid fun a b h1 h2 => belowOn h1 (Nat.le_refl _) h2
  have HCB : Hid (∀ W, Below w6.heap.size w6 W → (W.cell? ⟨np, 0, none⟩ = some (.int .i64 p.kind) ∧ W.cell? ⟨np, 1, none⟩ = some (.int .i64 p.num) ∧ W.cell? ⟨np, 2, none⟩ = some (.string p.name) ∧ W.cell? ⟨np, 3, none⟩ = some (.slice pa p.args.length pc)) ∧ W.cell? ⟨nt, 0, none⟩ = some (.int .i64 t.kind) ∧ W.cell? ⟨nt, 1, none⟩ = some (.int .i64 t.num) ∧ W.cell? ⟨nt, 2, none⟩ = some (.string t.name) ∧ W.cell? ⟨nt, 3, none⟩ = some (.slice ta t.args.length tc)) := Lib.hid fun W hW => ⟨(HXp.out.read hW).cells, (HXt.out.read hW).cells⟩
  have HM1 : Hid (∀ W, Below w6.heap.size w6 W → Calls Try.prog 16 #[.agg #[.int .i64 p.kind, .int .i64 p.num, .string p.name, .slice pa p.args.length pc], .slice (some ⟨gb, 0, none⟩) 4 gc] W (ValT t W)) := Lib.hid fun W hW => HVAL.out W (HG.out.kept hW) (HAp.out.kept hW) hzt
  have HM2 : Hid (∀ W (ya : Option Addr) (yc : Nat), Below w6.heap.size w6 W → ArgsAt W (.slice ya t.args.length yc) t.args → Calls Try.prog 19 #[.agg #[.int .i64 t.kind, .int .i64 t.num, .string t.name, .slice ta t.args.length tc], .agg #[.int .i64 t.kind, .int .i64 t.num, .string t.name, .slice ya t.args.length yc]] W fun e w' => e = .returned (.bool true) ∧ Below W.heap.size W w') := Lib.hid fun W ya yc hW h2 => by
    have hc := same_any (t.nodes + 1) t t _ _ W (Nat.lt_succ_self _) (HAt.out.kept hW) h2 hzt hzt HPUT.out.1 HPUT.out.1
    rw [show (t.cmp t == 0) = true from by rw [cmp_self]; rfl] at hc
    exact hc
  have HM3 : Hid (∀ W, Below w6.heap.size w6 W → Calls Try.prog 31 #[.agg #[.int .i64 t.kind, .int .i64 t.num, .string t.name, .slice ta t.args.length tc], .agg #[.int .i64 p.kind, .int .i64 p.num, .string p.name, .slice pa p.args.length pc]] W fun e w' => e = .returned (.bool true) ∧ Below W.heap.size W w') := Lib.hid fun W hW => by
    have hc := implIsInstance_any t _ p _ W (HAt.out.kept hW) hzt (HAp.out.kept hW) hzp
    rw [HMT.out.2] at hc
    exact hc
  have HM4 : Hid (∀ W, Below w6.heap.size w6 W → Calls Try.prog 32 #[.slice ma m.length mc] W fun e w' => e = .returned (.bool true) ∧ Below W.heap.size W w') := Lib.hid fun W hW => by
    have hc := implValuesOk_e m _ W (HMl.out.kept hW) (values_each HMV.out).1
    rw [valuesB_true.2 HMV.out] at hc
    exact hc
  obtain ⟨⟨e0, e1, e2, e3⟩, f0, f1, f2, f3⟩ := HCB.out w6 hself
  go_upto_region 7 with (fail)
  go_region_held3 (fun w' => w'.cell? ⟨np, 0, none⟩ = some (.int .i64 p.kind) ∧ w'.cell? ⟨np, 1, none⟩ = some (.int .i64 p.num) ∧ w'.cell? ⟨np, 2, none⟩ = some (.string p.name) ∧ w'.cell? ⟨np, 3, none⟩ = some (.slice pa p.args.length pc) ∧ w'.cell? ⟨nt, 0, none⟩ = some (.int .i64 t.kind) ∧ w'.cell? ⟨nt, 1, none⟩ = some (.int .i64 t.num) ∧ w'.cell? ⟨nt, 2, none⟩ = some (.string t.name) ∧ w'.cell? ⟨nt, 3, none⟩ = some (.slice ta t.args.length tc)) (go_keep)
    (first
    | (go_at_call 16; (with_reducible refine Calls.mono (HM1.out _ ?_) ?_); (assumption); rintro e wX ⟨ya, yc, rfl, hya, hb⟩; have HYA := Lib.hid hya.at; have hB' := HTR.out _ _ (by assumption) hb; obtain ⟨⟨k0, k1, k2, k3⟩, l0, l1, l2, l3⟩ := HCB.out _ hB'; clear hya hb)
    | (go_at_call 19; (with_reducible refine Calls.mono (HM2.out _ _ _ ?_ HYA.out) ?_); (assumption); rintro e wY ⟨rfl, hb⟩; have hB' := HTR.out _ _ (by assumption) hb; obtain ⟨⟨k0, k1, k2, k3⟩, l0, l1, l2, l3⟩ := HCB.out _ hB'; clear hb)
    | (go_at_call 31; (with_reducible refine Calls.mono (HM3.out _ ?_) ?_); (assumption); rintro e wZ ⟨rfl, hb⟩; have hB' := HTR.out _ _ (by assumption) hb; obtain ⟨⟨k0, k1, k2, k3⟩, l0, l1, l2, l3⟩ := HCB.out _ hB'; clear hb)
    | (go_at_call 32; (with_reducible refine Calls.mono (HM4.out _ ?_) ?_); (assumption); rintro e w7 ⟨rfl, hb⟩; have hB' := HTR.out _ _ (by assumption) hb; have HZB := Lib.hid hB'; obtain ⟨⟨k0, k1, k2, k3⟩, l0, l1, l2, l3⟩ := HCB.out _ hB'; clear hb))
  all_goals
    replace HY := Lib.hid (HY.out.kept HZB.out)
    replace HAp := Lib.hid (HAp.out.kept HZB.out)
    replace HAt := Lib.hid (HAt.out.kept HZB.out)
    replace HXp := Lib.hid (HXp.out.read HZB.out)
    replace HXt := Lib.hid (HXt.out.read HZB.out)
    replace HG := Lib.hid (HG.out.kept HZB.out)
    replace HMl := Lib.hid (HMl.out.kept HZB.out)
    replace HW := Lib.hid (belowOn HW.out (Nat.le_refl _) HZB.out)
    clear HM1 HM2 HM3 HM4 HCB HTR hself hdrew HZB HYA HVAL
    clear k0 k1 k2 k3 l0 l1 l2 l3 e0 e1 e2 e3 f0 f1 f2 f3
    go_wp2
    go_loopw [62] (fun iv wr => ∃ (k : Nat), iv = .int .i64 k ∧ k ≤ m.length ∧ Hid (Below w7.heap.size w7 wr)) (fun iv _ => m.length - (intOf iv).toNat)
    case atStart => exact ⟨0, rfl, Nat.zero_le _, Lib.hid (Below.refl _ _)⟩
    case round =>
      obtain ⟨k, rfl, hk, HWr⟩ := hrel
      by_cases hlt : k < m.length
      · have hltI : (k : Int) < (m.length : Int) := by omega
        obtain ⟨b, hbm⟩ : ∃ x, m[k]? = some x := ⟨_, List.getElem?_eq_getElem hlt⟩
        obtain ⟨i, u, rfl, hi4, hgi, hiv, hgu, hnu⟩ := HAT.out b (List.mem_of_getElem? hbm)
        obtain ⟨g', off, u1, u2, rfl, hg', hq, hc, hu⟩ := HMl.out.bd hbm
        obtain ⟨g2, off2, s1, s2, he, hg2, hq2, hc2, hs⟩ := HG.out.bd hgi
        simp only [Option.some.injEq, Addr.mk.injEq, and_true] at he
        obtain ⟨rfl, rfl⟩ := he
        obtain ⟨d0, d1, d2, d3, d4⟩ := hc wr HWr.out
        have HU := Lib.hid (hu.at.kept HWr.out)
        have HSU := Lib.hid (hs.at.kept HWr.out)
        have HGB := Lib.hid hc2
        have HUG := Lib.hid (And.intro hgu hnu)
        have HIV := Lib.hid hiv
        have HG2 := Lib.hid hg2
        clear hbm hq hc hu hq2 hc2 hs hgi hgu hnu hiv hg2
        go_upto_region 12 with (fail)
        have HBX := Lib.hid (at_box_of wr #[.int .i64 (i : Int), .int .i64 u.kind, .int .i64 u.num, .string u.name, .slice u1 u.args.length u2] 47 wr.heap.size rfl)
        have hal : Below wr.heap.size wr (wr.alloc (.cells #[.int .i64 (i : Int), .int .i64 u.kind, .int .i64 u.num, .string u.name, .slice u1 u.args.length u2] 47)) := belowAlloc (Below.refl _ _) _
        have HW8 := Lib.hid (belowOn HWr.out (Nat.le_refl _) hal)
        have HU8 := Lib.hid (HU.out.kept hal)
        have HSU8 := Lib.hid (HSU.out.kept hal)
        clear hal d0 d1 d2 d3 d4 HWr HU HSU
        generalize hw8 : wr.alloc (.cells #[.int .i64 (i : Int), .int .i64 u.kind, .int .i64 u.num, .string u.name, .slice u1 u.args.length u2] 47) = w8 at HBX HW8 HU8 HSU8 ⊢
        clear hw8
        generalize wr.heap.size = nb at HBX ⊢
        have hself : Below w8.heap.size w8 w8 := Below.refl _ _
        have hdrew : Below w8.heap.size w8 w8.drew := hself.drew
        have HTR : Hid (∀ a b, Below w8.heap.size w8 a → Below a.heap.size a b → Below w8.heap.size w8 b) := Lib.hid fun a b h1 h2 => belowOn h1 (Nat.le_refl _) h2
        have HCB : Hid (∀ W, Below w8.heap.size w8 W → (W.cell? ⟨np, 0, none⟩ = some (.int .i64 p.kind) ∧ W.cell? ⟨np, 1, none⟩ = some (.int .i64 p.num) ∧ W.cell? ⟨np, 2, none⟩ = some (.string p.name) ∧ W.cell? ⟨np, 3, none⟩ = some (.slice pa p.args.length pc)) ∧ (W.cell? ⟨nb, 0, none⟩ = some (.int .i64 (i : Int)) ∧ W.cell? ⟨nb, 1, none⟩ = some (.int .i64 u.kind) ∧ W.cell? ⟨nb, 2, none⟩ = some (.int .i64 u.num) ∧ W.cell? ⟨nb, 3, none⟩ = some (.string u.name) ∧ W.cell? ⟨nb, 4, none⟩ = some (.slice u1 u.args.length u2)) ∧ (W.cell? ⟨gb, i * 5 + 1, none⟩ = some (.int .i64 u.kind) ∧ W.cell? ⟨gb, i * 5 + 2, none⟩ = some (.int .i64 u.num) ∧ W.cell? ⟨gb, i * 5 + 3, none⟩ = some (.string u.name) ∧ W.cell? ⟨gb, i * 5 + 4, none⟩ = some (.slice s1 u.args.length s2)) ∧ gb < W.heap.size) := Lib.hid fun W hW => by
          have hB := belowOn HW8.out (Nat.le_refl _) hW
          obtain ⟨y0, y1, y2, y3, y4, _⟩ := box_cells5 (HBX.out.read hW).now
          obtain ⟨z0, z1, z2, z3, z4⟩ := HGB.out W hB
          simp only [Nat.zero_add] at z1 z2 z3 z4
          exact ⟨((HXp.out.read hB)).cells, ⟨y0, y1, y2, y3, y4⟩, ⟨z1, z2, z3, z4⟩, Nat.lt_of_lt_of_le HG2.out hB.size⟩
        have hzu : u.sz ≤ 1048576 := by have h1 := good_sz HUG.out.1; have h2 := HUG.out.2; omega
        have HM1 : Hid (∀ W, Below w8.heap.size w8 W → Calls Try.prog 19 #[.agg #[.int .i64 u.kind, .int .i64 u.num, .string u.name, .slice u1 u.args.length u2], .agg #[.int .i64 u.kind, .int .i64 u.num, .string u.name, .slice s1 u.args.length s2]] W fun e w' => e = .returned (.bool true) ∧ Below W.heap.size W w') := Lib.hid fun W hW => by
          have hc := same_any (u.nodes + 1) u u _ _ W (Nat.lt_succ_self _) (HU8.out.kept hW) (HSU8.out.kept hW) hzu hzu HUG.out.1 HUG.out.1
          rw [show (u.cmp u == 0) = true from by rw [cmp_self]; rfl] at hc
          exact hc
        have HM2 : Hid (∀ W, Below w8.heap.size w8 W → Calls Try.prog 33 #[.int .i64 (i : Int), .agg #[.int .i64 p.kind, .int .i64 p.num, .string p.name, .slice pa p.args.length pc]] W fun e w' => e = .returned (.bool true) ∧ Below W.heap.size W w') := Lib.hid fun W hW => by
          have hc := implOccursIn_any (i : Int) p _ W (HAp.out.kept (belowOn HW8.out (Nat.le_refl _) hW)) hzp
          rw [show occB (i : Int) p = true from by rw [occB, okB_true.2 HOP.out, Bool.true_and]; exact decide_eq_true ((occ_iff HOP.out.2).2 HIV.out)] at hc
          exact hc
        obtain ⟨⟨e0, e1, e2, e3⟩, ⟨b0, b1, b2, b3, b4⟩, ⟨s1', s2', s3', s4'⟩, sg⟩ := HCB.out w8 hself
        have t0 : decide ((i : Int) < 0) = false := decide_eq_false (by omega)
        have t1 : decide ((3 : Int) < (i : Int)) = false := decide_eq_false (by omega)
        have t1n : decide (3 < i) = false := decide_eq_false (by omega)
        have hi0 : (0 : Int) ≤ (i : Int) := by omega
        have hi4I : (i : Int) < 4 := by omega
        go_region_held3 (fun w' => w'.cell? ⟨np, 0, none⟩ = some (.int .i64 p.kind) ∧ w'.cell? ⟨np, 1, none⟩ = some (.int .i64 p.num) ∧ w'.cell? ⟨np, 2, none⟩ = some (.string p.name) ∧ w'.cell? ⟨np, 3, none⟩ = some (.slice pa p.args.length pc) ∧ w'.cell? ⟨nb, 0, none⟩ = some (.int .i64 (i : Int)) ∧ w'.cell? ⟨nb, 1, none⟩ = some (.int .i64 u.kind) ∧ w'.cell? ⟨nb, 2, none⟩ = some (.int .i64 u.num) ∧ w'.cell? ⟨nb, 3, none⟩ = some (.string u.name) ∧ w'.cell? ⟨nb, 4, none⟩ = some (.slice u1 u.args.length u2) ∧ w'.cell? ⟨gb, i * 5 + 1, none⟩ = some (.int .i64 u.kind) ∧ w'.cell? ⟨gb, i * 5 + 2, none⟩ = some (.int .i64 u.num) ∧ w'.cell? ⟨gb, i * 5 + 3, none⟩ = some (.string u.name) ∧ w'.cell? ⟨gb, i * 5 + 4, none⟩ = some (.slice s1 u.args.length s2)) (go_keep)
          (first
          | (go_at_call 19; (with_reducible refine Calls.mono (HM1.out _ ?_) ?_); (assumption); rintro e wX ⟨rfl, hb⟩; have hB' := HTR.out _ _ (by assumption) hb; obtain ⟨⟨k0, k1, k2, k3⟩, ⟨l0, l1, l2, l3, l4⟩, ⟨n1, n2, n3, n4⟩, ng⟩ := HCB.out _ hB'; clear hb)
          | (go_at_call 33; (with_reducible refine Calls.mono (HM2.out _ ?_) ?_); (assumption); rintro e w9 ⟨rfl, hb⟩; have hB' := HTR.out _ _ (by assumption) hb; have HZB := Lib.hid hB'; obtain ⟨⟨k0, k1, k2, k3⟩, ⟨l0, l1, l2, l3, l4⟩, ⟨n1, n2, n3, n4⟩, ng⟩ := HCB.out _ hB'; clear hb))
        all_goals
          have HEND := Lib.hid (belowOn HW8.out (Nat.le_refl _) HZB.out)
          go_wp2
          go_roundw
          case rel => exact ⟨k + 1, by go_num, by omega, HEND⟩
          case measure => simp [intOf]; omega
      · obtain rfl : k = m.length := by omega
        replace HY := Lib.hid (HY.out.kept HWr.out)
        replace HAp := Lib.hid (HAp.out.kept HWr.out)
        replace HAt := Lib.hid (HAt.out.kept HWr.out)
        replace HXp := Lib.hid (HXp.out.read HWr.out)
        replace HXt := Lib.hid (HXt.out.read HWr.out)
        replace HW := Lib.hid (belowOn HW.out (Nat.le_refl _) HWr.out)
        clear HG HWr HMl HAT
        obtain ⟨kt0, kt1, kt2, kt3⟩ := HXt.out.cells
        have zt := HXt.out.le
        go_wp2_with fail
        refine (makeAlikeQ_any (D := SmallA) half_small a len cap 40 t _ 3 _ HY.out hl (by decide) (by decide) (by decide) (closed_good (by decide)) (fun y hy hn => ⟨hy, by have h3 : (y.nodes : Int) ≤ 3 := hn; omega⟩) HPUT.out.1 HAt.out).mono ?_
        rintro e w8 ⟨q, qa, qc, rfl, hq, hlq, hb⟩
        have HAq := Lib.hid hq
        have HQG : Hid (Good q ∧ q.nodes ≤ 63) := Lib.hid ⟨hlq.good (fun d hd => hd.1) HPUT.out.1, by have h1 := hlq.nodes (n := 3) (by decide) (fun d hd => hd.2); have h2 := HPUT.out.2; have h3 := HPS.out.2.2; omega⟩
        replace HAp := Lib.hid (HAp.out.kept hb)
        replace HXp := Lib.hid (HXp.out.read hb)
        replace HW := Lib.hid (belowOn HW.out (Nat.le_refl _) hb)
        clear hb hq hlq kt0 kt1 kt2 kt3 zt HY HAt HXt
        go_upto_region 16 with (fail)
        have hal : Below w8.heap.size w8 (w8.alloc (.cells #[.int .i64 q.kind, .int .i64 q.num, .string q.name, .slice qa q.args.length qc] 27)) := belowAlloc (Below.refl _ _) _
        replace HAp := Lib.hid (HAp.out.kept hal)
        replace HAq := Lib.hid (HAq.out.kept hal)
        replace HXp := Lib.hid (HXp.out.read hal)
        replace HW := Lib.hid (belowOn HW.out (Nat.le_refl _) hal)
        have HXq := Lib.hid (at_box_of w8 #[.int .i64 q.kind, .int .i64 q.num, .string q.name, .slice qa q.args.length qc] 27 w8.heap.size rfl)
        clear hal
        generalize hwx : w8.alloc (.cells #[.int .i64 q.kind, .int .i64 q.num, .string q.name, .slice qa q.args.length qc] 27) = w9 at HAp HAq HXp HXq HW ⊢
        clear hwx
        generalize w8.heap.size = nq at HXq ⊢
        have hzq : q.sz ≤ 1048576 := by have h1 := good_sz HQG.out.1; have h2 := HQG.out.2; omega
        have HC := Lib.hid (implMatchTerm_any p _ q _ w9 HAp.out hzp HAq.out hzq)
        have HBK := Lib.hid (fun h => mt_back (p := p) (q := q) h)
        have HNV : Hid (EachB (mtL p q) ∧ ∀ b ∈ mtL p q, wfI b.v) := Lib.hid (by
          rcases mt_or p q with h | h
          · rw [h]; exact ⟨⟨Nat.zero_le _, fun b hb => by simp at hb⟩, fun b hb => by simp at hb⟩
          · exact values_each (matL_values h.2.2.1 h.2.2.2))
        have HII := Lib.hid (fun W h1 h2 => implIsInstance_any q (.slice qa q.args.length qc) p (.slice pa p.args.length pc) W h1 hzq h2 hzp)
        generalize mtL p q = nl at HC HBK HNV
        generalize mtB p q = nb at HC HBK HII
        obtain ⟨kp0, kp1, kp2, kp3⟩ := HXp.out.cells
        have zp := HXp.out.le
        obtain ⟨kq0, kq1, kq2, kq3⟩ := HXq.out.cells
        have zq := HXq.out.le
        go_wp2_with fail
        refine HC.out.mono ?_
        rintro e w10 ⟨un, rfl, hu, hb⟩
        have HN := Lib.hid hu.inS.any
        replace HAp := Lib.hid (HAp.out.kept hb)
        replace HAq := Lib.hid (HAq.out.kept hb)
        replace HXp := Lib.hid (HXp.out.read hb)
        replace HXq := Lib.hid (HXq.out.read hb)
        replace HW := Lib.hid (belowOn HW.out (Nat.le_refl _) hb)
        clear hb hu HC kp0 kp1 kp2 kp3 zp kq0 kq1 kq2 kq3 zq
        obtain ⟨na, nc, rfl⟩ := HN.out.slice
        have HC := Lib.hid (implInstantiate_e nl _ p _ w10 HN.out HNV.out.1 HNV.out.2 HAp.out hzp)
        generalize instT nl p = x at HC HBK
        generalize instB nl p = two at HC HBK
        obtain ⟨kp0, kp1, kp2, kp3⟩ := HXp.out.cells
        have zp := HXp.out.le
        go_wp2_with fail
        refine HC.out.mono ?_
        rintro e w11 ⟨u, rfl, hn⟩
        obtain ⟨xa, xc, rfl⟩ := hn.1.argsAt.slice
        have hb := hn.2
        have HAx := Lib.hid hn.1.argsAt
        replace HAp := Lib.hid (HAp.out.kept hb)
        replace HAq := Lib.hid (HAq.out.kept hb)
        replace HXp := Lib.hid (HXp.out.read hb)
        replace HXq := Lib.hid (HXq.out.read hb)
        replace HW := Lib.hid (belowOn HW.out (Nat.le_refl _) hb)
        clear hb hn HC kp0 kp1 kp2 kp3 zp HN
        go_upto_region 18 with (fail)
        have hal : Below w11.heap.size w11 (w11.alloc (.cells #[.int .i64 x.kind, .int .i64 x.num, .string x.name, .slice xa x.args.length xc] 27)) := belowAlloc (Below.refl _ _) _
        replace HAp := Lib.hid (HAp.out.kept hal)
        replace HAq := Lib.hid (HAq.out.kept hal)
        replace HAx := Lib.hid (HAx.out.kept hal)
        replace HXp := Lib.hid (HXp.out.read hal)
        replace HXq := Lib.hid (HXq.out.read hal)
        replace HW := Lib.hid (belowOn HW.out (Nat.le_refl _) hal)
        have HXx := Lib.hid (at_box_of w11 #[.int .i64 x.kind, .int .i64 x.num, .string x.name, .slice xa x.args.length xc] 27 w11.heap.size rfl)
        clear hal
        generalize hwx : w11.alloc (.cells #[.int .i64 x.kind, .int .i64 x.num, .string x.name, .slice xa x.args.length xc] 27) = w12 at HAp HAq HAx HXp HXq HXx HW ⊢
        clear hwx
        generalize w11.heap.size = nx at HXx ⊢
        have HC := Lib.hid (implTermVars_any p _ w12 HAp.out hzp)
        obtain ⟨kp0, kp1, kp2, kp3⟩ := HXp.out.cells
        have zp := HXp.out.le
        go_wp2_with fail
        refine HC.out.mono ?_
        rintro e w13 ⟨uv, rfl, hv, hb⟩
        have hvs := hv.shape
        replace HAp := Lib.hid (HAp.out.kept hb)
        replace HAq := Lib.hid (HAq.out.kept hb)
        replace HAx := Lib.hid (HAx.out.kept hb)
        replace HXp := Lib.hid (HXp.out.read hb)
        replace HXq := Lib.hid (HXq.out.read hb)
        replace HXx := Lib.hid (HXx.out.read hb)
        replace HW := Lib.hid (belowOn HW.out (Nat.le_refl _) hb)
        have HVS : Hid (∃ va vc, uv = .slice va m.length vc) := Lib.hid (by
          have h1 : ((varsOf p).map (Value.int .i64)).length = m.length := by rw [List.length_map]; exact HLEN.out.symm
          rcases hv.2 with ⟨h, h2⟩ | ⟨g', cap', cur, he, _⟩
          · exact ⟨none, 0, by rw [h, ← h1, h2]⟩
          · exact ⟨_, cap', by rw [he, h1]⟩)
        obtain ⟨va, vc, rfl⟩ := HVS.out
        clear hb hv hvs HC kp0 kp1 kp2 kp3 zp HVS
        have hmm : ((m.length : Int) == (m.length : Int)) = true := beq_self_eq_true _
        have hmm1 : ((m.length : Nat) == m.length) = true := beq_self_eq_true _
        cases nb with
        | true =>
          obtain ⟨rfl, rfl⟩ := HBK.out (by trivial)
          have HC : Hid (Calls Try.prog 19 #[.agg #[.int .i64 x.kind, .int .i64 x.num, .string x.name, .slice xa x.args.length xc], .agg #[.int .i64 x.kind, .int .i64 x.num, .string x.name, .slice qa x.args.length qc]] w13 fun e w' => e = .returned (.bool true) ∧ Below w13.heap.size w13 w') := Lib.hid (by
            have hc := same_any (x.nodes + 1) x x _ _ w13 (Nat.lt_succ_self _) HAx.out HAq.out hzq hzq HQG.out.1 HQG.out.1
            rw [show (x.cmp x == 0) = true from by rw [cmp_self]; rfl] at hc
            exact hc)
          obtain ⟨kq0, kq1, kq2, kq3⟩ := HXq.out.cells
          have zq := HXq.out.le
          obtain ⟨kx0, kx1, kx2, kx3⟩ := HXx.out.cells
          have zx := HXx.out.le
          go_wp2_with fail
          refine HC.out.mono ?_
          rintro e w14 ⟨rfl, hb⟩
          replace HAp := Lib.hid (HAp.out.kept hb)
          replace HAq := Lib.hid (HAq.out.kept hb)
          replace HXp := Lib.hid (HXp.out.read hb)
          replace HXq := Lib.hid (HXq.out.read hb)
          replace HW := Lib.hid (belowOn HW.out (Nat.le_refl _) hb)
          clear hb HC kq0 kq1 kq2 kq3 zq kx0 kx1 kx2 kx3 zx
          have HC := Lib.hid (HII.out w14 HAq.out HAp.out)
          obtain ⟨kp0, kp1, kp2, kp3⟩ := HXp.out.cells
          have zp := HXp.out.le
          obtain ⟨kq0, kq1, kq2, kq3⟩ := HXq.out.cells
          have zq := HXq.out.le
          go_wp2_with fail
          refine HC.out.mono ?_
          rintro e w15 ⟨rfl, hb⟩
          replace HW := Lib.hid (belowOn HW.out (Nat.le_refl _) hb)
          clear hb HC kp0 kp1 kp2 kp3 zp kq0 kq1 kq2 kq3 zq
          go_wp2
          go_ret
          exact ⟨rfl, HW.out⟩
        | false =>
          have HC := Lib.hid (HII.out w13 HAq.out HAp.out)
          obtain ⟨kp0, kp1, kp2, kp3⟩ := HXp.out.cells
          have zp := HXp.out.le
          obtain ⟨kq0, kq1, kq2, kq3⟩ := HXq.out.cells
          have zq := HXq.out.le
          go_wp2_with fail
          refine HC.out.mono ?_
          rintro e w15 ⟨rfl, hb⟩
          replace HW := Lib.hid (belowOn HW.out (Nat.le_refl _) hb)
          clear hb HC kp0 kp1 kp2 kp3 zp kq0 kq1 kq2 kq3 zq
          go_wp2
          go_ret
          exact ⟨rfl, HW.out⟩
end Go.Proofs.Ytbbgiefnmihmdaa

