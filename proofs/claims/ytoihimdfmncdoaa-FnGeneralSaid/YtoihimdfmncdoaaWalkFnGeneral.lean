/-
  The law of generalization (FnGeneral), walked over the program's contracts. (Written by wip/tools/gen_walkfngeneral.py.)
-/
import Derived.Test.YtoihimdfmncdoaaDrawG
import Derived.Test.YtoihimdfmncdoaaImplGz
import Derived.Test.YtoihimdfmncdoaaImplCanon
import Derived.Test.YtoihimdfmncdoaaImplVar
import Derived.Test.YtoihimdfmncdoaaGenLaw
import Derived.Test.YtoihimdfmncdoaaListD
namespace Go.Proofs.Ytoihimdfmncdoaa
open Go.RowKit
set_option linter.unusedVariables false
set_option linter.unusedSimpArgs false

theorem args_row {w : World} {g off : Nat} {t : Tm} {V : Value} (hs : g < w.heap.size) (h0 : w.cell? ⟨g, off, none⟩ = some (.int .i64 t.kind)) (h1 : w.cell? ⟨g, off + 1, none⟩ = some (.int .i64 t.num)) (h2 : w.cell? ⟨g, off + 2, none⟩ = some (.string t.name)) (h3 : w.cell? ⟨g, off + 3, none⟩ = some V) (hV : ArgsAt w V t.args) (cap : Nat) : ArgsAt w (.slice (some ⟨g, off, none⟩) 1 cap) [t] := by
  refine .row g off 1 cap (fun _ => V) [t] rfl hs (fun j x hx i u hi => ?_) (fun j x hx => ?_)
  · match j, hx with
    | 0, hx =>
      simp at hx
      subst hx
      match i, hi with
      | 0, hi => simp [cells4] at hi; subst hi; simpa using h0
      | 1, hi => simp [cells4] at hi; subst hi; simpa using h1
      | 2, hi => simp [cells4] at hi; subst hi; simpa using h2
      | 3, hi => simp [cells4] at hi; subst hi; simpa using h3
      | i + 4, hi => simp [cells4] at hi
  · match j, hx with
    | 0, hx =>
      simp at hx
      subst hx
      exact hV
theorem args_three {w : World} {g : Nat} {x y z : Tm} {Vx Vy Vz : Value} (hs : g < w.heap.size)
    (a0 : w.cell? ⟨g, 0, none⟩ = some (.int .i64 x.kind)) (a1 : w.cell? ⟨g, 1, none⟩ = some (.int .i64 x.num)) (a2 : w.cell? ⟨g, 2, none⟩ = some (.string x.name)) (a3 : w.cell? ⟨g, 3, none⟩ = some Vx)
    (b0 : w.cell? ⟨g, 4, none⟩ = some (.int .i64 y.kind)) (b1 : w.cell? ⟨g, 5, none⟩ = some (.int .i64 y.num)) (b2 : w.cell? ⟨g, 6, none⟩ = some (.string y.name)) (b3 : w.cell? ⟨g, 7, none⟩ = some Vy)
    (d0 : w.cell? ⟨g, 8, none⟩ = some (.int .i64 z.kind)) (d1 : w.cell? ⟨g, 9, none⟩ = some (.int .i64 z.num)) (d2 : w.cell? ⟨g, 10, none⟩ = some (.string z.name)) (d3 : w.cell? ⟨g, 11, none⟩ = some Vz)
    (hx : ArgsAt w Vx x.args) (hy : ArgsAt w Vy y.args) (hz : ArgsAt w Vz z.args) : ArgsAt w (.slice (some ⟨g, 0, none⟩) 3 3) [x, y, z] := by
  refine .row g 0 3 3 (fun j => if j = 0 then Vx else if j = 1 then Vy else Vz) [x, y, z] rfl hs (fun j t ht i u hi => ?_) (fun j t ht => ?_)
  · match j, ht with
    | 0, ht =>
      simp at ht
      subst ht
      match i, hi with
      | 0, hi => simp [cells4] at hi; subst hi; simpa using a0
      | 1, hi => simp [cells4] at hi; subst hi; simpa using a1
      | 2, hi => simp [cells4] at hi; subst hi; simpa using a2
      | 3, hi => simp [cells4] at hi; subst hi; simpa using a3
      | i + 4, hi => simp [cells4] at hi
    | 1, ht =>
      simp at ht
      subst ht
      match i, hi with
      | 0, hi => simp [cells4] at hi; subst hi; simpa using b0
      | 1, hi => simp [cells4] at hi; subst hi; simpa using b1
      | 2, hi => simp [cells4] at hi; subst hi; simpa using b2
      | 3, hi => simp [cells4] at hi; subst hi; simpa using b3
      | i + 4, hi => simp [cells4] at hi
    | 2, ht =>
      simp at ht
      subst ht
      match i, hi with
      | 0, hi => simp [cells4] at hi; subst hi; simpa using d0
      | 1, hi => simp [cells4] at hi; subst hi; simpa using d1
      | 2, hi => simp [cells4] at hi; subst hi; simpa using d2
      | 3, hi => simp [cells4] at hi; subst hi; simpa using d3
      | i + 4, hi => simp [cells4] at hi
    | j + 3, ht => simp at ht
  · match j, ht with
    | 0, ht => simp at ht; subst ht; exact hx
    | 1, ht => simp at ht; subst ht; exact hy
    | 2, ht => simp at ht; subst ht; exact hz
    | j + 3, ht => simp at ht

/-- A term that values make of another one. -/
def Inst (p t : Tm) : Prop := Good t ∧ t.nodes ≤ 21 ∧ ∃ θ, evT θ p = t
theorem Inst.sz {p t : Tm} (h : Inst p t) : t.sz ≤ 1048576 := by have h1 := good_sz h.1; have h2 := h.2.1; omega
theorem Inst.ok {p t : Tm} (h : Inst p t) : Ok t := ⟨by have := h.2.1; omega, h.1⟩

theorem box_put {W0 W WA w' : World} {o : Obj} {B : Nat} (hB : W.heap.size = B) (h0 : Below W0.heap.size W0 W) (h1 : Below (W.alloc o).heap.size (W.alloc o) WA) (hb : Below WA.heap.size WA w') : (w'.heap[B]? = some o ∧ W0.heap.size ≤ B) ∧ B < WA.heap.size := by
  subst hB
  have e : (W.alloc o).heap.size = W.heap.size + 1 := by simp
  have h2 := h1.size
  exact ⟨⟨(hb.block _ (by omega)).trans ((h1.block _ (by omega)).trans (heap_new W o)), h0.size⟩, by omega⟩
theorem Inst.sz3 {p t : Tm} (h : Inst p t) : t.sz ≤ 200000 := by have h1 := good_sz h.1; have h2 := h.2.1; omega
theorem args_four {w : World} {g : Nat} {e : TypeId} {x y z : Tm} {Vx Vy Vz : Value}
    (h : w.heap[g]? = some (.cells #[.int .i64 z.kind, .int .i64 z.num, .string z.name, Vz, .int .i64 x.kind, .int .i64 x.num, .string x.name, Vx, .int .i64 y.kind, .int .i64 y.num, .string y.name, Vy, .int .i64 x.kind, .int .i64 x.num, .string x.name, Vx] e))
    (hx : ArgsAt w Vx x.args) (hy : ArgsAt w Vy y.args) (hz : ArgsAt w Vz z.args) : ArgsAt w (.slice (some ⟨g, 0, none⟩) 4 4) [z, x, y, x] := by
  have hs : g < w.heap.size := (Array.getElem?_eq_some_iff.1 h).1
  have q0 : w.cell? ⟨g, 0, none⟩ = some (.int .i64 z.kind) := cell_of_row w g 0 _ _ _ h
  have q1 : w.cell? ⟨g, 1, none⟩ = some (.int .i64 z.num) := cell_of_row w g 1 _ _ _ h
  have q2 : w.cell? ⟨g, 2, none⟩ = some (.string z.name) := cell_of_row w g 2 _ _ _ h
  have q3 : w.cell? ⟨g, 3, none⟩ = some (Vz) := cell_of_row w g 3 _ _ _ h
  have q4 : w.cell? ⟨g, 4, none⟩ = some (.int .i64 x.kind) := cell_of_row w g 4 _ _ _ h
  have q5 : w.cell? ⟨g, 5, none⟩ = some (.int .i64 x.num) := cell_of_row w g 5 _ _ _ h
  have q6 : w.cell? ⟨g, 6, none⟩ = some (.string x.name) := cell_of_row w g 6 _ _ _ h
  have q7 : w.cell? ⟨g, 7, none⟩ = some (Vx) := cell_of_row w g 7 _ _ _ h
  have q8 : w.cell? ⟨g, 8, none⟩ = some (.int .i64 y.kind) := cell_of_row w g 8 _ _ _ h
  have q9 : w.cell? ⟨g, 9, none⟩ = some (.int .i64 y.num) := cell_of_row w g 9 _ _ _ h
  have q10 : w.cell? ⟨g, 10, none⟩ = some (.string y.name) := cell_of_row w g 10 _ _ _ h
  have q11 : w.cell? ⟨g, 11, none⟩ = some (Vy) := cell_of_row w g 11 _ _ _ h
  have q12 : w.cell? ⟨g, 12, none⟩ = some (.int .i64 x.kind) := cell_of_row w g 12 _ _ _ h
  have q13 : w.cell? ⟨g, 13, none⟩ = some (.int .i64 x.num) := cell_of_row w g 13 _ _ _ h
  have q14 : w.cell? ⟨g, 14, none⟩ = some (.string x.name) := cell_of_row w g 14 _ _ _ h
  have q15 : w.cell? ⟨g, 15, none⟩ = some (Vx) := cell_of_row w g 15 _ _ _ h
  clear h
  refine .row g 0 4 4 (fun j => if j = 0 then Vz else if j = 1 then Vx else if j = 2 then Vy else Vx) [z, x, y, x] rfl hs (fun j t ht i u hi => ?_) (fun j t ht => ?_)
  · match j, ht with
    | 0, ht =>
      simp at ht
      subst ht
      match i, hi with
      | 0, hi => simp [cells4] at hi; subst hi; simpa using q0
      | 1, hi => simp [cells4] at hi; subst hi; simpa using q1
      | 2, hi => simp [cells4] at hi; subst hi; simpa using q2
      | 3, hi => simp [cells4] at hi; subst hi; simpa using q3
      | i + 4, hi => simp [cells4] at hi
    | 1, ht =>
      simp at ht
      subst ht
      match i, hi with
      | 0, hi => simp [cells4] at hi; subst hi; simpa using q4
      | 1, hi => simp [cells4] at hi; subst hi; simpa using q5
      | 2, hi => simp [cells4] at hi; subst hi; simpa using q6
      | 3, hi => simp [cells4] at hi; subst hi; simpa using q7
      | i + 4, hi => simp [cells4] at hi
    | 2, ht =>
      simp at ht
      subst ht
      match i, hi with
      | 0, hi => simp [cells4] at hi; subst hi; simpa using q8
      | 1, hi => simp [cells4] at hi; subst hi; simpa using q9
      | 2, hi => simp [cells4] at hi; subst hi; simpa using q10
      | 3, hi => simp [cells4] at hi; subst hi; simpa using q11
      | i + 4, hi => simp [cells4] at hi
    | 3, ht =>
      simp at ht
      subst ht
      match i, hi with
      | 0, hi => simp [cells4] at hi; subst hi; simpa using q12
      | 1, hi => simp [cells4] at hi; subst hi; simpa using q13
      | 2, hi => simp [cells4] at hi; subst hi; simpa using q14
      | 3, hi => simp [cells4] at hi; subst hi; simpa using q15
      | i + 4, hi => simp [cells4] at hi
    | j + 4, ht => simp at ht
  · match j, ht with
    | 0, ht => simp at ht; subst ht; exact hz
    | 1, ht => simp at ht; subst ht; exact hx
    | 2, ht => simp at ht; subst ht; exact hy
    | 3, ht => simp at ht; subst ht; exact hx
    | j + 4, ht => simp at ht
/-- What the law asks of the three generalizations. -/
theorem gen_facts {p x1 x2 x3 : Tm} (hp : Good p) (hn : p.nodes ≤ 7) (h1 : Inst p x1) (h2 : Inst p x2) (h3 : Inst p x3) :
    ∃ g y, (gzT [x1, x2, x3] = g ∧ gzB [x1, x2, x3] = true) ∧ (gzT [x3, x1, x2, x1] = g ∧ gzB [x3, x1, x2, x1] = true) ∧ (gzT [x3] = y ∧ gzB [x3] = true) ∧
      (Ok g ∧ g.nodes ≤ 21 ∧ cnL [g] = [g]) ∧ (∀ x ∈ [x1, x2, x3], mtB g x = true) ∧ mtB p g = true ∧ (Ok y ∧ y.nodes ≤ 21) ∧ varB y x3 = true := by
  have hz : GzOk [x1, x2, x3] := gz_yes2 ⟨by simp, by simp⟩ fun t ht => by
    simp only [List.mem_cons, List.not_mem_nil, or_false] at ht
    rcases ht with rfl | rfl | rfl
    · exact h1.ok
    · exact h2.ok
    · exact h3.ok
  have hz4 : GzOk [x3, x1, x2, x1] := gz_yes2 ⟨by simp, by simp⟩ fun t ht => by
    simp only [List.mem_cons, List.not_mem_nil, or_false] at ht
    rcases ht with rfl | rfl | rfl | rfl
    · exact h3.ok
    · exact h1.ok
    · exact h2.ok
    · exact h1.ok
  have hz1 : GzOk [x3] := gz_yes2 ⟨by simp, by simp⟩ fun t ht => by
    simp only [List.mem_cons, List.not_mem_nil, or_false] at ht
    rw [ht]; exact h3.ok
  have hg := gz_ok [x1, x2, x3]
  have hgn : (gzT [x1, x2, x3]).nodes ≤ 21 := Nat.le_trans (gz_nodes hz (t := x1) (by simp)) h1.2.1
  have hy := gz_ok [x3]
  have hyn : (gzT [x3]).nodes ≤ 21 := Nat.le_trans (gz_nodes hz1 (t := x3) (by simp)) h3.2.1
  obtain ⟨v1, v2⟩ := gz_one hz1
  refine ⟨_, _, ⟨rfl, (gz_yes hz).2⟩, ⟨gz_turn hz hz4, (gz_yes hz4).2⟩, ⟨rfl, (gz_yes hz1).2⟩, ⟨hg, hgn, ?_⟩, fun x hx => ?_, ?_, ⟨hy, hyn⟩, ?_⟩
  · rw [cn_one hg, gz_can hz]
  · refine mtB_of hg ?_ (by omega) (gz_inst hz hx)
    exact okB_true.1 (List.all_eq_true.1 hz.2 x hx)
  · obtain ⟨t1, e1⟩ := h1.2.2
    obtain ⟨t2, e2⟩ := h2.2.2
    obtain ⟨t3, e3⟩ := h3.2.2
    exact mtB_of ⟨by omega, hp⟩ hg (by omega) (gz_most hp t1 [t2, t3] (by rw [← e1, ← e2, ← e3]; rfl) hz)
  · unfold varB
    rw [(matB_iff hy.2).2 v1, (matB_iff h3.1).2 v2]
    rfl

set_option maxRecDepth 100000 in
set_option maxHeartbeats 32000000 in
theorem walkFnGeneral (w : World) (a : Option Addr) (len cap : Nat) (zs : List Int) (hrow : ByteRow w a len cap zs) :
    Calls Try.prog 3 #[.slice a len cap] w fun e w' => e = .returned (.bool true) ∧ Below w.heap.size w w' := by
  obtain ⟨hby, hmx⟩ := hrow.bytes
  clear hrow
  unfold maxLen at hmx
  have HY := Lib.hid hby
  clear hby
  by_cases h : 1048576 < (len : Int)
  · go_enter Try.func3, Try.ntmps3
    go_wp2
    go_ret
    exact ⟨rfl, Below.refl _ _⟩
  have hl : len ≤ 1048576 := by omega
  go_enter Try.func3, Try.ntmps3
  go_wp2_with fail
  refine (makeTermB_any half_small a len cap 0 10 3 _ HY.out hl (by decide) (by decide) (by decide) (by decide) (by decide) (closed_gv (by decide))).mono ?_
  rintro e w1 ⟨p, pa, pc, rfl, hp, hgp, hnp, hb⟩
  clear h hmx
  have HW := Lib.hid hb
  replace HY := Lib.hid (HY.out.kept hb)
  have HAp := Lib.hid hp
  have HPS : Hid (Good p ∧ (∀ v ∈ p.vl, v < ((3 : Nat) : Int)) ∧ p.nodes ≤ 7) := Lib.hid ⟨hgp.1, hgp.2, by have h3 : (p.nodes : Int) ≤ 7 := hnp; omega⟩
  clear hb hp hgp hnp
  go_upto_region 4 with (fail)
  have hal : Below w1.heap.size w1 (w1.alloc (.cells #[.int .i64 p.kind, .int .i64 p.num, .string p.name, .slice pa p.args.length pc] 25)) := belowAlloc (Below.refl _ _) _
  replace HY := Lib.hid (HY.out.kept hal)
  replace HAp := Lib.hid (HAp.out.kept hal)
  replace HW := Lib.hid (belowOn HW.out (Nat.le_refl _) hal)
  have HXp := Lib.hid (at_box_of w1 #[.int .i64 p.kind, .int .i64 p.num, .string p.name, .slice pa p.args.length pc] 25 w1.heap.size rfl)
  clear hal
  generalize hwx : w1.alloc (.cells #[.int .i64 p.kind, .int .i64 p.num, .string p.name, .slice pa p.args.length pc] 25) = w2 at HY HAp HXp HW ⊢
  clear hwx
  generalize w1.heap.size = np at HXp ⊢
  have hzp : p.sz ≤ 1048576 := by have h1 := good_sz HPS.out.1; have h2 := HPS.out.2.2; omega
  have hself : Below w2.heap.size w2 w2 := Below.refl _ _
  have hdrew : Below w2.heap.size w2 w2.drew := hself.drew
  have HTR : Hid (∀ a b, Below w2.heap.size w2 a → Below a.heap.size a b → Below w2.heap.size w2 b) := Lib.hid fun a b h1 h2 => belowOn h1 (Nat.le_refl _) h2
  have HCB : Hid (∀ W, Below w2.heap.size w2 W → W.cell? ⟨np, 0, none⟩ = some (.int .i64 p.kind) ∧ W.cell? ⟨np, 1, none⟩ = some (.int .i64 p.num) ∧ W.cell? ⟨np, 2, none⟩ = some (.string p.name) ∧ W.cell? ⟨np, 3, none⟩ = some (.slice pa p.args.length pc)) := Lib.hid fun W hW => (HXp.out.read hW).cells
  have HM1 : Hid (∀ W, Below w2.heap.size w2 W → Calls Try.prog 12 #[.slice a len cap, .int .i64 20, .int .i64 3] W (MadeGr 3 W)) := Lib.hid fun W hW => makeGround_any a len cap 20 3 W (HY.out.kept hW) hl (by decide) (by decide)
  have HM2 : Hid (∀ W, Below w2.heap.size w2 W → Calls Try.prog 12 #[.slice a len cap, .int .i64 40, .int .i64 3] W (MadeGr 3 W)) := Lib.hid fun W hW => makeGround_any a len cap 40 3 W (HY.out.kept hW) hl (by decide) (by decide)
  have HM3 : Hid (∀ W, Below w2.heap.size w2 W → Calls Try.prog 12 #[.slice a len cap, .int .i64 60, .int .i64 2] W (MadeGr 2 W)) := Lib.hid fun W hW => makeGround_any a len cap 60 2 W (HY.out.kept hW) hl (by decide) (by decide)
  have HMV : Hid (∀ W (n : Nat) (gl : List Bd) (V : Value), Below w2.heap.size w2 W → n ≤ 8 → GroundP n gl → ListS bdE W Any V gl → Calls Try.prog 11 #[.agg #[.int .i64 p.kind, .int .i64 p.num, .string p.name, .slice pa p.args.length pc], V] W fun e w' => ∃ (t : Tm) (x : Option Addr) (c : Nat), e = .returned (.agg #[.int .i64 t.kind, .int .i64 t.num, .string t.name, .slice x t.args.length c]) ∧ Inst p t ∧ ArgsAt w' (.slice x t.args.length c) t.args ∧ Below W.heap.size W w') := Lib.hid fun W n gl V hW hn hg hL => by
    have hput := ground_put hg HPS.out.1
    have h2 := HPS.out.2.2
    have h3 := good_sz hput.1
    refine (makeValue_any gl p V _ W (by have := hg.1; omega) hL (HAp.out.kept hW) hzp HPS.out.1 (by omega)).mono ?_
    rintro e w' ⟨x, c, he, hA, hB⟩
    exact ⟨putT gl p, x, c, he, ⟨hput.1, by omega, _, (put_ev HPS.out.1).symm⟩, hA.at, hB⟩
  obtain ⟨k0, k1, k2, k3⟩ := HCB.out w2 hself
  go_region_held3 (fun w' => w'.cell? ⟨np, 0, none⟩ = some (.int .i64 p.kind) ∧ w'.cell? ⟨np, 1, none⟩ = some (.int .i64 p.num) ∧ w'.cell? ⟨np, 2, none⟩ = some (.string p.name) ∧ w'.cell? ⟨np, 3, none⟩ = some (.slice pa p.args.length pc)) (go_keep)
    (first
    | (go_at_call 12; (with_reducible refine Calls.mono (HM1.out _ ?_) ?_); (assumption); rintro e wA ⟨g1, v1, rfl, hL1, hG1, hb1⟩; have HL1 := Lib.hid hL1; have HG1 := Lib.hid hG1; have hB1 := HTR.out _ _ (by assumption) hb1; clear k0 k1 k2 k3; obtain ⟨k0, k1, k2, k3⟩ := HCB.out _ hB1; clear hL1 hG1 hb1)
    | (go_at_call 12; (with_reducible refine Calls.mono (HM2.out _ ?_) ?_); (assumption); rintro e wC ⟨g2, v2, rfl, hL2, hG2, hb2⟩; have HL2 := Lib.hid hL2; have HG2 := Lib.hid hG2; replace HA1 := Lib.hid (HA1.out.kept hb2); have hB3 := HTR.out _ _ (by assumption) hb2; clear k0 k1 k2 k3; obtain ⟨k0, k1, k2, k3⟩ := HCB.out _ hB3; clear hL2 hG2 hb2)
    | (go_at_call 12; (with_reducible refine Calls.mono (HM3.out _ ?_) ?_); (assumption); rintro e wE ⟨g3, v3, rfl, hL3, hG3, hb3⟩; have HL3 := Lib.hid hL3; have HG3 := Lib.hid hG3; replace HA1 := Lib.hid (HA1.out.kept hb3); replace HA2 := Lib.hid (HA2.out.kept hb3); have hB5 := HTR.out _ _ (by assumption) hb3; clear k0 k1 k2 k3; obtain ⟨k0, k1, k2, k3⟩ := HCB.out _ hB5; clear hL3 hG3 hb3)
    | (go_at_call 11; (with_reducible refine Calls.mono (HMV.out _ _ _ _ ?_ (by decide) HG1.out HL1.out) ?_); (assumption); rintro e wB ⟨x1, a1, c1, rfl, hI1, hA1, hb4⟩; have HI1 := Lib.hid hI1; have HA1 := Lib.hid hA1; have hB2 := HTR.out _ _ (by assumption) hb4; clear k0 k1 k2 k3; obtain ⟨k0, k1, k2, k3⟩ := HCB.out _ hB2; clear hI1 hA1 hb4)
    | (go_at_call 11; (with_reducible refine Calls.mono (HMV.out _ _ _ _ ?_ (by decide) HG2.out HL2.out) ?_); (assumption); rintro e wD ⟨x2, a2, c2, rfl, hI2, hA2, hb5⟩; have HI2 := Lib.hid hI2; have HA2 := Lib.hid hA2; replace HA1 := Lib.hid (HA1.out.kept hb5); have hB4 := HTR.out _ _ (by assumption) hb5; clear k0 k1 k2 k3; obtain ⟨k0, k1, k2, k3⟩ := HCB.out _ hB4; clear hI2 hA2 hb5)
    | (go_at_call 11; (with_reducible refine Calls.mono (HMV.out _ _ _ _ ?_ (by decide) HG3.out HL3.out) ?_); (assumption); rintro e wF ⟨x3, a3, c3, rfl, hI3, hA3, hb6⟩; have HI3 := Lib.hid hI3; have HA3 := Lib.hid hA3; replace HA1 := Lib.hid (HA1.out.kept hb6); replace HA2 := Lib.hid (HA2.out.kept hb6); have hB6 := HTR.out _ _ (by assumption) hb6; clear k0 k1 k2 k3; obtain ⟨k0, k1, k2, k3⟩ := HCB.out _ hB6; clear hI3 hA3 hb6))
  have hal : Below wF.heap.size wF (wF.alloc (.cells #[.int .i64 x1.kind, .int .i64 x1.num, .string x1.name, .slice a1 x1.args.length c1, .int .i64 x2.kind, .int .i64 x2.num, .string x2.name, .slice a2 x2.args.length c2, .int .i64 x3.kind, .int .i64 x3.num, .string x3.name, .slice a3 x3.args.length c3] 25)) := belowAlloc (Below.refl _ _) _
  replace HA1 := Lib.hid (HA1.out.kept hal)
  replace HA2 := Lib.hid (HA2.out.kept hal)
  replace HA3 := Lib.hid (HA3.out.kept hal)
  replace HAp := Lib.hid ((HAp.out.kept hB6).kept hal)
  replace HXp := Lib.hid ((HXp.out.read hB6).read hal)
  replace HW := Lib.hid (belowOn (belowOn HW.out (Nat.le_refl _) hB6) (Nat.le_refl _) hal)
  have HXr := Lib.hid (at_box_of wF #[.int .i64 x1.kind, .int .i64 x1.num, .string x1.name, .slice a1 x1.args.length c1, .int .i64 x2.kind, .int .i64 x2.num, .string x2.name, .slice a2 x2.args.length c2, .int .i64 x3.kind, .int .i64 x3.num, .string x3.name, .slice a3 x3.args.length c3] 25 wF.heap.size rfl)
  clear hal HM1 HM2 HM3 HMV HCB HTR hself hdrew k0 k1 k2 k3 HY hB1 hB2 hB3 hB4 hB5 hB6 HG1 HG2 HG3 HL1 HL2 HL3
  rename_i hheld
  clear hheld
  generalize hwx : wF.alloc (.cells #[.int .i64 x1.kind, .int .i64 x1.num, .string x1.name, .slice a1 x1.args.length c1, .int .i64 x2.kind, .int .i64 x2.num, .string x2.name, .slice a2 x2.args.length c2, .int .i64 x3.kind, .int .i64 x3.num, .string x3.name, .slice a3 x3.args.length c3] 25) = w3 at HA1 HA2 HA3 HAp HXp HXr HW ⊢
  clear hwx
  generalize wF.heap.size = nl at HXr ⊢
  obtain ⟨g, y, hf1, hf4, hfy, hf⟩ := gen_facts HPS.out.1 HPS.out.2.2 HI1.out HI2.out HI3.out
  have HF := Lib.hid hf
  have HROW : Hid (∀ W, Below w3.heap.size w3 W → (W.cell? ⟨nl, 0, none⟩ = some (.int .i64 x1.kind) ∧ W.cell? ⟨nl, 1, none⟩ = some (.int .i64 x1.num) ∧ W.cell? ⟨nl, 2, none⟩ = some (.string x1.name) ∧ W.cell? ⟨nl, 3, none⟩ = some (.slice a1 x1.args.length c1) ∧ W.cell? ⟨nl, 4, none⟩ = some (.int .i64 x2.kind) ∧ W.cell? ⟨nl, 5, none⟩ = some (.int .i64 x2.num) ∧ W.cell? ⟨nl, 6, none⟩ = some (.string x2.name) ∧ W.cell? ⟨nl, 7, none⟩ = some (.slice a2 x2.args.length c2) ∧ W.cell? ⟨nl, 8, none⟩ = some (.int .i64 x3.kind) ∧ W.cell? ⟨nl, 9, none⟩ = some (.int .i64 x3.num) ∧ W.cell? ⟨nl, 10, none⟩ = some (.string x3.name) ∧ W.cell? ⟨nl, 11, none⟩ = some (.slice a3 x3.args.length c3)) ∧ nl < W.heap.size) := Lib.hid fun W hW => by
    have h := (HXr.out.read hW).now
    exact ⟨⟨cell_of_row W nl 0 _ _ _ h, cell_of_row W nl 1 _ _ _ h, cell_of_row W nl 2 _ _ _ h, cell_of_row W nl 3 _ _ _ h, cell_of_row W nl 4 _ _ _ h, cell_of_row W nl 5 _ _ _ h, cell_of_row W nl 6 _ _ _ h, cell_of_row W nl 7 _ _ _ h, cell_of_row W nl 8 _ _ _ h, cell_of_row W nl 9 _ _ _ h, cell_of_row W nl 10 _ _ _ h, cell_of_row W nl 11 _ _ _ h⟩, (Array.getElem?_eq_some_iff.1 h).1⟩
  have HLST : Hid (∀ W, Below w3.heap.size w3 W → ArgsAt W (.slice (some ⟨nl, 0, none⟩) 3 3) [x1, x2, x3]) := Lib.hid fun W hW => by
    obtain ⟨⟨r0, r1, r2, r3, r4, r5, r6, r7, r8, r9, r10, r11⟩, hs⟩ := HROW.out W hW
    exact args_three hs r0 r1 r2 r3 r4 r5 r6 r7 r8 r9 r10 r11 (HA1.out.kept hW) (HA2.out.kept hW) (HA3.out.kept hW)
  have hsz : szL [x1, x2, x3] ≤ 1048576 ∧ szL [x3, x1, x2, x1] ≤ 1048576 ∧ szL [x3] ≤ 1048576 := by
    have s1 := HI1.out.sz3
    have s2 := HI2.out.sz3
    have s3 := HI3.out.sz3
    simp only [szL]
    omega
  have hI := implGeneralize_any [x1, x2, x3] _ w3 (HLST.out w3 (Below.refl _ _)) hsz.1
  rw [hf1.1, hf1.2] at hI
  have HC := Lib.hid hI
  clear hI
  go_wp2_with fail
  refine HC.out.mono ?_
  rintro e w4 ⟨u, rfl, hn⟩
  obtain ⟨ga, gc, rfl⟩ := hn.1.argsAt.slice
  have hb := hn.2
  have HAg := Lib.hid hn.1.argsAt
  replace HAp := Lib.hid (HAp.out.kept hb)
  replace HXp := Lib.hid (HXp.out.read hb)
  replace HW := Lib.hid (belowOn HW.out (Nat.le_refl _) hb)
  have HB3 := Lib.hid hb
  clear hb hn HC
  go_upto_region 6 with (fail)
  have hal : Below w4.heap.size w4 (w4.alloc (.cells #[.int .i64 g.kind, .int .i64 g.num, .string g.name, .slice ga g.args.length gc] 25)) := belowAlloc (Below.refl _ _) _
  replace HAp := Lib.hid (HAp.out.kept hal)
  replace HAg := Lib.hid (HAg.out.kept hal)
  replace HXp := Lib.hid (HXp.out.read hal)
  replace HW := Lib.hid (belowOn HW.out (Nat.le_refl _) hal)
  replace HB3 := Lib.hid (belowOn HB3.out (Nat.le_refl _) hal)
  have HXg := Lib.hid (at_box_of w4 #[.int .i64 g.kind, .int .i64 g.num, .string g.name, .slice ga g.args.length gc] 25 w4.heap.size rfl)
  clear hal
  generalize hwx : w4.alloc (.cells #[.int .i64 g.kind, .int .i64 g.num, .string g.name, .slice ga g.args.length gc] 25) = w5 at HAp HAg HXp HXg HW HB3 ⊢
  clear hwx
  generalize w4.heap.size = ng at HXg ⊢
  go_cut [7, 8] from 37 (fun pp b wx => Struct2 w5 g true pp b wx)
  case first =>
    have hself : Below w5.heap.size w5 w5 := Below.refl _ _
    have hdrew : Below w5.heap.size w5 w5.drew := hself.drew
    have HTR : Hid (∀ a b, Below w5.heap.size w5 a → Below a.heap.size a b → Below w5.heap.size w5 b) := Lib.hid fun a b h1 h2 => belowOn h1 (Nat.le_refl _) h2
    have HR4 : Hid (∀ W W' B, W.heap.size = B → Below w5.heap.size w5 W → Below (W.alloc (.cells #[.int .i64 x3.kind, .int .i64 x3.num, .string x3.name, .slice a3 x3.args.length c3, .int .i64 x1.kind, .int .i64 x1.num, .string x1.name, .slice a1 x1.args.length c1, .int .i64 x2.kind, .int .i64 x2.num, .string x2.name, .slice a2 x2.args.length c2, .int .i64 x1.kind, .int .i64 x1.num, .string x1.name, .slice a1 x1.args.length c1] 25)).heap.size (W.alloc (.cells #[.int .i64 x3.kind, .int .i64 x3.num, .string x3.name, .slice a3 x3.args.length c3, .int .i64 x1.kind, .int .i64 x1.num, .string x1.name, .slice a1 x1.args.length c1, .int .i64 x2.kind, .int .i64 x2.num, .string x2.name, .slice a2 x2.args.length c2, .int .i64 x1.kind, .int .i64 x1.num, .string x1.name, .slice a1 x1.args.length c1] 25)) W' → ArgsAt W' (.slice (some ⟨B, 0, none⟩) 4 4) [x3, x1, x2, x1]) := Lib.hid fun W W' B hB h1 h2 => by
      subst hB
      have h3 := belowOn (belowOn HB3.out (Nat.le_refl _) h1) (Nat.le_refl _) (belowOn (belowAlloc (Below.refl _ _) _) (Nat.le_refl _) h2)
      exact args_four ((h2.block _ (by simp)).trans (heap_new W _)) (HA1.out.kept h3) (HA2.out.kept h3) (HA3.out.kept h3)
    have HGX : Hid (∀ W V, Below w5.heap.size w5 W → ArgsAt W V [x3, x1, x2, x1] → Calls Try.prog 13 #[V] W (NewTm2 g true W)) := Lib.hid fun W V h1 h2 => by
      have hI := implGeneralize_any [x3, x1, x2, x1] V W h2 hsz.2.1
      rw [hf4.1, hf4.2] at hI
      exact hI
    have HCR : Hid (∀ W, Below w5.heap.size w5 W → (W.cell? ⟨nl, 0, none⟩ = some (.int .i64 x1.kind) ∧ W.cell? ⟨nl, 1, none⟩ = some (.int .i64 x1.num) ∧ W.cell? ⟨nl, 2, none⟩ = some (.string x1.name) ∧ W.cell? ⟨nl, 3, none⟩ = some (.slice a1 x1.args.length c1) ∧ W.cell? ⟨nl, 4, none⟩ = some (.int .i64 x2.kind) ∧ W.cell? ⟨nl, 5, none⟩ = some (.int .i64 x2.num) ∧ W.cell? ⟨nl, 6, none⟩ = some (.string x2.name) ∧ W.cell? ⟨nl, 7, none⟩ = some (.slice a2 x2.args.length c2) ∧ W.cell? ⟨nl, 8, none⟩ = some (.int .i64 x3.kind) ∧ W.cell? ⟨nl, 9, none⟩ = some (.int .i64 x3.num) ∧ W.cell? ⟨nl, 10, none⟩ = some (.string x3.name) ∧ W.cell? ⟨nl, 11, none⟩ = some (.slice a3 x3.args.length c3)) ∧ nl < W.heap.size) := Lib.hid fun W hW => HROW.out W (belowOn HB3.out (Nat.le_refl _) hW)
    obtain ⟨⟨r0, r1, r2, r3, r4, r5, r6, r7, r8, r9, r10, r11⟩, hs⟩ := HCR.out w5 hself
    have n1 : ¬ nl = w5.heap.size := by omega
    have n2 : ¬ w5.heap.size = nl := by omega
    have n3 : ¬ nl = w5.heap.size + 1 := by omega
    have n4 : ¬ w5.heap.size + 1 = nl := by omega
    clear HW HAp HAg HXp HXg HB3 HROW HLST HXr HA1 HA2 HA3
    go_region_held3 (fun w' => w'.cell? ⟨nl, 0, none⟩ = some (.int .i64 x1.kind) ∧ w'.cell? ⟨nl, 1, none⟩ = some (.int .i64 x1.num) ∧ w'.cell? ⟨nl, 2, none⟩ = some (.string x1.name) ∧ w'.cell? ⟨nl, 3, none⟩ = some (.slice a1 x1.args.length c1) ∧ w'.cell? ⟨nl, 4, none⟩ = some (.int .i64 x2.kind) ∧ w'.cell? ⟨nl, 5, none⟩ = some (.int .i64 x2.num) ∧ w'.cell? ⟨nl, 6, none⟩ = some (.string x2.name) ∧ w'.cell? ⟨nl, 7, none⟩ = some (.slice a2 x2.args.length c2) ∧ w'.cell? ⟨nl, 8, none⟩ = some (.int .i64 x3.kind) ∧ w'.cell? ⟨nl, 9, none⟩ = some (.int .i64 x3.num) ∧ w'.cell? ⟨nl, 10, none⟩ = some (.string x3.name) ∧ w'.cell? ⟨nl, 11, none⟩ = some (.slice a3 x3.args.length c3)) (go_keep)
      (first
        | (go_at_call 13; (with_reducible refine Calls.mono (HGX.out _ _ ?_ ?_) ?_); (first | assumption | exact belowAlloc (by assumption) _ | exact (belowAlloc (by assumption) _).drew | exact belowAlloc (belowAlloc (by assumption) _) _ | exact (belowAlloc (belowAlloc (by assumption) _) _).drew | (trace_state; fail)); (first | exact HR4.out w5 _ _ rfl (by assumption) (Below.refl _ _).drew | exact HR4.out w5 _ _ rfl (by assumption) (Below.refl _ _) | exact HR4.out w5 _ _ rfl (by assumption) (belowAlloc (Below.refl _ _) _) | exact HR4.out w5 _ _ rfl (by assumption) (belowAlloc (Below.refl _ _) _).drew | exact HR4.out (w5.alloc _) _ _ (by simp) (belowAlloc (by assumption) _) (Below.refl _ _) | exact HR4.out (w5.alloc _) _ _ (by simp) (belowAlloc (by assumption) _) (Below.refl _ _).drew | (trace_state; fail)); rintro e w6 ⟨u, rfl, hn⟩; have hnb := hn.2; (first | (with_reducible have HBX := Lib.hid (box_put (o := .cells #[.int .i64 0, .int .i64 0, .string ⟨#[]⟩, .slice none 0 0] 25) (W0 := w5) (B := w5.heap.size + 1) (by simp) (belowAlloc (by assumption) _) (Below.refl _ _) hnb)) | (with_reducible have HBX := Lib.hid (box_put (o := .cells #[.int .i64 0, .int .i64 0, .string ⟨#[]⟩, .slice none 0 0] 25) (W0 := w5) (B := w5.heap.size + 1) (by simp) (belowAlloc (by assumption) _) (Below.refl _ _).drew hnb)) | (with_reducible have HBX := Lib.hid (box_put (o := .cells #[.int .i64 0, .int .i64 0, .string ⟨#[]⟩, .slice none 0 0] 25) (W0 := w5) (B := w5.heap.size) rfl (by assumption) (belowAlloc (Below.refl _ _) _) hnb)) | (with_reducible have HBX := Lib.hid (box_put (o := .cells #[.int .i64 0, .int .i64 0, .string ⟨#[]⟩, .slice none 0 0] 25) (W0 := w5) (B := w5.heap.size) rfl (by assumption) (belowAlloc (Below.refl _ _) _).drew hnb)) | (with_reducible have HBX := Lib.hid (box_put (o := .cells #[.int .i64 0, .int .i64 0, .string ⟨#[]⟩, .slice none 0 0] 25) (W0 := w5) (B := w5.heap.size) rfl (by assumption) (belowAlloc (Below.refl _ _).drew _) hnb)) | (with_reducible have HBX := Lib.hid (box_put (o := .cells #[.int .i64 0, .int .i64 0, .string ⟨#[]⟩, .slice none 0 0] 25) (W0 := w5) (B := w5.heap.size + 1) (by simp) (belowAlloc (by assumption) _).drew (Below.refl _ _) hnb)) | skip); obtain ⟨xa, xc, rfl⟩ := hn.1.argsAt.slice; have hS := HTR.out _ _ (by first | assumption | exact belowAlloc (by assumption) _ | exact (belowAlloc (by assumption) _).drew | exact belowAlloc (belowAlloc (by assumption) _) _ | exact (belowAlloc (belowAlloc (by assumption) _) _).drew) hn.2; have HUS := Lib.hid hn.1.inS; clear hn hnb r0 r1 r2 r3 r4 r5 r6 r7 r8 r9 r10 r11; obtain ⟨⟨r0, r1, r2, r3, r4, r5, r6, r7, r8, r9, r10, r11⟩, hs⟩ := HCR.out _ hS; have n5 : ¬ nl = w6.heap.size := (by omega); have n6 : ¬ w6.heap.size = nl := (by omega); (first | (have hq9 := box_cells HBX.out.1.1; obtain ⟨q0, q1, q2, q3, qf⟩ := hq9) | skip)))
    all_goals (go_wp2_with fail; go_meet; first | (with_reducible exact struct2_late HUS.out hS) | (with_reducible exact struct2_early HBX.out.1 HBX.out.2 HUS.out hS) | trace_state)
  case rest =>
    obtain ⟨nx, xa, xc, rfl, rfl, hbx, hlo, hu, hb⟩ := hcut
    obtain ⟨w6, rfl⟩ : ∃ x : World, x = wc := ⟨_, rfl⟩
    replace HAp := Lib.hid (HAp.out.kept hb)
    replace HAg := Lib.hid (HAg.out.kept hb)
    have HAx := Lib.hid hu
    replace HXp := Lib.hid (HXp.out.read hb)
    replace HXg := Lib.hid (HXg.out.read hb)
    have HXx := Lib.hid (at_box_in hbx)
    replace HW := Lib.hid (belowOn HW.out (Nat.le_refl _) hb)
    replace HB3 := Lib.hid (belowOn HB3.out (Nat.le_refl _) hb)
    clear hb hbx hlo hu
    have hA1 : ArgsAt w6 (.slice (some ⟨nl, 8, none⟩) 1 1) [x3] := by
      obtain ⟨⟨r0, r1, r2, r3, r4, r5, r6, r7, r8, r9, r10, r11⟩, hs⟩ := HROW.out w6 HB3.out
      exact args_row hs r8 r9 r10 r11 (HA3.out.kept HB3.out) 1
    have hI := implGeneralize_any [x3] _ w6 hA1 hsz.2.2
    rw [hfy.1, hfy.2] at hI
    have HC := Lib.hid hI
    clear hI hA1
    go_wp2_with fail
    refine HC.out.mono ?_
    rintro e w7 ⟨u, rfl, hn⟩
    obtain ⟨ya, yc, rfl⟩ := hn.1.argsAt.slice
    have hb := hn.2
    have HAy := Lib.hid hn.1.argsAt
    replace HAp := Lib.hid (HAp.out.kept hb)
    replace HAg := Lib.hid (HAg.out.kept hb)
    replace HAx := Lib.hid (HAx.out.kept hb)
    replace HXp := Lib.hid (HXp.out.read hb)
    replace HXg := Lib.hid (HXg.out.read hb)
    replace HXx := Lib.hid (HXx.out.read hb)
    replace HW := Lib.hid (belowOn HW.out (Nat.le_refl _) hb)
    replace HB3 := Lib.hid (belowOn HB3.out (Nat.le_refl _) hb)
    clear hb hn HC
    go_upto_region 8 with (fail)
    have hal : Below w7.heap.size w7 (w7.alloc (.cells #[.int .i64 y.kind, .int .i64 y.num, .string y.name, .slice ya y.args.length yc] 25)) := belowAlloc (Below.refl _ _) _
    replace HAp := Lib.hid (HAp.out.kept hal)
    replace HAg := Lib.hid (HAg.out.kept hal)
    replace HAx := Lib.hid (HAx.out.kept hal)
    replace HAy := Lib.hid (HAy.out.kept hal)
    replace HXp := Lib.hid (HXp.out.read hal)
    replace HXg := Lib.hid (HXg.out.read hal)
    replace HXx := Lib.hid (HXx.out.read hal)
    replace HW := Lib.hid (belowOn HW.out (Nat.le_refl _) hal)
    replace HB3 := Lib.hid (belowOn HB3.out (Nat.le_refl _) hal)
    have HXy := Lib.hid (at_box_of w7 #[.int .i64 y.kind, .int .i64 y.num, .string y.name, .slice ya y.args.length yc] 25 w7.heap.size rfl)
    clear hal
    generalize hwx : w7.alloc (.cells #[.int .i64 y.kind, .int .i64 y.num, .string y.name, .slice ya y.args.length yc] 25) = w8 at HAp HAg HAx HAy HXp HXg HXx HXy HW HB3 ⊢
    clear hwx
    generalize w7.heap.size = ny at HXy ⊢
    have hzg : g.sz ≤ 1048576 := by have h1 := good_sz HF.out.1.1.2; have h2 := HF.out.1.2.1; omega
    have hzy : y.sz ≤ 1048576 := by have h1 := good_sz HF.out.2.2.2.1.1.2; have h2 := HF.out.2.2.2.1.2; omega
    have hzx3 : x3.sz ≤ 1048576 := HI3.out.sz
    have hself : Below w8.heap.size w8 w8 := Below.refl _ _
    have hdrew : Below w8.heap.size w8 w8.drew := hself.drew
    have HTR : Hid (∀ a b, Below w8.heap.size w8 a → Below a.heap.size a b → Below w8.heap.size w8 b) := Lib.hid fun a b h1 h2 => belowOn h1 (Nat.le_refl _) h2
    have HCB : Hid (∀ W, Below w8.heap.size w8 W → (W.cell? ⟨ng, 0, none⟩ = some (.int .i64 g.kind) ∧ W.cell? ⟨ng, 1, none⟩ = some (.int .i64 g.num) ∧ W.cell? ⟨ng, 2, none⟩ = some (.string g.name) ∧ W.cell? ⟨ng, 3, none⟩ = some (.slice ga g.args.length gc)) ∧ (W.cell? ⟨nx, 0, none⟩ = some (.int .i64 g.kind) ∧ W.cell? ⟨nx, 1, none⟩ = some (.int .i64 g.num) ∧ W.cell? ⟨nx, 2, none⟩ = some (.string g.name) ∧ W.cell? ⟨nx, 3, none⟩ = some (.slice xa g.args.length xc)) ∧ (W.cell? ⟨ny, 0, none⟩ = some (.int .i64 y.kind) ∧ W.cell? ⟨ny, 1, none⟩ = some (.int .i64 y.num) ∧ W.cell? ⟨ny, 2, none⟩ = some (.string y.name) ∧ W.cell? ⟨ny, 3, none⟩ = some (.slice ya y.args.length yc)) ∧ (W.cell? ⟨np, 0, none⟩ = some (.int .i64 p.kind) ∧ W.cell? ⟨np, 1, none⟩ = some (.int .i64 p.num) ∧ W.cell? ⟨np, 2, none⟩ = some (.string p.name) ∧ W.cell? ⟨np, 3, none⟩ = some (.slice pa p.args.length pc)) ∧ (W.cell? ⟨nl, 0, none⟩ = some (.int .i64 x1.kind) ∧ W.cell? ⟨nl, 1, none⟩ = some (.int .i64 x1.num) ∧ W.cell? ⟨nl, 2, none⟩ = some (.string x1.name) ∧ W.cell? ⟨nl, 3, none⟩ = some (.slice a1 x1.args.length c1) ∧ W.cell? ⟨nl, 4, none⟩ = some (.int .i64 x2.kind) ∧ W.cell? ⟨nl, 5, none⟩ = some (.int .i64 x2.num) ∧ W.cell? ⟨nl, 6, none⟩ = some (.string x2.name) ∧ W.cell? ⟨nl, 7, none⟩ = some (.slice a2 x2.args.length c2) ∧ W.cell? ⟨nl, 8, none⟩ = some (.int .i64 x3.kind) ∧ W.cell? ⟨nl, 9, none⟩ = some (.int .i64 x3.num) ∧ W.cell? ⟨nl, 10, none⟩ = some (.string x3.name) ∧ W.cell? ⟨nl, 11, none⟩ = some (.slice a3 x3.args.length c3)) ∧ nl < W.heap.size) := Lib.hid fun W hW => ⟨(HXg.out.read hW).cells, (HXx.out.read hW).cells, (HXy.out.read hW).cells, (HXp.out.read hW).cells, HROW.out W (belowOn HB3.out (Nat.le_refl _) hW)⟩
    have HM1 : Hid (∀ W, Below w8.heap.size w8 W → Calls Try.prog 14 #[.agg #[.int .i64 g.kind, .int .i64 g.num, .string g.name, .slice ga g.args.length gc], .agg #[.int .i64 g.kind, .int .i64 g.num, .string g.name, .slice xa g.args.length xc]] W fun e w' => e = .returned (.bool true) ∧ Below W.heap.size W w') := Lib.hid fun W hW => by
      have hc := same_any (g.nodes + 1) g g _ _ W (Nat.lt_succ_self _) (HAg.out.kept hW) (HAx.out.kept hW) hzg hzg HF.out.1.1.2 HF.out.1.1.2
      rw [show (g.cmp g == 0) = true from by rw [cmp_self]; rfl] at hc
      exact hc
    have HM2 : Hid (∀ W, Below w8.heap.size w8 W → Calls Try.prog 15 #[.agg #[.int .i64 y.kind, .int .i64 y.num, .string y.name, .slice ya y.args.length yc], .agg #[.int .i64 x3.kind, .int .i64 x3.num, .string x3.name, .slice a3 x3.args.length c3]] W fun e w' => e = .returned (.bool true) ∧ Below W.heap.size W w') := Lib.hid fun W hW => by
      have h4 := HF.out.2.2.2
      have hc := implIsVariant_any y x3 _ _ W (HAy.out.kept hW) hzy (HA3.out.kept (belowOn HB3.out (Nat.le_refl _) hW)) hzx3 h4.1.1 HI3.out.ok (by have := h4.1.2; omega) (by have := HI3.out.2.1; omega)
      rw [h4.2] at hc
      exact hc
    have HM3 : Hid (∀ W, Below w8.heap.size w8 W → Calls Try.prog 16 #[.agg #[.int .i64 g.kind, .int .i64 g.num, .string g.name, .slice ga g.args.length gc], .agg #[.int .i64 p.kind, .int .i64 p.num, .string p.name, .slice pa p.args.length pc]] W fun e w' => e = .returned (.bool true) ∧ Below W.heap.size W w') := Lib.hid fun W hW => by
      have hc := implIsInstance_any g _ p _ W (HAg.out.kept hW) hzg (HAp.out.kept hW) hzp
      rw [HF.out.2.2.1] at hc
      exact hc
    go_cut [88] from 59 (fun b wx => b = .bool false ∧ Below w8.heap.size w8 wx)
    case first =>
      obtain ⟨⟨g0, g1', g2', g3'⟩, ⟨h0, h1, h2, h3⟩, ⟨y0, y1, y2, y3⟩, ⟨k0, k1, k2, k3⟩, ⟨r0, r1, r2, r3, r4, r5, r6, r7, r8, r9, r10, r11⟩, hs⟩ := HCB.out w8 hself
      clear HW HB3 HXp HXg HXx HXy HAp HAg HAx HAy HROW HLST HXr HA1 HA2 HA3 HF
      go_region_held3 (fun w' => (w'.cell? ⟨ng, 0, none⟩ = some (.int .i64 g.kind) ∧ w'.cell? ⟨ng, 1, none⟩ = some (.int .i64 g.num) ∧ w'.cell? ⟨ng, 2, none⟩ = some (.string g.name) ∧ w'.cell? ⟨ng, 3, none⟩ = some (.slice ga g.args.length gc)) ∧ (w'.cell? ⟨nx, 0, none⟩ = some (.int .i64 g.kind) ∧ w'.cell? ⟨nx, 1, none⟩ = some (.int .i64 g.num) ∧ w'.cell? ⟨nx, 2, none⟩ = some (.string g.name) ∧ w'.cell? ⟨nx, 3, none⟩ = some (.slice xa g.args.length xc)) ∧ (w'.cell? ⟨ny, 0, none⟩ = some (.int .i64 y.kind) ∧ w'.cell? ⟨ny, 1, none⟩ = some (.int .i64 y.num) ∧ w'.cell? ⟨ny, 2, none⟩ = some (.string y.name) ∧ w'.cell? ⟨ny, 3, none⟩ = some (.slice ya y.args.length yc)) ∧ (w'.cell? ⟨np, 0, none⟩ = some (.int .i64 p.kind) ∧ w'.cell? ⟨np, 1, none⟩ = some (.int .i64 p.num) ∧ w'.cell? ⟨np, 2, none⟩ = some (.string p.name) ∧ w'.cell? ⟨np, 3, none⟩ = some (.slice pa p.args.length pc)) ∧ w'.cell? ⟨nl, 0, none⟩ = some (.int .i64 x1.kind) ∧ w'.cell? ⟨nl, 1, none⟩ = some (.int .i64 x1.num) ∧ w'.cell? ⟨nl, 2, none⟩ = some (.string x1.name) ∧ w'.cell? ⟨nl, 3, none⟩ = some (.slice a1 x1.args.length c1) ∧ w'.cell? ⟨nl, 4, none⟩ = some (.int .i64 x2.kind) ∧ w'.cell? ⟨nl, 5, none⟩ = some (.int .i64 x2.num) ∧ w'.cell? ⟨nl, 6, none⟩ = some (.string x2.name) ∧ w'.cell? ⟨nl, 7, none⟩ = some (.slice a2 x2.args.length c2) ∧ w'.cell? ⟨nl, 8, none⟩ = some (.int .i64 x3.kind) ∧ w'.cell? ⟨nl, 9, none⟩ = some (.int .i64 x3.num) ∧ w'.cell? ⟨nl, 10, none⟩ = some (.string x3.name) ∧ w'.cell? ⟨nl, 11, none⟩ = some (.slice a3 x3.args.length c3)) (go_keep)
        (first
        | (go_at_call 14; (with_reducible refine Calls.mono (HM1.out _ ?_) ?_); (first | assumption | exact Below.drew (by assumption)); rintro e wG ⟨rfl, hb⟩; have hB' := HTR.out _ _ (by first | assumption | exact Below.drew (by assumption)) hb; clear g0 g1' g2' g3' h0 h1 h2 h3 y0 y1 y2 y3 k0 k1 k2 k3 hs r0 r1 r2 r3 r4 r5 r6 r7 r8 r9 r10 r11; obtain ⟨⟨g0, g1', g2', g3'⟩, ⟨h0, h1, h2, h3⟩, ⟨y0, y1, y2, y3⟩, ⟨k0, k1, k2, k3⟩, ⟨r0, r1, r2, r3, r4, r5, r6, r7, r8, r9, r10, r11⟩, hs⟩ := HCB.out _ hB')
        | (go_at_call 15; (with_reducible refine Calls.mono (HM2.out _ ?_) ?_); (first | assumption | exact Below.drew (by assumption)); rintro e wH ⟨rfl, hb⟩; have hB' := HTR.out _ _ (by first | assumption | exact Below.drew (by assumption)) hb; clear g0 g1' g2' g3' h0 h1 h2 h3 y0 y1 y2 y3 k0 k1 k2 k3 hs r0 r1 r2 r3 r4 r5 r6 r7 r8 r9 r10 r11; obtain ⟨⟨g0, g1', g2', g3'⟩, ⟨h0, h1, h2, h3⟩, ⟨y0, y1, y2, y3⟩, ⟨k0, k1, k2, k3⟩, ⟨r0, r1, r2, r3, r4, r5, r6, r7, r8, r9, r10, r11⟩, hs⟩ := HCB.out _ hB')
        | (go_at_call 16; (with_reducible refine Calls.mono (HM3.out _ ?_) ?_); (first | assumption | exact Below.drew (by assumption)); rintro e wI ⟨rfl, hb⟩; have hB' := HTR.out _ _ (by first | assumption | exact Below.drew (by assumption)) hb; clear g0 g1' g2' g3' h0 h1 h2 h3 y0 y1 y2 y3 k0 k1 k2 k3 hs r0 r1 r2 r3 r4 r5 r6 r7 r8 r9 r10 r11; obtain ⟨⟨g0, g1', g2', g3'⟩, ⟨h0, h1, h2, h3⟩, ⟨y0, y1, y2, y3⟩, ⟨k0, k1, k2, k3⟩, ⟨r0, r1, r2, r3, r4, r5, r6, r7, r8, r9, r10, r11⟩, hs⟩ := HCB.out _ hB'))
      all_goals (go_wp2_with fail; go_meet; first | exact ⟨rfl, by assumption⟩ | trace_state)
    case rest =>
      obtain ⟨rfl, hb⟩ := hcut
      obtain ⟨w9, rfl⟩ : ∃ x : World, x = wc := ⟨_, rfl⟩
      replace HAg := Lib.hid (HAg.out.kept hb)
      replace HXg := Lib.hid (HXg.out.read hb)
      replace HW := Lib.hid (belowOn HW.out (Nat.le_refl _) hb)
      replace HB3 := Lib.hid (belowOn HB3.out (Nat.le_refl _) hb)
      clear hb HM1 HM2 HM3 HCB HTR hself hdrew HAp HAx HAy HXp HXx HXy
      have HL := Lib.hid (HLST.out w9 HB3.out)
      have HIX : Hid (∀ x ∈ [x1, x2, x3], mtB g x = true ∧ x.sz ≤ 1048576) := Lib.hid fun x hx => by
        refine ⟨HF.out.2.1 x hx, ?_⟩
        simp only [List.mem_cons, List.not_mem_nil, or_false] at hx
        rcases hx with rfl | rfl | rfl
        · exact HI1.out.sz
        · exact HI2.out.sz
        · exact HI3.out.sz
      have hl3 : [x1, x2, x3].length = 3 := rfl
      generalize [x1, x2, x3] = lx at HL HIX hl3
      go_wp2
      go_loopw [91] (fun iv wr => ∃ (k : Nat), iv = .int .i64 k ∧ k ≤ 3 ∧ Hid (Below w9.heap.size w9 wr)) (fun iv _ => 3 - (intOf iv).toNat)
      case atStart => exact ⟨0, rfl, Nat.zero_le _, Lib.hid (Below.refl _ _)⟩
      case round =>
        obtain ⟨k, rfl, hk, HWr⟩ := hrel
        by_cases hlt : k < 3
        · have hltI : (k : Int) < 3 := by omega
          obtain ⟨t, ht⟩ : ∃ x, lx[k]? = some x := ⟨_, List.getElem?_eq_getElem (by omega)⟩
          obtain ⟨gb, off, u1, u2, hva, hgb, hle, hc, hax⟩ := HL.out.elem ht
          simp only [Option.some.injEq, Addr.mk.injEq, and_true] at hva
          obtain ⟨rfl, rfl⟩ := hva
          obtain ⟨hm, hzt⟩ := HIX.out t (List.mem_of_getElem? ht)
          obtain ⟨d0, d1, d2, d3⟩ := hc wr HWr.out
          simp only [Nat.zero_add] at d0 d1 d2 d3
          have HAT := Lib.hid (hax.kept HWr.out)
          have hns : nl < wr.heap.size := Nat.lt_of_lt_of_le hgb HWr.out.size
          clear ht hgb hc hax hle hf hf1 hf4 hfy hsz hl3
          go_upto_region 13 with (fail)
          have hal : Below wr.heap.size wr (wr.alloc (.cells #[.int .i64 t.kind, .int .i64 t.num, .string t.name, .slice u1 t.args.length u2] 25)) := belowAlloc (Below.refl _ _) _
          have HXt := Lib.hid (at_box_of wr #[.int .i64 t.kind, .int .i64 t.num, .string t.name, .slice u1 t.args.length u2] 25 wr.heap.size rfl)
          have HWA := Lib.hid (belowOn HWr.out (Nat.le_refl _) hal)
          replace HAT := Lib.hid (HAT.out.kept hal)
          clear hal d0 d1 d2 d3 HWr hns
          generalize hwx : wr.alloc (.cells #[.int .i64 t.kind, .int .i64 t.num, .string t.name, .slice u1 t.args.length u2] 25) = wt at HXt HWA HAT ⊢
          clear hwx
          generalize wr.heap.size = nt at HXt ⊢
          have hI := implIsInstance_any t _ g _ wt HAT.out hzt (HAg.out.kept HWA.out) hzg
          rw [hm] at hI
          have HC := Lib.hid hI
          clear hI hm
          obtain ⟨g0, g1', g2', g3'⟩ := (HXg.out.read HWA.out).cells
          obtain ⟨h0, h1, h2, h3⟩ := HXt.out.cells
          have zg := (HXg.out.read HWA.out).le
          have zt := HXt.out.le
          go_wp2_with fail
          refine HC.out.mono ?_
          rintro e wu ⟨rfl, hb⟩
          have HEND := Lib.hid (belowOn HWA.out (Nat.le_refl _) hb)
          clear hb HC g0 g1' g2' g3' h0 h1 h2 h3 zg zt
          go_wp2
          go_roundw
          case rel => exact ⟨k + 1, by go_num, by omega, HEND⟩
          case measure => simp [intOf]; omega
        · have hltI : ¬ (k : Int) < 3 := by omega
          clear hf hf1 hf4 hfy hsz hl3
          go_upto_region 16 with (fail)
          replace HAg := Lib.hid (HAg.out.kept HWr.out)
          replace HXg := Lib.hid (HXg.out.read HWr.out)
          replace HW := Lib.hid (belowOn HW.out (Nat.le_refl _) HWr.out)
          have hself : Below wr.heap.size wr wr := Below.refl _ _
          have HTR : Hid (∀ a b, Below wr.heap.size wr a → Below a.heap.size a b → Below wr.heap.size wr b) := Lib.hid fun a b h1 h2 => belowOn h1 (Nat.le_refl _) h2
          have HCB : Hid (∀ W, Below wr.heap.size wr W → W.cell? ⟨ng, 0, none⟩ = some (.int .i64 g.kind) ∧ W.cell? ⟨ng, 1, none⟩ = some (.int .i64 g.num) ∧ W.cell? ⟨ng, 2, none⟩ = some (.string g.name) ∧ W.cell? ⟨ng, 3, none⟩ = some (.slice ga g.args.length gc)) := Lib.hid fun W hW => (HXg.out.read hW).cells
          have HONE : Hid (∀ W W' B, W.heap.size = B → Below wr.heap.size wr W → Below (W.alloc (.cells #[.int .i64 g.kind, .int .i64 g.num, .string g.name, .slice ga g.args.length gc] 25)).heap.size (W.alloc (.cells #[.int .i64 g.kind, .int .i64 g.num, .string g.name, .slice ga g.args.length gc] 25)) W' → ArgsAt W' (.slice (some ⟨B, 0, none⟩) 1 1) [g]) := Lib.hid fun W W' B hB h1 h2 => by
            subst hB
            have h := (h2.block _ (by simp)).trans (heap_new W _)
            exact args_row (Array.getElem?_eq_some_iff.1 h).1 (cell_of_row W' _ 0 _ _ _ h) (cell_of_row W' _ 1 _ _ _ h) (cell_of_row W' _ 2 _ _ _ h) (cell_of_row W' _ 3 _ _ _ h) (HAg.out.kept (belowOn h1 (Nat.le_refl _) (belowOn (belowAlloc (Below.refl _ _) _) (Nat.le_refl _) h2))) 1
          have HCAN : Hid (∀ W V, Below wr.heap.size wr W → ArgsAt W V [g] → Calls Try.prog 18 #[V] W fun e w' => ∃ u, e = .returned u ∧ ArgsAt w' u [g] ∧ Below W.heap.size W w') := Lib.hid fun W V _ hV => by
            have hc := implCanonical_any [g] V W hV (by simp only [szL]; have := good_sz HF.out.1.1.2; have := HF.out.1.2.1; omega)
            rw [HF.out.1.2.2] at hc
            refine hc.mono ?_
            rintro e w' ⟨u, he, hu, hb⟩
            exact ⟨u, he, hu.argsAt, hb⟩
          have HLI : Hid (∀ W V1 V2, Below wr.heap.size wr W → ArgsAt W V1 [g] → ArgsAt W V2 [g] → Calls Try.prog 17 #[V1, V2] W fun e w' => e = .returned (.bool true) ∧ Below W.heap.size W w') := Lib.hid fun W V1 V2 _ h1 h2 => by
            have hE : EachT [g] := eachT_of (by simp only [szL]; have := good_sz HF.out.1.1.2; have := HF.out.1.2.1; omega)
            have hG : ∀ x ∈ [g], Good x := fun x hx => by rw [List.mem_singleton.1 hx]; exact HF.out.1.1.2
            have hc := listD_any [g] [g] V1 V2 W h1 h2 hG hG hE hE
            rw [listB_self] at hc
            exact hc
          obtain ⟨k0, k1, k2, k3⟩ := HCB.out wr hself
          clear HWr HAg HXg HB3 HROW HLST HXr HA1 HA2 HA3 HL HIX
          go_region_held3 (fun w' => w'.cell? ⟨ng, 0, none⟩ = some (.int .i64 g.kind) ∧ w'.cell? ⟨ng, 1, none⟩ = some (.int .i64 g.num) ∧ w'.cell? ⟨ng, 2, none⟩ = some (.string g.name) ∧ w'.cell? ⟨ng, 3, none⟩ = some (.slice ga g.args.length gc)) (go_keep)
            (first
            | (go_at_call 18; (with_reducible refine Calls.mono (HCAN.out _ _ ?_ ?_) ?_); (first | assumption | exact Below.drew (by assumption) | exact belowAlloc (by assumption) _ | exact (belowAlloc (by assumption) _).drew | exact belowAlloc (belowAlloc (by assumption) _) _ | exact (belowAlloc (belowAlloc (by assumption) _) _).drew); (first | exact HONE.out wr _ _ rfl (by assumption) (Below.refl _ _) | exact HONE.out wr _ _ rfl (by assumption) (Below.refl _ _).drew | exact HONE.out wr _ _ rfl (by assumption) (belowAlloc (Below.refl _ _) _) | exact HONE.out wr _ _ rfl (by assumption) (belowAlloc (Below.refl _ _) _).drew | exact HONE.out (wr.alloc _) _ _ (by simp) (belowAlloc (by assumption) _) (Below.refl _ _) | exact HONE.out (wr.alloc _) _ _ (by simp) (belowAlloc (by assumption) _) (Below.refl _ _).drew | exact HONE.out (wr.alloc _) _ _ (by simp) (belowAlloc (by assumption) _) (belowAlloc (Below.refl _ _) _) | exact HONE.out (wr.alloc _) _ _ (by simp) (belowAlloc (by assumption) _) (belowAlloc (Below.refl _ _) _).drew); rintro e wU ⟨u, rfl, hu, hbU⟩; have HUU := Lib.hid hu; have hB' := HTR.out _ _ (by first | assumption | exact Below.drew (by assumption) | exact belowAlloc (by assumption) _ | exact (belowAlloc (by assumption) _).drew | exact belowAlloc (belowAlloc (by assumption) _) _ | exact (belowAlloc (belowAlloc (by assumption) _) _).drew) hbU; clear hu k0 k1 k2 k3; obtain ⟨k0, k1, k2, k3⟩ := HCB.out _ hB')
            | (go_at_call 17; (with_reducible refine Calls.mono (HLI.out _ _ _ ?_ ?_ ?_) ?_); (first | assumption | exact Below.drew (by assumption) | exact belowAlloc (by assumption) _ | exact (belowAlloc (by assumption) _).drew | exact belowAlloc (belowAlloc (by assumption) _) _ | exact (belowAlloc (belowAlloc (by assumption) _) _).drew); (first | exact HUU.out | exact HUU.out.kept (Below.refl _ _).drew | exact HUU.out.kept (belowAlloc (Below.refl _ _) _) | exact HUU.out.kept (belowAlloc (Below.refl _ _) _).drew); (first | exact HONE.out wU _ _ rfl (by assumption) (Below.refl _ _) | exact HONE.out wU _ _ rfl (by assumption) (Below.refl _ _).drew | exact HONE.out wr _ _ rfl (by assumption) (belowOn (Below.refl _ _) (Nat.le_refl _) hbU) | exact HONE.out wr _ _ rfl (by assumption) (belowOn (Below.refl _ _) (Nat.le_refl _) hbU).drew | exact HONE.out wr _ _ rfl (by assumption) (belowOn (Below.refl _ _).drew (Nat.le_refl _) hbU) | exact HONE.out wr _ _ rfl (by assumption) (belowOn (Below.refl _ _).drew (Nat.le_refl _) hbU).drew | exact HONE.out wr _ _ rfl (by assumption) (belowOn (belowAlloc (Below.refl _ _) _) (Nat.le_refl _) hbU) | exact HONE.out wr _ _ rfl (by assumption) (belowOn (belowAlloc (Below.refl _ _) _) (Nat.le_refl _) hbU).drew | exact HONE.out wr _ _ rfl (by assumption) (belowOn (belowAlloc (Below.refl _ _) _).drew (Nat.le_refl _) hbU) | exact HONE.out wr _ _ rfl (by assumption) (belowOn (belowAlloc (Below.refl _ _) _).drew (Nat.le_refl _) hbU).drew | exact HONE.out (wr.alloc _) _ _ (by simp) (belowAlloc (by assumption) _) (belowOn (Below.refl _ _) (Nat.le_refl _) hbU) | exact HONE.out (wr.alloc _) _ _ (by simp) (belowAlloc (by assumption) _) (belowOn (Below.refl _ _) (Nat.le_refl _) hbU).drew | exact HONE.out (wr.alloc _) _ _ (by simp) (belowAlloc (by assumption) _) (belowOn (Below.refl _ _).drew (Nat.le_refl _) hbU) | exact HONE.out (wr.alloc _) _ _ (by simp) (belowAlloc (by assumption) _) (belowOn (Below.refl _ _).drew (Nat.le_refl _) hbU).drew | exact HONE.out (wr.alloc _) _ _ (by simp) (belowAlloc (by assumption) _) (belowOn (belowAlloc (Below.refl _ _) _) (Nat.le_refl _) hbU) | exact HONE.out (wr.alloc _) _ _ (by simp) (belowAlloc (by assumption) _) (belowOn (belowAlloc (Below.refl _ _) _) (Nat.le_refl _) hbU).drew | exact HONE.out (wr.alloc _) _ _ (by simp) (belowAlloc (by assumption) _) (belowOn (belowAlloc (Below.refl _ _) _).drew (Nat.le_refl _) hbU) | exact HONE.out (wr.alloc _) _ _ (by simp) (belowAlloc (by assumption) _) (belowOn (belowAlloc (Below.refl _ _) _).drew (Nat.le_refl _) hbU).drew); rintro e wV ⟨rfl, hb⟩; have hE' := HTR.out _ _ (by first | assumption | exact Below.drew (by assumption) | exact belowAlloc (by assumption) _ | exact (belowAlloc (by assumption) _).drew | exact belowAlloc (belowAlloc (by assumption) _) _ | exact (belowAlloc (belowAlloc (by assumption) _) _).drew) hb; clear hb k0 k1 k2 k3; obtain ⟨k0, k1, k2, k3⟩ := HCB.out _ hE'))
          all_goals
            have HEND := Lib.hid (belowOn HW.out (Nat.le_refl _) hE')
            go_wp2
            go_ret
            exact ⟨rfl, HEND.out⟩
end Go.Proofs.Ytoihimdfmncdoaa

