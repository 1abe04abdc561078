/-
  A variable replaced: plain; the contract of the program's replaced.
-/
import Derived.Test.YtokndpmoamjbfaaCopied
import Derived.Test.YtokndpmoamjbfaaOcc
namespace Go.Proofs.Ytokndpmoamjbfaa
open Go.RowKit
set_option linter.unusedVariables false
set_option linter.unusedSimpArgs false

mutual
def Tm.put : Tm → Int → Tm → Tm | .mk k i s l, v, b => if k = 1 ∧ i = v then b else .mk k i s (putL l v b)
def putL : List Tm → Int → Tm → List Tm | [], _, _ => [] | t :: l, v, b => t.put v b :: putL l v b
end
theorem put_eq (v : Int) (b t : Tm) : t.put v b = if t.kind = 1 ∧ t.num = v then b else .mk t.kind t.num t.name (putL t.args v b) := by cases t; rw [Tm.put]; rfl
theorem put_var {v : Int} {b t : Tm} (h : t.kind = 1 ∧ t.num = v) : t.put v b = b := by rw [put_eq, if_pos h]
theorem put_atom {v : Int} {b t : Tm} (h : ¬ (t.kind = 1 ∧ t.num = v)) (ha : t.args = []) : t.put v b = t := by
  rw [put_eq, if_neg h, ha, putL]
  have := t.eta
  rw [ha] at this
  exact this
theorem put_pair {v : Int} {b t x y : Tm} (h : ¬ (t.kind = 1 ∧ t.num = v)) (ha : t.args = [x, y]) : t.put v b = .mk t.kind t.num t.name [x.put v b, y.put v b] := by
  rw [put_eq, if_neg h, ha, putL, putL, putL]
theorem good_put {v : Int} {b : Tm} (hb : Good b) {t : Tm} (h : Good t) : Good (t.put v b) := by
  induction h with
  | nil => rw [put_atom (by simp [Tm.kind]) rfl]; exact .nil
  | var i h0 h1 =>
    by_cases hv : i = v
    · rw [put_var (t := .mk 1 i ⟨#[]⟩ []) ⟨rfl, hv⟩]; exact hb
    · rw [put_atom (t := .mk 1 i ⟨#[]⟩ []) (fun h => hv h.2) rfl]; exact .var i h0 h1
  | sym s h => rw [put_atom (by simp [Tm.kind]) rfl]; exact .sym s h
  | int i h0 h1 => rw [put_atom (by simp [Tm.kind]) rfl]; exact .int i h0 h1
  | pair x y hx hy ihx ihy => rw [put_pair (by simp [Tm.kind]) rfl]; exact .pair _ _ ihx ihy
theorem nodes_two (k i : Int) (s : ByteArray) (x y : Tm) : (Tm.mk k i s [x, y]).nodes = 1 + x.nodes + y.nodes := by rw [Tm.nodes, nodesL, nodesL, nodesL]; omega
theorem nodes_put {v : Int} {b t : Tm} (h : Good t) : (t.put v b).nodes + t.occ v = t.nodes + t.occ v * b.nodes := by
  induction h with
  | nil => rw [put_atom (by simp [Tm.kind]) rfl, occ_eq, if_neg (by simp [Tm.kind])]; simp [Tm.args, occL]
  | var i h0 h1 =>
    by_cases hv : i = v
    · rw [put_var (t := .mk 1 i ⟨#[]⟩ []) ⟨rfl, hv⟩, occ_eq v (.mk 1 i ⟨#[]⟩ []), if_pos ⟨rfl, hv⟩, Tm.nodes, nodesL]; omega
    · rw [put_atom (t := .mk 1 i ⟨#[]⟩ []) (fun h => hv h.2) rfl, occ_eq v (.mk 1 i ⟨#[]⟩ []), if_neg (fun h => hv h.2)]; simp [Tm.args, occL]
  | sym s h => rw [put_atom (by simp [Tm.kind]) rfl, occ_eq, if_neg (by simp [Tm.kind])]; simp [Tm.args, occL]
  | int i h0 h1 => rw [put_atom (by simp [Tm.kind]) rfl, occ_eq, if_neg (by simp [Tm.kind])]; simp [Tm.args, occL]
  | pair x y hx hy ihx ihy =>
    rw [put_pair (by simp [Tm.kind]) rfl, nodes_two, nodes_two, occ_eq, if_neg (by simp [Tm.kind])]
    show 1 + (x.put v b).nodes + (y.put v b).nodes + occL v [x, y] = 1 + x.nodes + y.nodes + occL v [x, y] * b.nodes
    rw [occL, occL, occL, Nat.add_zero, Nat.add_mul]
    omega

set_option maxRecDepth 100000 in
set_option maxHeartbeats 4000000 in
theorem replaced_any (N : Nat) : ∀ (t b : Tm) (V Vb : Value) (v : Int) (w : World), t.nodes < N → ArgsAt w V t.args → ArgsAt w Vb b.args → t.sz ≤ 1048576 → b.sz ≤ 1048576 → Good t → Good b →
    Calls Try.prog 21 #[.agg #[.int .i64 t.kind, .int .i64 t.num, .string t.name, V], .int .i64 v, .agg #[.int .i64 b.kind, .int .i64 b.num, .string b.name, Vb]] w (NewTm (t.put v b) w) := by
  induction N with
  | zero => intro t b V Vb v w hN; omega
  | succ N ih =>
    intro t b V Vb v w hN hA hB hZ hZb hG hGb
    obtain ⟨aa, ca, rfl⟩ := hA.slice
    obtain ⟨ab, cb, rfl⟩ := hB.slice
    obtain ⟨r, hr⟩ : ∃ r, r = t.put v b := ⟨_, rfl⟩
    rw [← hr]
    have HQ := Lib.hid hr
    have HI := Lib.hid ih
    have HG := Lib.hid hG
    have HGb := Lib.hid hGb
    have HS := Lib.hid (sz_eq t)
    have HNE := Lib.hid (nodes_eq t)
    have HA := Lib.hid (at_args hA)
    have HB := Lib.hid (at_args hB)
    have HW : Hid (Below w.heap.size w w) := Lib.hid (Below.refl _ _)
    clear hA hB ih hG hGb hr
    have hal : Below w.heap.size w (w.alloc (.cells #[.int .i64 t.kind, .int .i64 t.num, .string t.name, .slice aa t.args.length ca] 25)) := (Below.refl _ _).alloc (Nat.le_refl _) _
    replace HA := Lib.hid (HA.out.read hal)
    replace HB := Lib.hid (HB.out.read hal)
    replace HW := Lib.hid (belowOn HW.out (Nat.le_refl _) hal)
    have HX := Lib.hid (at_box_of w #[.int .i64 t.kind, .int .i64 t.num, .string t.name, .slice aa t.args.length ca] 25 (w.heap.size) (by simp))
    clear hal
    have hal : Below (w.alloc (.cells #[.int .i64 t.kind, .int .i64 t.num, .string t.name, .slice aa t.args.length ca] 25)).heap.size (w.alloc (.cells #[.int .i64 t.kind, .int .i64 t.num, .string t.name, .slice aa t.args.length ca] 25)) ((w.alloc (.cells #[.int .i64 t.kind, .int .i64 t.num, .string t.name, .slice aa t.args.length ca] 25)).alloc (.cells #[.int .i64 b.kind, .int .i64 b.num, .string b.name, .slice ab b.args.length cb] 25)) := (Below.refl _ _).alloc (Nat.le_refl _) _
    replace HA := Lib.hid (HA.out.read hal)
    replace HB := Lib.hid (HB.out.read hal)
    replace HX := Lib.hid (HX.out.read hal)
    replace HW := Lib.hid (belowOn HW.out (Nat.le_refl _) hal)
    have HY := Lib.hid (at_box_of (w.alloc (.cells #[.int .i64 t.kind, .int .i64 t.num, .string t.name, .slice aa t.args.length ca] 25)) #[.int .i64 b.kind, .int .i64 b.num, .string b.name, .slice ab b.args.length cb] 25 (w.heap.size + 1) (by simp))
    clear hal
    have hal : Below ((w.alloc (.cells #[.int .i64 t.kind, .int .i64 t.num, .string t.name, .slice aa t.args.length ca] 25)).alloc (.cells #[.int .i64 b.kind, .int .i64 b.num, .string b.name, .slice ab b.args.length cb] 25)).heap.size ((w.alloc (.cells #[.int .i64 t.kind, .int .i64 t.num, .string t.name, .slice aa t.args.length ca] 25)).alloc (.cells #[.int .i64 b.kind, .int .i64 b.num, .string b.name, .slice ab b.args.length cb] 25)) (((w.alloc (.cells #[.int .i64 t.kind, .int .i64 t.num, .string t.name, .slice aa t.args.length ca] 25)).alloc (.cells #[.int .i64 b.kind, .int .i64 b.num, .string b.name, .slice ab b.args.length cb] 25)).alloc (.cells #[.int .i64 0, .int .i64 0, .string ⟨#[]⟩, .slice none 0 0] 25)) := (Below.refl _ _).alloc (Nat.le_refl _) _
    replace HA := Lib.hid (HA.out.read hal)
    replace HB := Lib.hid (HB.out.read hal)
    replace HX := Lib.hid (HX.out.read hal)
    replace HY := Lib.hid (HY.out.read hal)
    replace HW := Lib.hid (belowOn HW.out (Nat.le_refl _) hal)
    have HR := Lib.hid (at_box_of ((w.alloc (.cells #[.int .i64 t.kind, .int .i64 t.num, .string t.name, .slice aa t.args.length ca] 25)).alloc (.cells #[.int .i64 b.kind, .int .i64 b.num, .string b.name, .slice ab b.args.length cb] 25)) #[.int .i64 0, .int .i64 0, .string ⟨#[]⟩, .slice none 0 0] 25 (w.heap.size + 1 + 1) (by simp))
    clear hal
    go_enter Try.func21, Try.ntmps21
    go_upto_region 1 with (fail)
    generalize hw0 : ((w.alloc (.cells #[.int .i64 t.kind, .int .i64 t.num, .string t.name, .slice aa t.args.length ca] 25)).alloc (.cells #[.int .i64 b.kind, .int .i64 b.num, .string b.name, .slice ab b.args.length cb] 25)).alloc (.cells #[.int .i64 0, .int .i64 0, .string ⟨#[]⟩, .slice none 0 0] 25) = w0 at HA HB HX HY HR HW ⊢
    clear hw0
    have HIV := Lib.hid (isVar_any t aa ca v w0)
    obtain ⟨c0a, c0b, c0c, c0d⟩ := HX.out.cells
    have z0 := HX.out.le
    go_wp2_with fail
    refine HIV.out.mono ?_
    rintro e w1 ⟨rfl, hb⟩
    clear c0a c0b c0c c0d z0 HIV
    replace HA := Lib.hid (HA.out.read hb)
    replace HB := Lib.hid (HB.out.read hb)
    replace HX := Lib.hid (HX.out.read hb)
    replace HY := Lib.hid (HY.out.read hb)
    replace HR := Lib.hid (HR.out.read hb)
    replace HW := Lib.hid (belowOn HW.out (Nat.le_refl _) hb)
    clear hb
    by_cases hv : t.kind = 1 ∧ t.num = v
    · have hd : decide (t.kind = 1 ∧ t.num = v) = true := decide_eq_true hv
      rw [hd]
      have HQV : Hid (r = b) := Lib.hid (by rw [HQ.out, put_var hv])
      clear hv hd
      have HC := Lib.hid (copied_any (b.nodes + 1) b _ w1 (by omega) HB.out.argsAt hZb HGb.out)
      obtain ⟨c0a, c0b, c0c, c0d⟩ := HY.out.cells
      have z0 := HY.out.le
      go_wp2_with fail
      refine HC.out.mono ?_
      rintro e w2 ⟨u, rfl, hn⟩
      have HRE := Lib.hid (HR.out.read hn.2).now
      obtain ⟨r0, r1, r2, r3, rf⟩ := box_cells (HR.out.read hn.2).now
      have HRL : Hid (w.heap.size ≤ w.heap.size + 1 + 1 ∧ w.heap.size + 1 + 1 < w1.heap.size) := Lib.hid ⟨by omega, by have := HR.out.le; omega⟩
      obtain ⟨a0, c0, rfl⟩ := hn.1.argsAt.slice
      have HN := Lib.hid hn
      have hl1 := hn.2.size
      have hl2 := HR.out.le
      clear hn c0a c0b c0c c0d HC
      go_wp2
      exact newTm_end' (p := 6) (b := w.heap.size + 1 + 1) (W := w1) (by rw [HQV.out]) (by rw [HQV.out]) (by rw [HQV.out]) rfl rfl rfl Try.underlying25 (by kernel_rfl) HRE.out HW.out HRL.out.1 HRL.out.2 (by rw [HQV.out]; exact HN.out)
    · have hd : decide (t.kind = 1 ∧ t.num = v) = false := decide_eq_false hv
      rw [hd]
      have HV := Lib.hid hv
      clear hv hd
      have HIP := Lib.hid (isPair_any t.kind t.num t.name (.slice aa t.args.length ca) w1)
      obtain ⟨c0a, c0b, c0c, c0d⟩ := HX.out.cells
      have z0 := HX.out.le
      go_wp2_with fail
      refine HIP.out.mono ?_
      rintro e w2 ⟨rfl, hb⟩
      clear c0a c0b c0c c0d z0 HIP
      replace HA := Lib.hid (HA.out.read hb)
      replace HB := Lib.hid (HB.out.read hb)
      replace HX := Lib.hid (HX.out.read hb)
      replace HY := Lib.hid (HY.out.read hb)
      replace HR := Lib.hid (HR.out.read hb)
      replace HW := Lib.hid (belowOn HW.out (Nat.le_refl _) hb)
      clear hb
      by_cases hk : t.kind = 4
      · have hd : decide (t.kind = 4) = true := decide_eq_true hk
        rw [hd]
        obtain ⟨x, y, hxy⟩ := HG.out.fit.pair hk
        obtain ⟨ga, offa, u1, u2, v1, v2, rfl, hga, hla, hcx, hcy, hax, hay⟩ := HA.out.argsAt.two hxy
        have HGA := Lib.hid hga
        have HLA := Lib.hid hla
        have HPA := Lib.hid (And.intro hcx (And.intro hcy (And.intro hax hay)))
        have HGX := Lib.hid ((good_two HG.out.fit hxy).1 HG.out)
        have HNX : Hid (nodesL t.args = x.nodes + y.nodes ∧ szL t.args = 2 + x.sz + y.sz ∧ 1 ≤ x.nodes ∧ 1 ≤ y.nodes) := Lib.hid (by
          rw [hxy]; simp only [nodesL, szL]; have := nodes_pos x; have := nodes_pos y; omega)
        have HF := Lib.hid (pair_fields HG.out hk)
        have HQV : Hid (r.kind = 4 ∧ r.num = 0 ∧ r.name = ⟨#[]⟩ ∧ r.args = [x.put v b, y.put v b]) := Lib.hid (by rw [HQ.out, put_pair HV.out hxy]; exact ⟨hk, HF.out.1, HF.out.2, rfl⟩)
        clear hd hxy hga hla hcx hcy hax hay hk
        have hself : Below w2.heap.size w2 w2 := Below.refl _ _
        have hdrew : Below w2.heap.size w2 w2.drew := hself.drew
        obtain ⟨c0a, c0b, c0c, c0d⟩ := HX.out.cells
        have z0 := HX.out.le
        obtain ⟨c1a, c1b, c1c, c1d⟩ := HY.out.cells
        have z1 := HY.out.le
        have HCE : Hid (∀ W, Below w2.heap.size w2 W → W.cell? ⟨w.heap.size, 0, none⟩ = some (.int .i64 t.kind) ∧ W.cell? ⟨w.heap.size, 1, none⟩ = some (.int .i64 t.num) ∧ W.cell? ⟨w.heap.size, 2, none⟩ = some (.string t.name) ∧ W.cell? ⟨w.heap.size, 3, none⟩ = some (.slice (some ⟨ga, offa, none⟩) t.args.length ca) ∧ W.cell? ⟨w.heap.size + 1, 0, none⟩ = some (.int .i64 b.kind) ∧ W.cell? ⟨w.heap.size + 1, 1, none⟩ = some (.int .i64 b.num) ∧ W.cell? ⟨w.heap.size + 1, 2, none⟩ = some (.string b.name) ∧ W.cell? ⟨w.heap.size + 1, 3, none⟩ = some (.slice ab b.args.length cb)) := Lib.hid fun W hW => by
          obtain ⟨y0a, y0b, y0c, y0d⟩ := (HX.out.read hW).cells
          obtain ⟨y1a, y1b, y1c, y1d⟩ := (HY.out.read hW).cells
          exact ⟨y0a, y0b, y0c, y0d, y1a, y1b, y1c, y1d⟩
        have HTR : Hid (∀ a b, Below w2.heap.size w2 a → Below a.heap.size a b → Below w2.heap.size w2 b) := Lib.hid fun a b h1 h2 => belowOn h1 (Nat.le_refl _) h2
        have HH0 : Hid (∀ W, Below w2.heap.size w2 W → Calls Try.prog 25 #[.agg #[.int .i64 t.kind, .int .i64 t.num, .string t.name, .slice (some ⟨ga, offa, none⟩) t.args.length ca]] W fun e w' => e = .returned (.agg #[.int .i64 x.kind, .int .i64 x.num, .string x.name, .slice u1 x.args.length u2]) ∧ Below W.heap.size W w') := Lib.hid fun W hW => by
          obtain ⟨q0, q1, q2, q3⟩ := HPA.out.1 W hW
          exact head_any t.kind t.num t.name ga offa t.args.length ca _ _ _ _ _ _ W (Nat.lt_of_lt_of_le HGA.out hW.size) (by have := HLA.out; omega) (by have := HLA.out; omega) q0 q1 q2 q3
        have HH1 : Hid (∀ W, Below w2.heap.size w2 W → Calls Try.prog 24 #[.agg #[.int .i64 t.kind, .int .i64 t.num, .string t.name, .slice (some ⟨ga, offa, none⟩) t.args.length ca]] W fun e w' => e = .returned (.agg #[.int .i64 y.kind, .int .i64 y.num, .string y.name, .slice v1 y.args.length v2]) ∧ Below W.heap.size W w') := Lib.hid fun W hW => by
          obtain ⟨q0, q1, q2, q3⟩ := HPA.out.2.1 W hW
          exact tail_any t.kind t.num t.name ga offa t.args.length ca _ _ _ _ _ _ W (Nat.lt_of_lt_of_le HGA.out hW.size) (by have := HLA.out; omega) (by have := HLA.out; omega) q0 q1 q2 q3
        have HC0 : Hid (∀ W, Below w2.heap.size w2 W → Calls Try.prog 21 #[.agg #[.int .i64 x.kind, .int .i64 x.num, .string x.name, .slice u1 x.args.length u2], .int .i64 v, .agg #[.int .i64 b.kind, .int .i64 b.num, .string b.name, .slice ab b.args.length cb]] W (NewTm (x.put v b) W)) := Lib.hid fun W hW => HI.out x b _ _ v W (by have := HNX.out; have := HNE.out; omega) (HPA.out.2.2.1.kept hW) (HB.out.read hW).argsAt (by have := HNX.out; have := HS.out; omega) hZb HGX.out.1 HGb.out
        have HC1 : Hid (∀ W, Below w2.heap.size w2 W → Calls Try.prog 21 #[.agg #[.int .i64 y.kind, .int .i64 y.num, .string y.name, .slice v1 y.args.length v2], .int .i64 v, .agg #[.int .i64 b.kind, .int .i64 b.num, .string b.name, .slice ab b.args.length cb]] W (NewTm (y.put v b) W)) := Lib.hid fun W hW => HI.out y b _ _ v W (by have := HNX.out; have := HNE.out; omega) (HPA.out.2.2.2.kept hW) (HB.out.read hW).argsAt (by have := HNX.out; have := HS.out; omega) hZb HGX.out.2 HGb.out
        have HRB : Hid (∀ W, Below w2.heap.size w2 W → W.heap[w.heap.size + 1 + 1]? = some (Obj.cells #[.int .i64 0, .int .i64 0, .string ⟨#[]⟩, .slice none 0 0] 25)) := Lib.hid fun W hW => (HR.out.read hW).now
        have HRL : Hid (w.heap.size ≤ w.heap.size + 1 + 1 ∧ w.heap.size + 1 + 1 < w2.heap.size) := Lib.hid ⟨by omega, by have := HR.out.le; omega⟩
        have ne1 : ¬ w.heap.size = w.heap.size + 1 + 1 := by omega
        have ne2 : ¬ w.heap.size + 1 + 1 = w.heap.size := by omega
        clear HA HB HX HY HR HI HPA
        go_upto_region 4 with (fail)
        go_region_held3 (fun w' => w'.cell? ⟨w.heap.size, 0, none⟩ = some (.int .i64 t.kind) ∧ w'.cell? ⟨w.heap.size, 1, none⟩ = some (.int .i64 t.num) ∧ w'.cell? ⟨w.heap.size, 2, none⟩ = some (.string t.name) ∧ w'.cell? ⟨w.heap.size, 3, none⟩ = some (.slice (some ⟨ga, offa, none⟩) t.args.length ca) ∧ w'.cell? ⟨w.heap.size + 1, 0, none⟩ = some (.int .i64 b.kind) ∧ w'.cell? ⟨w.heap.size + 1, 1, none⟩ = some (.int .i64 b.num) ∧ w'.cell? ⟨w.heap.size + 1, 2, none⟩ = some (.string b.name) ∧ w'.cell? ⟨w.heap.size + 1, 3, none⟩ = some (.slice ab b.args.length cb)) (go_keep)
          (first
            | (go_at_call 25; (with_reducible refine Calls.mono (HH0.out _ ?_) ?_); (assumption); rintro e wA ⟨rfl, hbA⟩; have hA' := HTR.out _ _ (by assumption) hbA; obtain ⟨k0, k1, k2, k3, k4, k5, k6, k7⟩ := HCE.out _ hA')
            | (go_at_call 21; (with_reducible refine Calls.mono (HC0.out _ ?_) ?_); (assumption); rintro e wB ⟨u0, rfl, hn0⟩; have hB' := HTR.out _ _ (by assumption) hn0.2; obtain ⟨k0, k1, k2, k3, k4, k5, k6, k7⟩ := HCE.out _ hB'; obtain ⟨a0, c0, rfl⟩ := hn0.1.argsAt.slice; have HN0 := Lib.hid (And.intro hA' hn0); clear hn0)
            | (go_at_call 24; (with_reducible refine Calls.mono (HH1.out _ ?_) ?_); (assumption); rintro e wC ⟨rfl, hbC⟩; have hC' := HTR.out _ _ (by assumption) hbC; obtain ⟨k0, k1, k2, k3, k4, k5, k6, k7⟩ := HCE.out _ hC'; have HBC := Lib.hid hbC; clear hbC)
            | (go_at_call 21; (with_reducible refine Calls.mono (HC1.out _ ?_) ?_); (assumption); rintro e wD ⟨u9, rfl, hn1⟩; have hD' := HTR.out _ _ (by assumption) hn1.2; obtain ⟨k0, k1, k2, k3, k4, k5, k6, k7⟩ := HCE.out _ hD'; obtain ⟨a1, c1, rfl⟩ := hn1.1.argsAt.slice; have HN1 := Lib.hid hn1; clear hn1)
            | (go_at_call 28; (with_reducible refine Calls.mono (pairOf_any _ _ _ _ _ _ _ _ _ _ _ _ _) ?_); rintro e wE ⟨gE, rfl, hg1, hg2, hgh, hbE⟩; have hE' := HTR.out _ _ (by assumption) hbE; obtain ⟨k0, k1, k2, k3, k4, k5, k6, k7⟩ := HCE.out _ hE'; have HP := Lib.hid (newPair HN0.out.1 HN0.out.2 HBC.out HN1.out hg1 hg2 hgh hbE); have HRE := Lib.hid (HRB.out _ hE'); obtain ⟨r0, r1, r2, r3, rf⟩ := box_cells (HRB.out _ hE'); clear hg1 hg2 hgh hbE))
        all_goals (go_wp2_with fail; exact newTm_end' (p := 6) (b := w.heap.size + 1 + 1) (W := w2) HQV.out.1 HQV.out.2.1 HQV.out.2.2.1 rfl rfl rfl Try.underlying25 (by kernel_rfl) HRE.out HW.out HRL.out.1 HRL.out.2 (by rw [HQV.out.2.2.2]; exact HP.out))
      · have hd : decide (t.kind = 4) = false := decide_eq_false hk
        rw [hd]
        have HQV : Hid (r = t) := Lib.hid (by rw [HQ.out, put_atom HV.out (HG.out.fit.atom hk)])
        clear hd hk
        have HC := Lib.hid (copied_any (t.nodes + 1) t _ w2 (by omega) HA.out.argsAt hZ HG.out)
        obtain ⟨c0a, c0b, c0c, c0d⟩ := HX.out.cells
        have z0 := HX.out.le
        go_wp2_with fail
        refine HC.out.mono ?_
        rintro e w3 ⟨u, rfl, hn⟩
        have HRE := Lib.hid (HR.out.read hn.2).now
        obtain ⟨r0, r1, r2, r3, rf⟩ := box_cells (HR.out.read hn.2).now
        have HRL : Hid (w.heap.size ≤ w.heap.size + 1 + 1 ∧ w.heap.size + 1 + 1 < w2.heap.size) := Lib.hid ⟨by omega, by have := HR.out.le; omega⟩
        obtain ⟨a0, c0, rfl⟩ := hn.1.argsAt.slice
        have HN := Lib.hid hn
        have hl1 := hn.2.size
        have hl2 := HR.out.le
        clear hn c0a c0b c0c c0d HC
        go_wp2
        exact newTm_end' (p := 6) (b := w.heap.size + 1 + 1) (W := w2) (by rw [HQV.out]) (by rw [HQV.out]) (by rw [HQV.out]) rfl rfl rfl Try.underlying25 (by kernel_rfl) HRE.out HW.out HRL.out.1 HRL.out.2 (by rw [HQV.out]; exact HN.out)
end Go.Proofs.Ytokndpmoamjbfaa

