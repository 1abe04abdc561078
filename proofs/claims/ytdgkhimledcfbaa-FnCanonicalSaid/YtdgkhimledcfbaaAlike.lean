/-
  Terms drawn that are like another one: l05Alike, MakeAlike.
-/
import Derived.Test.YtdgkhimledcfbaaDrawsB
namespace Go.Proofs.Ytdgkhimledcfbaa
open Go.RowKit
set_option linter.unusedVariables false
set_option linter.unusedSimpArgs false

/-- A term like another one: here and there another part stands. -/
inductive LikeT (D : Tm → Prop) : Tm → Tm → Prop
  | same (a : Tm) : LikeT D a a
  | draw (a d : Tm) (h : D d) : LikeT D a d
  | pair (a b c d : Tm) (h1 : LikeT D a c) (h2 : LikeT D b d) : LikeT D (.mk 4 0 ⟨#[]⟩ [a, b]) (.mk 4 0 ⟨#[]⟩ [c, d])
theorem good_two_eq {t x y : Tm} (h : Good t) (hk : t.kind = 4) (hxy : t.args = [x, y]) : t = .mk 4 0 ⟨#[]⟩ [x, y] := by
  cases h with
  | pair a b ha hb =>
    simp only [Tm.args, List.cons.injEq, and_true] at hxy
    rw [hxy.1, hxy.2]
  | nil => simp [Tm.kind] at hk
  | var i h0 h1 => simp [Tm.kind] at hk
  | sym s h => simp [Tm.kind] at hk
  | int i h0 h1 => simp [Tm.kind] at hk
theorem LikeT.good {D : Tm → Prop} (hD : ∀ d, D d → Good d) {a b : Tm} (h : LikeT D a b) : Good a → Good b := by
  induction h with
  | same a => exact id
  | draw a d h => exact fun _ => hD d h
  | pair a b c d h1 h2 ih1 ih2 =>
    intro h
    cases h with
    | pair _ _ hx hy => exact .pair _ _ (ih1 hx) (ih2 hy)
theorem LikeT.nodes {D : Tm → Prop} {n : Nat} (hn : 1 ≤ n) (hD : ∀ d, D d → d.nodes ≤ n) {a b : Tm} (h : LikeT D a b) : b.nodes ≤ n * a.nodes := by
  induction h with
  | same a => exact Nat.le_mul_of_pos_left _ (by omega)
  | draw a d h => exact Nat.le_trans (hD d h) (Nat.le_mul_of_pos_right _ (nodes_pos a))
  | pair a b c d h1 h2 ih1 ih2 =>
    simp only [Tm.nodes, nodesL]
    rw [Nat.mul_add, Nat.mul_add, Nat.mul_add]
    omega

/-- A term that is new or a part of what lies in the blocks T. -/
def DrawA (w0 : World) (p : Nat) (a : Option Addr) (len cap : Nat) (T : Nat → Prop) (Q : Tm → Prop) (w : World) (e : Ending) (w' : World) : Prop :=
  ∃ (t : Tm) (x : Option Addr) (c : Nat), e = .returned (.agg #[.int .i64 t.kind, .int .i64 t.num, .string t.name, .slice x t.args.length c]) ∧ ArgsS w' (fun k => T k ∨ (w.heap.size ≤ k ∧ k < w'.heap.size)) (.slice x t.args.length c) t.args ∧ Q t ∧ Ready w0 p a len cap w' ∧ Only (iv p (p + 1)) w w'
theorem drawA_end {P : Program} {fn : Func} {T : Nat → Prop} {t : Tm} {w0 w W : World} {a : Act} {p b : Nat} {q : Tmp} {ad : Option Addr} {len cap : Nat} {Q : Tm → Prop} {x0 x1 x2 x3 : Value} {fs : Array Field} {u : Option Addr} {c : Nat} {k i : Int} {s : ByteArray} {m : Nat} (h1 : t.kind = k) (h2 : t.num = i) (h3 : t.name = s) (h4 : t.args.length = m)
    (h : fn.results = #[.cell q 25]) (hp : a.tmps.getD q undef = .pointer (some ⟨b, 0, none⟩)) (hd : a.defers = []) (hu : P.underlying 25 = some (.struct fs)) (hi : (P.info? 25).map (·.size) = some 4)
    (hb : W.heap[b]? = some (Obj.cells #[x0, x1, x2, x3] 25)) (hlo : w.heap.size ≤ b) (hne : ¬ b = p) (hw : w0.heap.size ≤ w.heap.size) (hr : Ready w0 p ad len cap W) (ho : Only (iv p (p + 1)) w W)
    (hA : ArgsS W (fun j => (T j ∨ (w.heap.size ≤ j ∧ j < W.heap.size)) ∧ ¬ j = b) (.slice u m c) t.args) (hq : Q t) :
    bodyPost P fn (DrawA w0 p ad len cap T Q w) .ret a ((((W.setCell ⟨b, 0, none⟩ (.int .i64 k)).setCell ⟨b, 1, none⟩ (.int .i64 i)).setCell ⟨b, 2, none⟩ (.string s)).setCell ⟨b, 3, none⟩ (.slice u m c)) := by
  subst h1
  subst h2
  subst h3
  subst h4
  refine bodyPost_four h hp hd hu rfl hi hb fun w' hw' => ?_
  have hw2 : Only (iv b (b + 1)) W w' := hw'.sub fun k hk => by subst hk; exact ⟨Nat.le_refl _, Nat.lt_succ_self _⟩
  have hs := hw'.size
  refine ⟨t, u, c, rfl, (hA.frame hw'.size fun k hk hks => hw'.block k hks hk.2).sub fun k hk => hk.1.imp id fun h => ⟨h.1, by have := h.2; omega⟩, hq, hr.only hw2 (by omega) hne, only_new ho hw2 hlo⟩

set_option maxRecDepth 100000 in
set_option maxHeartbeats 4000000 in
theorem alike_any {G D : Tm → Prop} {B : Int → Int} (hB : HalfB B) (w0 : World) (p : Nat) (a : Option Addr) (len cap : Nat) (v : Int) (hGc : Closed v G) (hD : ∀ y, G y → (y.nodes : Int) ≤ B 4 → D y) (hv0 : 0 ≤ v) (hv1 : v ≤ 256) (N : Nat) : ∀ (t : Tm) (V : Value) (T : Nat → Prop) (w : World), t.nodes < N → Good t → (∀ k, T k → k < w.heap.size ∧ ¬ k = p) → ArgsS w T V t.args → Ready w0 p a len cap w →
    Calls Try.prog 61 #[.pointer (some ⟨p, 0, none⟩), .agg #[.int .i64 t.kind, .int .i64 t.num, .string t.name, V], .int .i64 v] w (DrawA w0 p a len cap T (LikeT D t) w) := by
  induction N with
  | zero => intro t V T w h; omega
  | succ N ih =>
    intro t V T w hN hG hT hA h
    obtain ⟨ta, tc, rfl⟩ := hA.at.slice
    have HI := Lib.hid ih
    have HDD := Lib.hid hD
    have HTT := Lib.hid hT
    have HGT := Lib.hid hG
    have HX := Lib.hid (at_box_of w #[.int .i64 t.kind, .int .i64 t.num, .string t.name, .slice ta t.args.length tc] 25 w.heap.size rfl)
    have HR := Lib.hid (at_box_of (w.alloc (.cells #[.int .i64 t.kind, .int .i64 t.num, .string t.name, .slice ta t.args.length tc] 25)) #[.int .i64 0, .int .i64 0, .string ⟨#[]⟩, .slice none 0 0] 25 (w.heap.size + 1) (by simp))
    replace HX := Lib.hid (HX.out.read (belowAlloc (Below.refl _ _) (.cells #[.int .i64 0, .int .i64 0, .string ⟨#[]⟩, .slice none 0 0] 25)))
    have hB : Below w.heap.size w ((w.alloc (.cells #[.int .i64 t.kind, .int .i64 t.num, .string t.name, .slice ta t.args.length tc] 25)).alloc (.cells #[.int .i64 0, .int .i64 0, .string ⟨#[]⟩, .slice none 0 0] 25)) := belowAlloc (belowAlloc (Below.refl _ _) _) _
    have HG := Lib.hid (h.below hB)
    have HO : Hid (Only (iv p (p + 1)) w ((w.alloc (.cells #[.int .i64 t.kind, .int .i64 t.num, .string t.name, .slice ta t.args.length tc] 25)).alloc (.cells #[.int .i64 0, .int .i64 0, .string ⟨#[]⟩, .slice none 0 0] 25))) := Lib.hid (Only.of_below hB)
    have HA := Lib.hid (hA.kept hB)
    have hp := h.hi
    have hlo := h.lo
    have hn7 := nodes_pos t
    clear h ih hB hA hT hG
    go_enter Try.func61, Try.ntmps61
    go_upto_region 1 with (fail)
    generalize hw : (w.alloc (.cells #[.int .i64 t.kind, .int .i64 t.num, .string t.name, .slice ta t.args.length tc] 25)).alloc (.cells #[.int .i64 0, .int .i64 0, .string ⟨#[]⟩, .slice none 0 0] 25) = w1 at HX HR HG HO HA ⊢
    clear hw
    go_wp2_with fail
    refine (once_any 6 w0 p a len cap w1 HG.out (by omega) (by omega)).mono ?_
    rintro e w2 ⟨b, rfl, hg, ho⟩
    have HX2 := Lib.hid (HX.out.only ho (by omega))
    have HR2 := Lib.hid (HR.out.only ho (by omega))
    have HG2 := Lib.hid hg
    have HO2 := Lib.hid (HO.out.trans ho)
    have HA2 := Lib.hid (HA.out.frame ho.size fun k hk hks => ho.block k hks fun h => (HTT.out k hk).2 (by have h1 := h.1; have h2 := h.2; omega))
    have hn2 : w.heap.size + 2 ≤ w2.heap.size := by have := HR2.out.le; omega
    clear HX HR HG HO HA hg ho
    cases b with
    | true =>
      have HV := Lib.hid (drawTermB_any hB w0 p a len cap v hGc hv0 hv1 5 4 w2 (by omega) (by omega) (by omega) HG2.out)
      go_wp2_with fail
      refine HV.out.mono ?_
      rintro e w3 ⟨y, ya, yc, rfl, hy, hgy, hny, hg, ho⟩
      have HR3 := Lib.hid (HR2.out.only ho (by omega))
      have HG3 := Lib.hid hg
      have HO3 := Lib.hid (HO2.out.trans ho)
      have HY := Lib.hid (And.intro hy (And.intro hgy hny))
      have hn3 := ho.size
      clear hg ho hy hgy hny HV
      have HRE := Lib.hid HR3.out.now
      obtain ⟨q0, q1, q2, q3, qf⟩ := box_cells HR3.out.now
      have z3 := HR3.out.le
      go_wp2
      exact drawA_end (t := y) (b := w.heap.size + 1) rfl rfl rfl rfl rfl rfl rfl Try.underlying25 (by kernel_rfl) HRE.out (by omega) (by omega) (by have := HG3.out.lo; omega) HG3.out HO3.out
        (HY.out.1.sub fun k hk => ⟨.inr ⟨by have := hk.1; omega, hk.2⟩, by have := hk.1; omega⟩) (.draw _ _ (HDD.out y HY.out.2.1 HY.out.2.2))
    | false =>
    by_cases hk : t.kind = 4
    · have dk : (t.kind == 4) = true := by rw [hk]; rfl
      obtain ⟨x, y, hxy⟩ := HGT.out.fit.pair hk
      have HXY := Lib.hid hxy
      have HGG := Lib.hid ((good_two HGT.out.fit hxy).1 HGT.out)
      have HTE := Lib.hid (good_two_eq HGT.out hk hxy)
      have HNN : Hid (t.nodes = 1 + x.nodes + y.nodes) := Lib.hid (by rw [nodes_eq, hxy]; simp only [nodesL]; omega)
      have hnx : x.nodes < N := by have := HNN.out; omega
      have hny : y.nodes < N := by have := HNN.out; omega
      obtain ⟨g, off, u1, u2, v1, v2, rfl, hgw, hla, hcx, hcy, hax, hay⟩ := HA2.out.two hxy
      obtain ⟨d0, d1, d2, d3⟩ := hcx w2 (Below.refl _ _)
      obtain ⟨c0, c1, c2, c3⟩ := HX2.out.cells
      have z0 := HX2.out.le
      have HT2 : Hid (∀ k, T k → k < w2.heap.size ∧ ¬ k = p) := Lib.hid fun k hk => ⟨by have := (HTT.out k hk).1; omega, (HTT.out k hk).2⟩
      have HC := Lib.hid (HI.out x (.slice u1 x.args.length u2) T w2 hnx HGG.out.1 HT2.out hax HG2.out)
      have HLA := Lib.hid hla
      have hl1 : (1 : Int) < (t.args.length : Int) := by omega
      have hl0 : (0 : Int) < (t.args.length : Int) := by omega
      clear hcx hcy hax hay hxy hk hla
      go_wp2_with fail
      refine HC.out.mono ?_
      rintro e w3 ⟨x', xa, xc, rfl, hx', hgx', hg, ho⟩
      have hal : Below w3.heap.size w3 (w3.alloc (.cells #[.int .i64 x'.kind, .int .i64 x'.num, .string x'.name, .slice xa x'.args.length xc] 25)) := belowAlloc (Below.refl _ _) _
      have HB5 := Lib.hid (heap_alloc_new w3 (.cells #[.int .i64 x'.kind, .int .i64 x'.num, .string x'.name, .slice xa x'.args.length xc] 25))
      have HR5 := Lib.hid ((HR2.out.only ho (by omega)).read hal)
      have HX5 := Lib.hid ((HX2.out.only ho (by omega)).read hal)
      have HG5 := Lib.hid (hg.below hal)
      have HO5 := Lib.hid (only_below (HO2.out.trans ho) hal)
      have HXA5 := Lib.hid (hx'.kept hal)
      have HAT5 := Lib.hid ((HA2.out.frame ho.size fun k hk hks => ho.block k hks fun h => (HTT.out k hk).2 (by have h1 := h.1; have h2 := h.2; omega)).kept hal)
      have HXG := Lib.hid hgx'
      have hn3 := ho.size
      have hn5 : (w3.alloc (.cells #[.int .i64 x'.kind, .int .i64 x'.num, .string x'.name, .slice xa x'.args.length xc] 25)).heap.size = w3.heap.size + 1 := by simp
      clear HC HX2 HR2 HG2 HO2 HA2 hal hx' hgx' hg ho c0 c1 c2 c3 z0 d0 d1 d2 d3
      go_upto_region 5 with (fail)
      generalize hw5 : w3.alloc (.cells #[.int .i64 x'.kind, .int .i64 x'.num, .string x'.name, .slice xa x'.args.length xc] 25) = w5 at HB5 HR5 HX5 HG5 HO5 HXA5 HAT5 hn5 ⊢
      clear hw5
      obtain ⟨g2, off2, _, _, y1, y2, he, _, _, _, hcy, _, hay⟩ := HAT5.out.two HXY.out
      simp only [Option.some.injEq, Addr.mk.injEq, and_true] at he
      obtain ⟨rfl, rfl⟩ := he
      have hself : Below w5.heap.size w5 w5 := Below.refl _ _
      have hself1 : Below w5.heap.size w5 w5.drew := hself.drew
      obtain ⟨b0, b1, b2, b3, bf⟩ := box_cells HB5.out
      obtain ⟨l0, l1, l2, l3, lf⟩ := box_cells ((hself1.block _ (by omega)).trans HB5.out)
      obtain ⟨d0, d1, d2, d3⟩ := hcy w5 hself
      obtain ⟨f0, f1, f2, f3⟩ := hcy w5.drew hself1
      obtain ⟨c0, c1, c2, c3⟩ := HX5.out.cells
      obtain ⟨m0, m1, m2, m3⟩ := (HX5.out.read hself1).cells
      have HAY := Lib.hid hay
      have HC2 : Hid (∀ W, Below w5.heap.size w5 W → Calls Try.prog 61 #[.pointer (some ⟨p, 0, none⟩), .agg #[.int .i64 y.kind, .int .i64 y.num, .string y.name, .slice y1 y.args.length y2], .int .i64 v] W fun e w6 =>
          ∃ (y' : Tm) (ya : Option Addr) (yc : Nat), e = .returned (.agg #[.int .i64 y'.kind, .int .i64 y'.num, .string y'.name, .slice ya y'.args.length yc]) ∧ (w6.cell? ⟨w3.heap.size, 0, none⟩ = some (.int .i64 x'.kind) ∧ w6.cell? ⟨w3.heap.size, 1, none⟩ = some (.int .i64 x'.num) ∧ w6.cell? ⟨w3.heap.size, 2, none⟩ = some (.string x'.name) ∧ w6.cell? ⟨w3.heap.size, 3, none⟩ = some (.slice xa x'.args.length xc)) ∧
            Hid (LikeT D y y' ∧ ∀ w7, Below w6.heap.size w6 w7 → Ready w0 p a len cap w7 ∧ Only (iv p (p + 1)) w w7 ∧ w7.heap[w.heap.size + 1]? = some (Obj.cells #[.int .i64 0, .int .i64 0, .string ⟨#[]⟩, .slice none 0 0] 25) ∧ w.heap.size + 2 ≤ w6.heap.size ∧
              ArgsS w7 (fun k => T k ∨ (w.heap.size + 2 ≤ k ∧ k < w6.heap.size)) (.slice xa x'.args.length xc) x'.args ∧ ArgsS w7 (fun k => T k ∨ (w.heap.size + 2 ≤ k ∧ k < w6.heap.size)) (.slice ya y'.args.length yc) y'.args)) := Lib.hid fun W hW => by
        have hs5 := hW.size
        refine (HI.out y _ T W hny HGG.out.2 (fun k hk => ⟨by have := (HTT.out k hk).1; omega, (HTT.out k hk).2⟩) (HAY.out.kept hW) (HG5.out.below hW)).mono ?_
        rintro e w6 ⟨y', ya, yc, rfl, hy, hgy, hg6, ho6⟩
        have hs6 := ho6.size
        have hh : w6.heap[w3.heap.size]? = _ := (ho6.block w3.heap.size (by omega) (fun hk => by have h1 := hk.1; have h2 := hk.2; omega)).trans ((hW.block w3.heap.size (by omega)).trans HB5.out)
        obtain ⟨q0, q1, q2, q3, _⟩ := box_cells hh
        refine ⟨y', ya, yc, rfl, ⟨q0, q1, q2, q3⟩, Lib.hid ⟨hgy, fun w7 h7 => ⟨hg6.below h7, only_below ((only_below HO5.out hW).trans ho6) h7, (((HR5.out.read hW).only ho6 (by omega)).read h7).now, by omega, ?_, ?_⟩⟩⟩
        · exact (((HXA5.out.kept hW).frame ho6.size (fun k hk hks => ho6.block k hks (fun hh => by
            have q1 := hh.1
            have q2 := hh.2
            rcases hk with hk | hk
            · exact (HTT.out k hk).2 (by omega)
            · omega))).kept h7).sub fun k hk => hk.imp id fun h => ⟨by omega, by omega⟩
        · exact (hy.kept h7).sub fun k hk => hk.imp id fun h => ⟨by omega, by omega⟩
      clear HXA5 HR5 HX5 HO5 HB5 HG5 HAT5 HAY hay hcy HI
      go_region_with (first
        | (go_at_call 61; (with_reducible refine Calls.mono (HC2.out _ ?_) ?_); (first | exact hself | exact hself1 | exact hself1.drew); rintro e w6 ⟨y', ya, yc, rfl, ⟨k0, k1, k2, k3⟩, HY⟩)
        | (go_at_call 85; (with_reducible refine Calls.mono (specPair_any _ _ _ _ _ _ _ _ _ _ _ _ _) ?_); rintro e w7 ⟨gp, rfl, hg1, hg2, hgh, hb7⟩; have HZ := Lib.hid (HY.out.2 w7 (by first | exact hb7 | exact ((Below.refl _ _).drew).trans hb7)); have hw67 : w6.heap.size ≤ gp := hg1; have HP := Lib.hid (And.intro hg2 hgh); clear hg1 hg2 hgh hb7; have HRE := Lib.hid HZ.out.2.2.1; obtain ⟨q0, q1, q2, q3, qf⟩ := box_cells HRE.out))
      all_goals go_wp2_with fail
      all_goals
        have hs6 := HZ.out.2.2.2.1
        have hg2 := HP.out.1
        exact drawA_end (t := .mk 4 0 ⟨#[]⟩ [x', y']) (b := w.heap.size + 1) rfl rfl rfl rfl rfl rfl rfl Try.underlying25 (by kernel_rfl) HRE.out (by omega) (by omega) (by omega) HZ.out.1 HZ.out.2.1
          (argsS_pair HP.out.2 hg2 ⟨.inr ⟨by omega, by omega⟩, by omega⟩ (HZ.out.2.2.2.2.1.sub fun k hk => ⟨hk.imp id fun h => ⟨by omega, by omega⟩, by
              rcases hk with hk | hk
              · have := (HTT.out k hk).1; omega
              · omega⟩) (HZ.out.2.2.2.2.2.sub fun k hk => ⟨hk.imp id fun h => ⟨by omega, by omega⟩, by
              rcases hk with hk | hk
              · have := (HTT.out k hk).1; omega
              · omega⟩))
          (by rw [HTE.out]; exact .pair _ _ _ _ HXG.out HY.out.1)
    · have dk : (t.kind == 4) = false := beq_eq_false_iff_ne.2 hk
      obtain ⟨c0, c1, c2, c3⟩ := HX2.out.cells
      have z0 := HX2.out.le
      have HRE := Lib.hid HR2.out.now
      obtain ⟨q0, q1, q2, q3, qf⟩ := box_cells HR2.out.now
      have z3 := HR2.out.le
      clear hk
      go_wp2
      exact drawA_end (t := t) (b := w.heap.size + 1) rfl rfl rfl rfl rfl rfl rfl Try.underlying25 (by kernel_rfl) HRE.out (by omega) (by omega) (by omega) HG2.out HO2.out
        (HA2.out.sub fun k hk => ⟨.inl hk, by have := (HTT.out k hk).1; omega⟩) (.same t)
/-- The answer is a term like the given one. -/
def MadeQ (Q : Tm → Prop) (w : World) (e : Ending) (w' : World) : Prop :=
  ∃ (t : Tm) (x : Option Addr) (c : Nat), e = .returned (.agg #[.int .i64 t.kind, .int .i64 t.num, .string t.name, .slice x t.args.length c]) ∧ ArgsAt w' (.slice x t.args.length c) t.args ∧ Q t ∧ Below w.heap.size w w'

set_option maxRecDepth 100000 in
set_option maxHeartbeats 2000000 in
theorem makeAlikeQ_any {G D : Tm → Prop} {B : Int → Int} (hBB : HalfB B) (a : Option Addr) (len cap n : Nat) (t : Tm) (V : Value) (v : Int) (w : World) (hb : Bytes w a len) (hl : len ≤ 1048576) (hn : n ≤ 1000000) (h2 : 0 ≤ v) (h3 : v ≤ 256) (hGc : Closed v G) (hD : ∀ y, G y → (y.nodes : Int) ≤ B 4 → D y) (hG : Good t) (hA : ArgsAt w V t.args) :
    Calls Try.prog 19 #[.slice a len cap, .int .i64 n, .agg #[.int .i64 t.kind, .int .i64 t.num, .string t.name, V], .int .i64 v] w (MadeQ (LikeT D t) w) := by
  obtain ⟨ta, tc, rfl⟩ := hA.slice
  have hB : Below w.heap.size w ((w.alloc (.cells #[.int .i64 t.kind, .int .i64 t.num, .string t.name, .slice ta t.args.length tc] 25)).alloc (.cells #[.int .i64 0, .int .i64 0, .string ⟨#[]⟩, .slice none 0 0] 25)) := belowAlloc (belowAlloc (Below.refl _ _) _) _
  have HX := Lib.hid (at_box_of w #[.int .i64 t.kind, .int .i64 t.num, .string t.name, .slice ta t.args.length tc] 25 w.heap.size rfl)
  have HR := Lib.hid (at_box_of (w.alloc (.cells #[.int .i64 t.kind, .int .i64 t.num, .string t.name, .slice ta t.args.length tc] 25)) #[.int .i64 0, .int .i64 0, .string ⟨#[]⟩, .slice none 0 0] 25 (w.heap.size + 1) (by simp))
  replace HX := Lib.hid (HX.out.read (belowAlloc (Below.refl _ _) (.cells #[.int .i64 0, .int .i64 0, .string ⟨#[]⟩, .slice none 0 0] 25)))
  have HB := Lib.hid (hb.kept hB)
  have HA := Lib.hid (hA.inS.kept hB)
  have HW := Lib.hid hB
  have HG := Lib.hid hG
  clear hb hA hB hG
  go_enter Try.func19, Try.ntmps19
  go_upto_region 1 with (fail)
  generalize hw : (w.alloc (.cells #[.int .i64 t.kind, .int .i64 t.num, .string t.name, .slice ta t.args.length tc] 25)).alloc (.cells #[.int .i64 0, .int .i64 0, .string ⟨#[]⟩, .slice none 0 0] 25) = w1 at HX HR HB HA HW ⊢
  clear hw
  have hself : Below w1.heap.size w1 w1 := Below.refl _ _
  have hself1 : Below w1.heap.size w1 w1.drew := hself.drew
  obtain ⟨c0, c1, c2, c3⟩ := HX.out.cells
  obtain ⟨m0, m1, m2, m3⟩ := (HX.out.read hself1).cells
  have HN : Hid (∀ W, Below w1.heap.size w1 W → Calls Try.prog 51 #[.slice a len cap, .int .i64 n] W fun e w2 => ∃ p, e = .returned (.pointer (some ⟨p, 0, none⟩)) ∧ (w2.cell? ⟨w.heap.size, 0, none⟩ = some (.int .i64 t.kind) ∧ w2.cell? ⟨w.heap.size, 1, none⟩ = some (.int .i64 t.num) ∧ w2.cell? ⟨w.heap.size, 2, none⟩ = some (.string t.name) ∧ w2.cell? ⟨w.heap.size, 3, none⟩ = some (.slice ta t.args.length tc)) ∧
      Hid (∀ w3, Below w2.heap.size w2 w3 → Calls Try.prog 61 #[.pointer (some ⟨p, 0, none⟩), .agg #[.int .i64 t.kind, .int .i64 t.num, .string t.name, .slice ta t.args.length tc], .int .i64 v] w3 fun e w4 =>
        ∃ (y : Tm) (x : Option Addr) (c : Nat), e = .returned (.agg #[.int .i64 y.kind, .int .i64 y.num, .string y.name, .slice x y.args.length c]) ∧ w4.heap[w.heap.size + 1]? = some (Obj.cells #[.int .i64 0, .int .i64 0, .string ⟨#[]⟩, .slice none 0 0] 25) ∧ Hid (ArgsS w4 (fun k => ¬ k = w.heap.size + 1) (.slice x y.args.length c) y.args ∧ LikeT D t y ∧ Below w.heap.size w w4))) := Lib.hid fun W hW => by
    refine (newAt_any a len cap n W (HB.out.kept hW) hl hn).mono ?_
    rintro e w2 ⟨p, rfl, hcur, hp1, hp2, hb2⟩
    have hz := HR.out.le
    have hs := hW.size
    refine ⟨p, rfl, ((HX.out.read hW).read hb2).cells, Lib.hid fun w3 h3' => ?_⟩
    have hs2 := hb2.size
    have hs3 := h3'.size
    refine (alike_any hBB W p a len cap v hGc hD h2 h3 (t.nodes + 1) t _ (fun k => k < w.heap.size) w3 (Nat.lt_succ_self _) HG.out (fun k hk => ⟨by omega, by omega⟩) (((HA.out.kept hW).kept hb2).kept h3') ((ready_new (HB.out.kept hW) hl hcur hp1 hp2 hb2).below h3')).mono ?_
    rintro e w4 ⟨y, x, c, rfl, hy, hgy, hr, ho⟩
    exact ⟨y, x, c, rfl, ((((HR.out.read hW).read hb2).read h3').only ho (by omega)).now, Lib.hid ⟨hy.sub fun k hk => by
      rcases hk with hk | hk
      · omega
      · have := hk.1; omega, hgy, (((HW.out.trans (hW.mono HW.out.size)).trans (hb2.mono (by have := HW.out.size; omega))).trans (h3'.mono (by have := HW.out.size; omega))).trans (ho.below (fun k hk => by have := hk.1; have := HW.out.size; omega) (by have := HW.out.size; omega))⟩⟩
  clear HX HR HB HA HG
  go_region_with (first
    | (go_at_call 51; (with_reducible refine Calls.mono (HN.out _ ?_) ?_); (first | exact hself | exact hself1 | exact hself1.drew); rintro e wN ⟨p, rfl, ⟨k0, k1, k2, k3⟩, HAL⟩)
    | (go_at_call 61; (with_reducible refine Calls.mono (HAL.out _ ?_) ?_); (first | exact Below.refl _ _ | exact (Below.refl _ _).drew); rintro e wA ⟨y, xa, xc, rfl, hre, HZ⟩; have HRE := Lib.hid hre; obtain ⟨q0, q1, q2, q3, qf⟩ := box_cells hre; clear hre))
  all_goals go_wp2_with fail
  all_goals
    refine bodyPost_four rfl rfl rfl Try.underlying25 rfl (by kernel_rfl) HRE.out fun w' hw' => ?_
    exact ⟨y, xa, xc, rfl, (HZ.out.1.frame hw'.size fun k hk hks => hw'.block k hks hk).at, HZ.out.2.1, HZ.out.2.2.trans (hw'.below (fun k hk => by omega) HZ.out.2.2.size)⟩
def MadeA (n : Nat) (w : World) (e : Ending) (w' : World) : Prop :=
  ∃ (t : Tm) (x : Option Addr) (c : Nat), e = .returned (.agg #[.int .i64 t.kind, .int .i64 t.num, .string t.name, .slice x t.args.length c]) ∧ ArgsAt w' (.slice x t.args.length c) t.args ∧ Good t ∧ t.nodes ≤ n ∧ Below w.heap.size w w'
theorem makeAlike_any (a : Option Addr) (len cap n : Nat) (t : Tm) (V : Value) (v : Int) (w : World) (hb : Bytes w a len) (hl : len ≤ 1048576) (hn : n ≤ 1000000) (h2 : 0 ≤ v) (h3 : v ≤ 256) (hG : Good t) (hA : ArgsAt w V t.args) :
    Calls Try.prog 19 #[.slice a len cap, .int .i64 n, .agg #[.int .i64 t.kind, .int .i64 t.num, .string t.name, V], .int .i64 v] w (MadeA (7 * t.nodes) w) :=
  (makeAlikeQ_any (D := fun y => Good y ∧ y.nodes ≤ 7) half_plain a len cap n t V v w hb hl hn h2 h3 (closed_good h3) (fun y hy hn => ⟨hy, by have h : (y.nodes : Int) ≤ 2 * 4 - 1 := hn; omega⟩) hG hA).mono
    fun e w' ⟨y, x, c, h1, h2, h3, h4⟩ => ⟨y, x, c, h1, h2, h3.good (fun d hd => hd.1) hG, h3.nodes (by decide) (fun d hd => hd.2), h4⟩
end Go.Proofs.Ytdgkhimledcfbaa

