/-
  Terms copied and a variable in them replaced: the contracts of the program's copied and replaced.
-/
import Derived.Test.YtokndpmoamjbfaaNew
namespace Go.Proofs.Ytokndpmoamjbfaa
open Go.RowKit
set_option linter.unusedVariables false
set_option linter.unusedSimpArgs false

theorem newPair {x y : Tm} {w1 A B C D E : World} {u0 u1 : Value} {g : Nat} (h1 : Below w1.heap.size w1 A) (h0 : NewTree x.args A u0 B) (h2 : Below B.heap.size B C) (h3 : NewTree y.args C u1 D) (hg : D.heap.size ≤ g) (hg2 : g < E.heap.size)
    (hh : E.heap[g]? = some (.cells #[.int .i64 x.kind, .int .i64 x.num, .string x.name, u0, .int .i64 y.kind, .int .i64 y.num, .string y.name, u1] 25)) (h4 : Below D.heap.size D E) : NewTree [x, y] w1 (.slice (some ⟨g, 0, none⟩) 2 2) E := by
  have s1 := h1.size
  have s0 := h0.2.size
  have s2 := h2.size
  have s3 := h3.2.size
  have s4 := h4.size
  have hBD := belowOn h2 (Nat.le_refl _) h3.2
  have hBE := belowOn hBD (Nat.le_refl _) h4
  refine ⟨own_pair hh (by unfold iv; omega) (h0.1.kept' hBE fun k hk => hk.2) (h3.1.kept' h4 fun k hk => hk.2) ?_ ?_ ?_, belowOn (belowOn h1 (Nat.le_refl _) h0.2) (Nat.le_refl _) hBE⟩
  · intro k hk
    unfold iv at hk ⊢
    omega
  · intro k hk
    unfold iv at hk ⊢
    omega
  · intro k hk hk'
    unfold iv at hk hk'
    omega
theorem fit_atom_new {t : Tm} {w w' : World} (h : t.args = []) (hb : Below w.heap.size w w') : NewTree t.args w (.slice none 0 0) w' := by
  rw [h]; exact ⟨.nil _, hb⟩
theorem pair_fields {t : Tm} (h : Good t) (hk : t.kind = 4) : t.num = 0 ∧ t.name = ⟨#[]⟩ := by
  rcases h.fit with ⟨h, _⟩ | ⟨h, _⟩ | ⟨h, _⟩ | ⟨h, _⟩ | ⟨_, h1, h2, _⟩
  · rw [hk] at h; cases h
  · rw [hk] at h; cases h
  · rw [hk] at h; cases h
  · rw [hk] at h; cases h
  · exact ⟨h1, h2⟩
theorem below3 {w w0 w1 : World} (h : Below w.heap.size w w0) (h1 : Below w0.heap.size w0 w1) : Below w.heap.size w w1 := belowOn h (Nat.le_refl _) h1
/-- What a function that returns a struct by its result's cell hands back. -/
theorem newTm_end {P : Program} {fn : Func} {t : Tm} {w W wE : World} {a : Act} {p : Tmp} {b : Nat} {x0 x1 x2 x3 u : Value} {fs : Array Field} (h : fn.results = #[.cell p 25]) (hp : a.tmps.getD p undef = .pointer (some ⟨b, 0, none⟩)) (hd : a.defers = [])
    (hu : P.underlying 25 = some (.struct fs)) (hi : (P.info? 25).map (·.size) = some 4) (hb : wE.heap[b]? = some (Obj.cells #[x0, x1, x2, x3] 25))
    (hW : Below w.heap.size w W) (hb1 : w.heap.size ≤ b) (hb2 : b < W.heap.size) (hn : NewTree t.args W u wE) :
    bodyPost P fn (NewTm t w) .ret a ((((wE.setCell ⟨b, 0, none⟩ (.int .i64 t.kind)).setCell ⟨b, 1, none⟩ (.int .i64 t.num)).setCell ⟨b, 2, none⟩ (.string t.name)).setCell ⟨b, 3, none⟩ u) := by
  refine bodyPost_four h hp hd hu rfl hi hb fun w' hw => ⟨_, rfl, NewTree.after hn hW (hw.sub fun k hk => ?_)⟩
  subst hk
  unfold iv
  omega
theorem newTm_end' {P : Program} {fn : Func} {t : Tm} {k i : Int} {s : ByteArray} {w W wE : World} {a : Act} {p : Tmp} {b : Nat} {x0 x1 x2 x3 u : Value} {fs : Array Field} (h1 : t.kind = k) (h2 : t.num = i) (h3 : t.name = s) (h : fn.results = #[.cell p 25]) (hp : a.tmps.getD p undef = .pointer (some ⟨b, 0, none⟩)) (hd : a.defers = [])
    (hu : P.underlying 25 = some (.struct fs)) (hi : (P.info? 25).map (·.size) = some 4) (hb : wE.heap[b]? = some (Obj.cells #[x0, x1, x2, x3] 25))
    (hW : Below w.heap.size w W) (hb1 : w.heap.size ≤ b) (hb2 : b < W.heap.size) (hn : NewTree t.args W u wE) :
    bodyPost P fn (NewTm t w) .ret a ((((wE.setCell ⟨b, 0, none⟩ (.int .i64 k)).setCell ⟨b, 1, none⟩ (.int .i64 i)).setCell ⟨b, 2, none⟩ (.string s)).setCell ⟨b, 3, none⟩ u) := by
  subst h1
  subst h2
  subst h3
  exact newTm_end h hp hd hu hi hb hW hb1 hb2 hn

set_option maxRecDepth 100000 in
set_option maxHeartbeats 4000000 in
theorem copied_any (N : Nat) : ∀ (t : Tm) (V : Value) (w : World), t.nodes < N → ArgsAt w V t.args → t.sz ≤ 1048576 → Good t →
    Calls Try.prog 26 #[.agg #[.int .i64 t.kind, .int .i64 t.num, .string t.name, V]] w (NewTm t w) := by
  induction N with
  | zero => intro t V w hN; omega
  | succ N ih =>
    intro t V w hN hA hZ hG
    obtain ⟨aa, ca, rfl⟩ := hA.slice
    have HI := Lib.hid ih
    have HG := Lib.hid hG
    have HS := Lib.hid (sz_eq t)
    have HNE := Lib.hid (nodes_eq t)
    have HA := Lib.hid (at_args hA)
    have HW : Hid (Below w.heap.size w w) := Lib.hid (Below.refl _ _)
    clear hA ih hG
    have hal : Below w.heap.size w (w.alloc (.cells #[.int .i64 t.kind, .int .i64 t.num, .string t.name, .slice aa t.args.length ca] 25)) := (Below.refl _ _).alloc (Nat.le_refl _) _
    replace HA := Lib.hid (HA.out.read hal)
    replace HW := Lib.hid (belowOn HW.out (Nat.le_refl _) hal)
    have HX := Lib.hid (at_box_of w #[.int .i64 t.kind, .int .i64 t.num, .string t.name, .slice aa t.args.length ca] 25 (w.heap.size) (by simp))
    clear hal
    have hal : Below (w.alloc (.cells #[.int .i64 t.kind, .int .i64 t.num, .string t.name, .slice aa t.args.length ca] 25)).heap.size (w.alloc (.cells #[.int .i64 t.kind, .int .i64 t.num, .string t.name, .slice aa t.args.length ca] 25)) ((w.alloc (.cells #[.int .i64 t.kind, .int .i64 t.num, .string t.name, .slice aa t.args.length ca] 25)).alloc (.cells #[.int .i64 0, .int .i64 0, .string ⟨#[]⟩, .slice none 0 0] 25)) := (Below.refl _ _).alloc (Nat.le_refl _) _
    replace HA := Lib.hid (HA.out.read hal)
    replace HX := Lib.hid (HX.out.read hal)
    replace HW := Lib.hid (belowOn HW.out (Nat.le_refl _) hal)
    have HR := Lib.hid (at_box_of (w.alloc (.cells #[.int .i64 t.kind, .int .i64 t.num, .string t.name, .slice aa t.args.length ca] 25)) #[.int .i64 0, .int .i64 0, .string ⟨#[]⟩, .slice none 0 0] 25 (w.heap.size + 1) (by simp))
    clear hal
    go_enter Try.func26, Try.ntmps26
    go_upto_region 1 with (fail)
    generalize hw0 : (w.alloc (.cells #[.int .i64 t.kind, .int .i64 t.num, .string t.name, .slice aa t.args.length ca] 25)).alloc (.cells #[.int .i64 0, .int .i64 0, .string ⟨#[]⟩, .slice none 0 0] 25) = w0 at HA HX HR HW ⊢
    clear hw0
    have HIP := Lib.hid (isPair_any t.kind t.num t.name (.slice aa t.args.length ca) w0)
    obtain ⟨c0a, c0b, c0c, c0d⟩ := HX.out.cells
    have z0 := HX.out.le
    go_wp2_with fail
    refine HIP.out.mono ?_
    rintro e w1 ⟨rfl, hb⟩
    clear c0a c0b c0c c0d z0 HIP
    replace HA := Lib.hid (HA.out.read hb)
    replace HX := Lib.hid (HX.out.read hb)
    replace HR := Lib.hid (HR.out.read hb)
    replace HW := Lib.hid (belowOn HW.out (Nat.le_refl _) hb)
    clear hb
    by_cases hk : t.kind = 4
    · have hd : decide (t.kind = 4) = true := decide_eq_true hk
      rw [hd]
      obtain ⟨x, y, hxy⟩ := HG.out.fit.pair hk
      obtain ⟨ga, offa, u1, u2, v1, v2, rfl, hga, hla, hcx, hcy, hax, hay⟩ := HA.out.argsAt.two hxy
      have HGA := Lib.hid hga
      have HLA := Lib.hid hla
      have HPA := Lib.hid (And.intro hcx (And.intro hcy (And.intro hax hay)))
      have HGX := Lib.hid ((good_two HG.out.fit hxy).1 HG.out)
      have HNX : Hid (nodesL t.args = x.nodes + y.nodes ∧ szL t.args = 2 + x.sz + y.sz ∧ 1 ≤ x.nodes ∧ 1 ≤ y.nodes) := Lib.hid (by
        rw [hxy]; simp only [nodesL, szL]; have := nodes_pos x; have := nodes_pos y; omega)
      have HF := Lib.hid (pair_fields HG.out hk)
      have HXY := Lib.hid hxy
      have HK := Lib.hid hk
      clear hd hxy hga hla hcx hcy hax hay hk
      have hself : Below w1.heap.size w1 w1 := Below.refl _ _
      have hdrew : Below w1.heap.size w1 w1.drew := hself.drew
      obtain ⟨c0a, c0b, c0c, c0d⟩ := HX.out.cells
      have z0 := HX.out.le
      have HCE : Hid (∀ W, Below w1.heap.size w1 W → W.cell? ⟨w.heap.size, 0, none⟩ = some (.int .i64 t.kind) ∧ W.cell? ⟨w.heap.size, 1, none⟩ = some (.int .i64 t.num) ∧ W.cell? ⟨w.heap.size, 2, none⟩ = some (.string t.name) ∧ W.cell? ⟨w.heap.size, 3, none⟩ = some (.slice (some ⟨ga, offa, none⟩) t.args.length ca)) := Lib.hid fun W hW => by
        obtain ⟨y0a, y0b, y0c, y0d⟩ := (HX.out.read hW).cells
        exact ⟨y0a, y0b, y0c, y0d⟩
      have HTR : Hid (∀ a b, Below w1.heap.size w1 a → Below a.heap.size a b → Below w1.heap.size w1 b) := Lib.hid fun a b h1 h2 => belowOn h1 (Nat.le_refl _) h2
      have HH0 : Hid (∀ W, Below w1.heap.size w1 W → Calls Try.prog 25 #[.agg #[.int .i64 t.kind, .int .i64 t.num, .string t.name, .slice (some ⟨ga, offa, none⟩) t.args.length ca]] W fun e w' => e = .returned (.agg #[.int .i64 x.kind, .int .i64 x.num, .string x.name, .slice u1 x.args.length u2]) ∧ Below W.heap.size W w') := Lib.hid fun W hW => by
        obtain ⟨q0, q1, q2, q3⟩ := HPA.out.1 W hW
        exact head_any t.kind t.num t.name ga offa t.args.length ca _ _ _ _ _ _ W (Nat.lt_of_lt_of_le HGA.out hW.size) (by have := HLA.out; omega) (by have := HLA.out; omega) q0 q1 q2 q3
      have HH1 : Hid (∀ W, Below w1.heap.size w1 W → Calls Try.prog 24 #[.agg #[.int .i64 t.kind, .int .i64 t.num, .string t.name, .slice (some ⟨ga, offa, none⟩) t.args.length ca]] W fun e w' => e = .returned (.agg #[.int .i64 y.kind, .int .i64 y.num, .string y.name, .slice v1 y.args.length v2]) ∧ Below W.heap.size W w') := Lib.hid fun W hW => by
        obtain ⟨q0, q1, q2, q3⟩ := HPA.out.2.1 W hW
        exact tail_any t.kind t.num t.name ga offa t.args.length ca _ _ _ _ _ _ W (Nat.lt_of_lt_of_le HGA.out hW.size) (by have := HLA.out; omega) (by have := HLA.out; omega) q0 q1 q2 q3
      have HC0 : Hid (∀ W, Below w1.heap.size w1 W → Calls Try.prog 26 #[.agg #[.int .i64 x.kind, .int .i64 x.num, .string x.name, .slice u1 x.args.length u2]] W (NewTm x W)) := Lib.hid fun W hW => HI.out x _ W (by have := HNX.out; have := HNE.out; omega) (HPA.out.2.2.1.kept hW) (by have := HNX.out; have := HS.out; omega) HGX.out.1
      have HC1 : Hid (∀ W, Below w1.heap.size w1 W → Calls Try.prog 26 #[.agg #[.int .i64 y.kind, .int .i64 y.num, .string y.name, .slice v1 y.args.length v2]] W (NewTm y W)) := Lib.hid fun W hW => HI.out y _ W (by have := HNX.out; have := HNE.out; omega) (HPA.out.2.2.2.kept hW) (by have := HNX.out; have := HS.out; omega) HGX.out.2
      have HRB : Hid (∀ W, Below w1.heap.size w1 W → W.heap[w.heap.size + 1]? = some (Obj.cells #[.int .i64 0, .int .i64 0, .string ⟨#[]⟩, .slice none 0 0] 25)) := Lib.hid fun W hW => (HR.out.read hW).now
      have HRL : Hid (w.heap.size ≤ w.heap.size + 1 ∧ w.heap.size + 1 < w1.heap.size) := Lib.hid ⟨by omega, by have := HR.out.le; omega⟩
      have ne1 : ¬ w.heap.size = w.heap.size + 1 := by omega
      have ne2 : ¬ w.heap.size + 1 = w.heap.size := by omega
      clear HA HX HR HI HPA
      go_upto_region 2 with (fail)
      go_region_held3 (fun w' => w'.cell? ⟨w.heap.size, 0, none⟩ = some (.int .i64 t.kind) ∧ w'.cell? ⟨w.heap.size, 1, none⟩ = some (.int .i64 t.num) ∧ w'.cell? ⟨w.heap.size, 2, none⟩ = some (.string t.name) ∧ w'.cell? ⟨w.heap.size, 3, none⟩ = some (.slice (some ⟨ga, offa, none⟩) t.args.length ca)) (go_keep)
        (first
          | (go_at_call 25; (with_reducible refine Calls.mono (HH0.out _ ?_) ?_); (assumption); rintro e wA ⟨rfl, hbA⟩; have hA' := HTR.out _ _ (by assumption) hbA; obtain ⟨k0, k1, k2, k3⟩ := HCE.out _ hA')
          | (go_at_call 26; (with_reducible refine Calls.mono (HC0.out _ ?_) ?_); (assumption); rintro e wB ⟨u0, rfl, hn0⟩; have hB' := HTR.out _ _ (by assumption) hn0.2; obtain ⟨k0, k1, k2, k3⟩ := HCE.out _ hB'; obtain ⟨a0, c0, rfl⟩ := hn0.1.argsAt.slice; have HN0 := Lib.hid (And.intro hA' hn0); clear hn0)
          | (go_at_call 24; (with_reducible refine Calls.mono (HH1.out _ ?_) ?_); (assumption); rintro e wC ⟨rfl, hbC⟩; have hC' := HTR.out _ _ (by assumption) hbC; obtain ⟨k0, k1, k2, k3⟩ := HCE.out _ hC'; have HBC := Lib.hid hbC; clear hbC)
          | (go_at_call 26; (with_reducible refine Calls.mono (HC1.out _ ?_) ?_); (assumption); rintro e wD ⟨u9, rfl, hn1⟩; have hD' := HTR.out _ _ (by assumption) hn1.2; obtain ⟨k0, k1, k2, k3⟩ := HCE.out _ hD'; obtain ⟨a1, c1, rfl⟩ := hn1.1.argsAt.slice; have HN1 := Lib.hid hn1; clear hn1)
          | (go_at_call 28; (with_reducible refine Calls.mono (pairOf_any _ _ _ _ _ _ _ _ _ _ _ _ _) ?_); rintro e wE ⟨gE, rfl, hg1, hg2, hgh, hbE⟩; have hE' := HTR.out _ _ (by assumption) hbE; obtain ⟨k0, k1, k2, k3⟩ := HCE.out _ hE'; have HP := Lib.hid (newPair HN0.out.1 HN0.out.2 HBC.out HN1.out hg1 hg2 hgh hbE); have HRE := Lib.hid (HRB.out _ hE'); obtain ⟨r0, r1, r2, r3, rf⟩ := box_cells (HRB.out _ hE'); clear hg1 hg2 hgh hbE))
      all_goals (go_wp2_with fail; exact newTm_end' (p := 2) (b := w.heap.size + 1) HK.out HF.out.1 HF.out.2 rfl rfl rfl Try.underlying25 (by kernel_rfl) HRE.out HW.out HRL.out.1 HRL.out.2 (by rw [HXY.out]; exact HP.out))
    · have hd : decide (t.kind = 4) = false := decide_eq_false hk
      rw [hd]
      have HAT := Lib.hid (HG.out.fit.atom hk)
      clear hd hk
      obtain ⟨c0a, c0b, c0c, c0d⟩ := HX.out.cells
      have z0 := HX.out.le
      have HRE := Lib.hid HR.out.now
      obtain ⟨r0, r1, r2, r3, rf⟩ := box_cells HR.out.now
      have hl1 := HR.out.le
      go_wp2
      exact newTm_end (P := Try.prog) (fn := Try.f26) (t := t) (w := w) (W := w1) (p := 2) (b := w.heap.size + 1) rfl rfl rfl Try.underlying25 (by kernel_rfl) HRE.out HW.out (by omega) (by omega) (fit_atom_new HAT.out (Below.refl _ _))
end Go.Proofs.Ytokndpmoamjbfaa

