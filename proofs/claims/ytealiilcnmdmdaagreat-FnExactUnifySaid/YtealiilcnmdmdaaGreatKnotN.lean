/-
  The program's solver: filled.
-/
import Derived.Test.YtealiilcnmdmdaaGreatKnotL
namespace Go.Proofs.YtealiilcnmdmdaaGreat
open Go.RowKit
set_option linter.unusedVariables false
set_option linter.unusedSimpArgs false

/-- A new term of the call's own; only knots are written. -/
def FilP (w0 : World) (p : Nat) (s : St) (u : Tm) (w : World) (e : Ending) (w' : World) : Prop :=
  ∃ V, e = .returned (.agg #[.int .i64 u.kind, .int .i64 u.num, .string u.name, V]) ∧ Own w' 27 (iv w.heap.size w'.heap.size) V u.args ∧ SolW w0 p s w' ∧ Only (fun k => k ∈ s.D) w w'
theorem box_store {w : World} {b : Nat} {e : TypeId} {x0 x1 x2 x3 : Value} (y0 y1 y2 y3 : Value) (hb : w.heap[b]? = some (.cells #[x0, x1, x2, x3] e (0, 0))) :
    ((((w.setCell ⟨b, 0, none⟩ y0).setCell ⟨b, 1, none⟩ y1).setCell ⟨b, 2, none⟩ y2).setCell ⟨b, 3, none⟩ y3).heap[b]? = some (.cells #[y0, y1, y2, y3] e (0, 0)) ∧
      Only (fun k => k = b) w ((((w.setCell ⟨b, 0, none⟩ y0).setCell ⟨b, 1, none⟩ y1).setCell ⟨b, 2, none⟩ y2).setCell ⟨b, 3, none⟩ y3) := by
  have h0 := heap_setCell_same w b 0 _ e y0 hb
  have h1 := heap_setCell_same _ b 1 _ e y1 h0
  have h2 := heap_setCell_same _ b 2 _ e y2 h1
  have h3 := heap_setCell_same _ b 3 _ e y3 h2
  exact ⟨by simpa using h3, (((only_one w b 0 y0).trans (only_one _ b 1 y1)).trans (only_one _ b 2 y2)).trans (only_one _ b 3 y3)⟩
theorem newPairK {x y : Tm} {w1 A B C D E : World} {K : Nat → Prop} {u0 u1 : Value} {g : Nat} (hA : w1.heap.size ≤ A.heap.size) (h0 : Own B 27 (iv A.heap.size B.heap.size) u0 x.args) (hAB : A.heap.size ≤ B.heap.size) (h2 : Below B.heap.size B C)
    (h3 : Own D 27 (iv C.heap.size D.heap.size) u1 y.args) (ho : Only K C D) (hK : ∀ k, K k → k < A.heap.size) (hg : D.heap.size ≤ g) (hg2 : g < E.heap.size)
    (hh : E.heap[g]? = some (.cells #[.int .i64 x.kind, .int .i64 x.num, .string x.name, u0, .int .i64 y.kind, .int .i64 y.num, .string y.name, u1] 27)) (h4 : Below D.heap.size D E) : Own E 27 (iv w1.heap.size E.heap.size) (.slice (some ⟨g, 0, none⟩) 2 2) [x, y] := by
  have s2 := h2.size
  have s3 := ho.size
  have s4 := h4.size
  have k0 := ((h0.kept' h2 fun k hk => hk.2).only ho fun k hk hx => by have := hK k hx; have := hk.1; omega)
  refine own_pair hh (by unfold iv; omega) (k0.kept' (h4.mono (by omega : B.heap.size ≤ D.heap.size)) fun k hk => hk.2) (h3.kept' h4 fun k hk => hk.2) ?_ ?_ ?_
  · intro k hk
    unfold iv at hk ⊢
    omega
  · intro k hk
    unfold iv at hk ⊢
    omega
  · intro k hk hk'
    unfold iv at hk hk'
    omega
theorem filP_end {P : Program} {fn : Func} {t : Tm} {k i : Int} {sn : ByteArray} {w0 w W wE : World} {p : Nat} {s : St} {a : Act} {q : Tmp} {b : Nat} {x0 x1 x2 x3 u : Value} {fs : Array Field} (h1 : t.kind = k) (h2 : t.num = i) (h3 : t.name = sn) (h : fn.results = #[.cell q 27]) (hp : a.tmps.getD q undef = .pointer (some ⟨b, 0, none⟩)) (hd : a.defers = [])
    (hu : P.underlying 27 = some (.struct fs)) (hi : (P.info? 27).map (·.size) = some 4) (hb : wE.heap[b]? = some (Obj.cells #[x0, x1, x2, x3] 27))
    (hW : w.heap.size ≤ W.heap.size) (hb1 : w.heap.size ≤ b) (hb2 : b < W.heap.size) (hn : Own wE 27 (iv W.heap.size wE.heap.size) u t.args) (hS : SolW w0 p s wE) (hlo : w0.heap.size ≤ w.heap.size) (hO : Only (fun k => k ∈ s.D) w wE) :
    bodyPost P fn (FilP w0 p s t w) .ret a ((((wE.setCell ⟨b, 0, none⟩ (.int .i64 k)).setCell ⟨b, 1, none⟩ (.int .i64 i)).setCell ⟨b, 2, none⟩ (.string sn)).setCell ⟨b, 3, none⟩ u) := by
  subst h1
  subst h2
  subst h3
  refine bodyPost_four h hp hd hu rfl hi hb fun w' hw => ⟨_, rfl, ?_, hS.box hb hw (by omega), ⟨hw.os.trans hO.os, hw.tape.trans hO.tape, hw.output.trans hO.output, Nat.le_trans hO.size hw.size, fun k hk hn => (hw.block k (Nat.lt_of_lt_of_le hk hO.size) (by omega)).trans (hO.block k hk hn)⟩⟩
  refine (hn.only hw fun k hk hx => ?_).sub fun k hk => ?_
  · subst hx
    have := hk.1
    omega
  · have := hw.size
    unfold iv at hk ⊢
    omega

set_option maxRecDepth 100000 in
set_option maxHeartbeats 8000000 in
theorem filled_any (N : Nat) : ∀ (w0 : World) (p : Nat) (s : St) (E : List (Tm × Tm)) (t u : Tm) (V : Value) (w : World), u.nodes < N → Fill s t u → SolW w0 p s w → KInv s E → ArgsS w0 (fun k => k < w0.heap.size) V t.args → Ok t →
    Calls Tryz.prog 82 #[.pointer (some ⟨p, 0, none⟩), .agg #[.int .i64 t.kind, .int .i64 t.num, .string t.name, V]] w (FilP w0 p s u w) := by
  induction N with
  | zero => intro w0 p s E t u V w hN; omega
  | succ N ih =>
    intro w0 p s E t u V w hN hF h hI hA hO
    obtain ⟨aa, ca, rfl⟩ := hA.at.slice
    have HX := Lib.hid (at_box_of w #[.int .i64 t.kind, .int .i64 t.num, .string t.name, .slice aa t.args.length ca] 27 w.heap.size rfl)
    have HR := Lib.hid (at_box_of (w.alloc (.cells #[.int .i64 t.kind, .int .i64 t.num, .string t.name, .slice aa t.args.length ca] 27)) #[.int .i64 0, .int .i64 0, .string ⟨#[]⟩, .slice none 0 0] 27 (w.heap.size + 1) (by simp))
    replace HX := Lib.hid (HX.out.read (belowAlloc (Below.refl _ _) (.cells #[.int .i64 0, .int .i64 0, .string ⟨#[]⟩, .slice none 0 0] 27)))
    have HW := Lib.hid (belowAlloc (belowAlloc (Below.refl w.heap.size w) (.cells #[.int .i64 t.kind, .int .i64 t.num, .string t.name, .slice aa t.args.length ca] 27)) (.cells #[.int .i64 0, .int .i64 0, .string ⟨#[]⟩, .slice none 0 0] 27))
    have HSZ : Hid (((w.alloc (.cells #[.int .i64 t.kind, .int .i64 t.num, .string t.name, .slice aa t.args.length ca] 27)).alloc (.cells #[.int .i64 0, .int .i64 0, .string ⟨#[]⟩, .slice none 0 0] 27)).heap.size = w.heap.size + 2) := Lib.hid (by simp)
    have HLO := Lib.hid h.old.size
    have HND : Hid (∀ k ∈ s.D, k < w.heap.size) := Lib.hid fun k hk => h.lt hk
    have HI := Lib.hid ih
    have HK := Lib.hid hI
    have HMO := Lib.hid (hI.mean_ok hO)
    have HFI := Lib.hid hF.inv
    have HNN := Lib.hid hN
    have HC := Lib.hid (meaning_any w0 p s t _ _ (h.kept HW.out) hI.pre2 hA hO)
    clear ih h hI hA hO hF hN
    unfold MeanP at HC
    generalize meanT s t = m at HC HMO HFI
    go_enter Tryz.func82, Tryz.ntmps82
    go_upto_region 1 with (fail)
    generalize hwa : (w.alloc (.cells #[.int .i64 t.kind, .int .i64 t.num, .string t.name, .slice aa t.args.length ca] 27)).alloc (.cells #[.int .i64 0, .int .i64 0, .string ⟨#[]⟩, .slice none 0 0] 27) = wa at HX HR HW HC HSZ ⊢
    clear hwa
    obtain ⟨c0, c1, c2, c3⟩ := HX.out.cells
    have z0 := HX.out.le
    go_wp2_with fail
    refine HC.out.mono ?_
    rintro e w1 ⟨um, rfl, hum, hs1, ho1⟩
    obtain ⟨ma, mc, rfl⟩ := hum.at.slice
    have hn0 : ¬ w.heap.size ∈ s.D := fun hk => by have := HND.out _ hk; omega
    have hn1 : ¬ w.heap.size + 1 ∈ s.D := fun hk => by have := HND.out _ hk; omega
    have hbx := bx_keep HX.out.now ho1 hn0
    have HRB := Lib.hid (bx_keep HR.out.now ho1 hn1)
    obtain ⟨hst1, hst2⟩ := box_store (.int .i64 m.kind) (.int .i64 m.num) (.string m.name) (.slice ma m.args.length mc) hbx
    have HS1 := Lib.hid (hs1.box hbx hst2 HLO.out)
    have HRB2 := Lib.hid ((hst2.block (w.heap.size + 1) (lt_of_cells HRB.out) (by omega)).trans HRB.out)
    have HB2 := Lib.hid hst1
    have HO2 : Hid (Only (fun k => k ∈ s.D) w _) := Lib.hid ((⟨(hst2.os.trans ho1.os).trans HW.out.os, (hst2.tape.trans ho1.tape).trans HW.out.tape, (hst2.output.trans ho1.output).trans HW.out.output, Nat.le_trans HW.out.size (Nat.le_trans ho1.size hst2.size), fun k hk hn => (hst2.block k (by have := HW.out.size; have := ho1.size; omega) (by omega)).trans ((ho1.block k (by have := HW.out.size; omega) hn).trans (HW.out.block k hk))⟩ : Only (fun k => k ∈ s.D) w _))
    have HZ2 : Hid (w.heap.size + 2 ≤ ((((w1.setCell ⟨w.heap.size, 0, none⟩ (.int .i64 m.kind)).setCell ⟨w.heap.size, 1, none⟩ (.int .i64 m.num)).setCell ⟨w.heap.size, 2, none⟩ (.string m.name)).setCell ⟨w.heap.size, 3, none⟩ (.slice ma m.args.length mc)).heap.size) := Lib.hid (by have h1 := ho1.size; have h2 := hst2.size; have h3 := HSZ.out; omega)
    obtain ⟨x0, x1, x2, x3, xf⟩ := box_cells hbx
    have HU := Lib.hid hum
    clear c0 c1 c2 c3 z0 HC hs1 ho1 hbx hst1 hst2 HX HR HW HRB hum hn0 hn1
    go_upto_region 2 with (fail)
    clear x0 x1 x2 x3 xf
    generalize hwb : (((w1.setCell ⟨w.heap.size, 0, none⟩ (.int .i64 m.kind)).setCell ⟨w.heap.size, 1, none⟩ (.int .i64 m.num)).setCell ⟨w.heap.size, 2, none⟩ (.string m.name)).setCell ⟨w.heap.size, 3, none⟩ (.slice ma m.args.length mc) = wb at HS1 HRB2 HB2 HO2 HZ2 ⊢
    clear hwb
    obtain ⟨b0, b1, b2, b3, _⟩ := box_cells HB2.out
    have HIP := Lib.hid (isPair_any m.kind m.num m.name (.slice ma m.args.length mc) wb)
    go_wp2_with fail
    refine HIP.out.mono ?_
    rintro e w3 ⟨rfl, hb3⟩
    have HS3 := Lib.hid (HS1.out.kept hb3)
    have HRB3 := Lib.hid ((hb3.block _ (lt_of_cells HRB2.out)).trans HRB2.out)
    have HB3 := Lib.hid ((hb3.block _ (lt_of_cells HB2.out)).trans HB2.out)
    have HO3 := Lib.hid (HO2.out.trans (Only.of_below (S := fun k => k ∈ s.D) hb3))
    have HZ3 := Lib.hid (Nat.le_trans HZ2.out hb3.size)
    clear b0 b1 b2 b3 hb3 HIP HS1 HRB2 HB2 HO2 HZ2
    have HCE : Hid (∀ W, Only (fun k => k ∈ s.D) w3 W → W.cell? ⟨w.heap.size, 0, none⟩ = some (.int .i64 m.kind) ∧ W.cell? ⟨w.heap.size, 1, none⟩ = some (.int .i64 m.num) ∧ W.cell? ⟨w.heap.size, 2, none⟩ = some (.string m.name) ∧ W.cell? ⟨w.heap.size, 3, none⟩ = some (.slice ma m.args.length mc)) := Lib.hid fun W hW => by
      obtain ⟨y0, y1, y2, y3, _⟩ := box_cells (bx_keep HB3.out hW (fun hk => by have := HND.out _ hk; omega))
      exact ⟨y0, y1, y2, y3⟩
    have HRBW : Hid (∀ W, Only (fun k => k ∈ s.D) w3 W → W.heap[w.heap.size + 1]? = some (.cells #[.int .i64 0, .int .i64 0, .string ⟨#[]⟩, .slice none 0 0] 27 (0, 0))) := Lib.hid fun W hW => bx_keep HRB3.out hW (fun hk => by have := HND.out _ hk; omega)
    have hself : Only (fun k => k ∈ s.D) w3 w3 := Only.refl _ _
    have hdrew : Only (fun k => k ∈ s.D) w3 w3.drew := Only.of_below (Below.refl _ _).drew
    have hS0 : SolW w0 p s w3 := HS3.out
    have hS1 : SolW w0 p s w3.drew := HS3.out.kept (Below.refl _ _).drew
    obtain ⟨c0a, c0b, c0c, c0d⟩ := HCE.out w3 hself
    by_cases hk : m.kind = 4
    · have hd : decide (m.kind = 4) = true := decide_eq_true hk
      rw [hd]
      obtain ⟨x, y, u', v', em, eu, fx, fy⟩ : ∃ x y u' v', m = pairTm x y ∧ u = pairTm u' v' ∧ Fill s x u' ∧ Fill s y v' := by
        rcases HFI.out with ⟨h4, _⟩ | h
        · exact absurd hk h4
        · exact h
      have hxy : m.args = [x, y] := by rw [em]; rfl
      have hok2 := HMO.out
      rw [em] at hok2
      have hoks := ok_two hok2
      have hnn := HNN.out
      rw [eu, pairTm_nodes] at hnn
      have HQV : Hid (u.kind = 4 ∧ u.num = 0 ∧ u.name = ⟨#[]⟩ ∧ u.args = [u', v']) := Lib.hid (by rw [eu]; exact ⟨rfl, rfl, rfl, rfl⟩)
      obtain ⟨ga, offa, u1, u2, v1, v2, rfl, hga, hla, hcx, hcy, hax, hay⟩ := HU.out.two hxy
      have HH0 : Hid (∀ W, SolW w0 p s W → Calls Tryz.prog 99 #[.agg #[.int .i64 m.kind, .int .i64 m.num, .string m.name, .slice (some ⟨ga, offa, none⟩) m.args.length mc]] W fun e w' => e = .returned (.agg #[.int .i64 x.kind, .int .i64 x.num, .string x.name, .slice u1 x.args.length u2]) ∧ Below W.heap.size W w') := Lib.hid fun W hW => by
        obtain ⟨q0, q1, q2, q3⟩ := hcx W hW.old
        exact head_any m.kind m.num m.name ga offa m.args.length mc _ _ _ _ _ _ W (Nat.lt_of_lt_of_le hga hW.old.size) (by omega) (by omega) q0 q1 q2 q3
      have HH1 : Hid (∀ W, SolW w0 p s W → Calls Tryz.prog 100 #[.agg #[.int .i64 m.kind, .int .i64 m.num, .string m.name, .slice (some ⟨ga, offa, none⟩) m.args.length mc]] W fun e w' => e = .returned (.agg #[.int .i64 y.kind, .int .i64 y.num, .string y.name, .slice v1 y.args.length v2]) ∧ Below W.heap.size W w') := Lib.hid fun W hW => by
        obtain ⟨q0, q1, q2, q3⟩ := hcy W hW.old
        exact tail_any m.kind m.num m.name ga offa m.args.length mc _ _ _ _ _ _ W (Nat.lt_of_lt_of_le hga hW.old.size) (by omega) (by omega) q0 q1 q2 q3
      have HC0 : Hid (∀ W, SolW w0 p s W → Calls Tryz.prog 82 #[.pointer (some ⟨p, 0, none⟩), .agg #[.int .i64 x.kind, .int .i64 x.num, .string x.name, .slice u1 x.args.length u2]] W (FilP w0 p s u' W)) := Lib.hid fun W hW => HI.out w0 p s E x u' _ W (by omega) fx hW HK.out hax hoks.1
      have HC1 : Hid (∀ W, SolW w0 p s W → Calls Tryz.prog 82 #[.pointer (some ⟨p, 0, none⟩), .agg #[.int .i64 y.kind, .int .i64 y.num, .string y.name, .slice v1 y.args.length v2]] W (FilP w0 p s v' W)) := Lib.hid fun W hW => HI.out w0 p s E y v' _ W (by omega) fy hW HK.out hay hoks.2
      have HTB : Hid (∀ a b, Only (fun k => k ∈ s.D) w3 a → Below a.heap.size a b → Only (fun k => k ∈ s.D) w3 b) := Lib.hid fun a b h1 h2 => h1.trans (Only.of_below h2)
      have HTO : Hid (∀ a b, Only (fun k => k ∈ s.D) w3 a → Only (fun k => k ∈ s.D) a b → Only (fun k => k ∈ s.D) w3 b) := Lib.hid fun a b h1 h2 => h1.trans h2
      have ne1 : ¬ w.heap.size = w.heap.size + 1 := by omega
      have ne2 : ¬ w.heap.size + 1 = w.heap.size := by omega
      clear hd hxy hga hla hcx hcy hax hay hk em eu fx fy hok2 hoks hnn HI HFI HMO HNN HU HS3 HB3 HRB3
      go_upto_region 3 with (fail)
      go_region_held3 (fun w' => w'.cell? ⟨w.heap.size, 0, none⟩ = some (.int .i64 m.kind) ∧ w'.cell? ⟨w.heap.size, 1, none⟩ = some (.int .i64 m.num) ∧ w'.cell? ⟨w.heap.size, 2, none⟩ = some (.string m.name) ∧ w'.cell? ⟨w.heap.size, 3, none⟩ = some (.slice (some ⟨ga, offa, none⟩) m.args.length mc)) (go_keep)
        (first
          | (go_at_call 99; (with_reducible refine Calls.mono (HH0.out _ (by assumption)) ?_); rintro e wA ⟨rfl, hbA⟩; have hA' := HTB.out _ _ (by assumption) hbA; have hSA := SolW.kept (by assumption) hbA; have hzA := hA'.size; obtain ⟨k0, k1, k2, k3⟩ := HCE.out _ hA'; clear hbA)
          | (go_at_call 82; (with_reducible refine Calls.mono (HC0.out _ (by assumption)) ?_); rintro e wB ⟨U0, rfl, hn0, hSB, hoB⟩; have hB' := HTO.out _ _ (by assumption) hoB; obtain ⟨k0, k1, k2, k3⟩ := HCE.out _ hB'; obtain ⟨a0, d0, rfl⟩ := hn0.argsAt.slice; have HN0 := Lib.hid (And.intro hn0 (And.intro hoB.size hA'.size)); clear hn0 hoB)
          | (go_at_call 100; (with_reducible refine Calls.mono (HH1.out _ (by assumption)) ?_); rintro e wC ⟨rfl, hbC⟩; have hC' := HTB.out _ _ (by assumption) hbC; have hSC := SolW.kept (by assumption) hbC; obtain ⟨k0, k1, k2, k3⟩ := HCE.out _ hC'; have HBC := Lib.hid hbC; clear hbC)
          | (go_at_call 82; (with_reducible refine Calls.mono (HC1.out _ (by assumption)) ?_); rintro e wD ⟨U1, rfl, hn1, hSD, hoD⟩; have hD' := HTO.out _ _ (by assumption) hoD; obtain ⟨k0, k1, k2, k3⟩ := HCE.out _ hD'; obtain ⟨a1, d1, rfl⟩ := hn1.argsAt.slice; have HN1 := Lib.hid (And.intro hn1 hoD); clear hn1 hoD)
          | (go_at_call 98; (with_reducible refine Calls.mono (pairOf_any _ _ _ _ _ _ _ _ _ _ _ _ _) ?_); rintro e wE ⟨gE, rfl, hg1, hg2, hgh, hbE⟩; have hE' := HTB.out _ _ hD' hbE; obtain ⟨k0, k1, k2, k3⟩ := HCE.out _ hE'; have HP := Lib.hid (newPairK (w1 := w3) HN0.out.2.2 HN0.out.1 HN0.out.2.1 HBC.out HN1.out.1 HN1.out.2 (fun k hk => by have h1 := HND.out k hk; have h2 := HZ3.out; have h3 := HN0.out.2.2; omega) hg1 hg2 hgh hbE); have HRE := Lib.hid (HRBW.out _ hE'); have HSE := Lib.hid (hSD.kept hbE); have HOE := Lib.hid (HO3.out.trans hE'); obtain ⟨r0, r1, r2, r3, rf⟩ := box_cells (HRBW.out _ hE'); clear hg1 hg2 hgh hbE))
      all_goals (go_wp2_with fail; exact filP_end (q := 4) (b := w.heap.size + 1) (W := w3) HQV.out.1 HQV.out.2.1 HQV.out.2.2.1 rfl rfl rfl Tryz.underlying27 (by kernel_rfl) HRE.out (by have := HZ3.out; omega) (by omega) (by have := HZ3.out; omega) (by rw [HQV.out.2.2.2]; exact HP.out) HSE.out HLO.out HOE.out)
    · have hd : decide (m.kind = 4) = false := decide_eq_false hk
      rw [hd]
      obtain rfl : u = m := by
        rcases HFI.out with ⟨_, h⟩ | ⟨x, y, u', v', em, _⟩
        · exact h
        · rw [em] at hk; exact absurd rfl hk
      have HZZ : Hid (u.sz ≤ 1048576) := Lib.hid (by have h1 := good_sz HMO.out.2; have h2 := HMO.out.1; omega)
      have HC := Lib.hid (copied_any (u.nodes + 1) u _ w3 (by omega) (HU.out.frame HS3.out.old.size fun j hj _ => HS3.out.old.block j hj).at HZZ.out HMO.out.2)
      clear hd hk HFI HMO hself hdrew hS0 hS1 HI
      go_wp2_with fail
      refine HC.out.mono ?_
      rintro e w4 ⟨V4, rfl, hn⟩
      have hE' : Only (fun k => k ∈ s.D) w3 w4 := Only.of_below hn.2
      have HRE := Lib.hid (HRBW.out _ hE')
      obtain ⟨r0, r1, r2, r3, rf⟩ := box_cells (HRBW.out _ hE')
      obtain ⟨a0, d0, rfl⟩ := hn.1.argsAt.slice
      have HN := Lib.hid hn.1
      have HSE := Lib.hid (HS3.out.kept hn.2)
      have HOE := Lib.hid (HO3.out.trans hE')
      clear hn hE' c0a c0b c0c c0d HC
      go_wp2
      exact filP_end (q := 4) (b := w.heap.size + 1) (W := w3) rfl rfl rfl rfl rfl rfl Tryz.underlying27 (by kernel_rfl) HRE.out (by have := HZ3.out; omega) (by omega) (by have := HZ3.out; omega) HN.out HSE.out HLO.out HOE.out
end Go.Proofs.YtealiilcnmdmdaaGreat

