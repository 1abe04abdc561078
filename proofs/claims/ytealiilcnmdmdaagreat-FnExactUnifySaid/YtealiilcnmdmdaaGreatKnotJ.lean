/-
  The program's solver: meaning, roomAfter.
-/
import Derived.Test.YtealiilcnmdmdaaGreatKnotI
namespace Go.Proofs.YtealiilcnmdmdaaGreat
open Go.RowKit
set_option linter.unusedVariables false
set_option linter.unusedSimpArgs false

def isT (T : TypeId) (o : Option Obj) : Prop := ∃ cs, o = some (.cells cs T (0, 0))
theorem not_isT {cs : Array Value} {t T : TypeId} (h : t ≠ T) : ¬ isT T (some (.cells cs t (0, 0))) := by
  rintro ⟨c, e⟩
  simp only [Option.some.injEq, Obj.cells.injEq] at e
  exact h e.2.1
/-- Blocks of a type that the solver has none of may turn. -/
theorem SolT.other {w0 w w' : World} {p : Nat} {s : St} {tie : Nat → Option Nat} (T : TypeId) (h1 : 110 ≠ T) (h2 : 88 ≠ T) (h3 : 81 ≠ T) (h4 : 90 ≠ T) (h5 : 84 ≠ T) (h : SolT w0 p s tie w) (hf : Fr (isT T) w w') (hB : Below w0.heap.size w w') : SolT w0 p s tie w' := by
  obtain ⟨mb, SV, xs, n, hh⟩ := h.head
  obtain ⟨es, clock, hm⟩ := hh.map.block
  refine ⟨h.old.trans hB, h.tieD, h.chain, fun b hb => ?_, h.plo, mb, SV, xs, n, ⟨hf.cells hh.cell (not_isT h2), hh.mlo, hh.map.frame (hf.block mb (lt_of_cells hm) ?_), hh.count, rowT_kept hh.row fun k cs hk => hf.block k (lt_of_cells hk) (by rw [hk]; exact not_isT h3), hh.steps.1, fun j v q a1 a2 => ?_⟩⟩
  · have hk := h.knots b hb
    refine hk.keep hf (fun _ => not_isT h4) ?_
    obtain ⟨_, _, _, _, hc, _⟩ := hk
    exact hf.block b (lt_of_cells hc) (by rw [hc]; exact not_isT h1)
  · rw [hm]
    rintro ⟨c, e⟩
    simp at e
  · obtain ⟨x, y, z, e, b1, b2, b3⟩ := hh.steps.2 j v q a1 a2
    exact ⟨x, y, z, e, hf.cells b1 (not_isT h5), hf.cells b2 (not_isT h4), hf.cells b3 (not_isT h4)⟩
theorem SolW.box {w0 w w' : World} {p b : Nat} {s : St} {cs : Array Value} (h : SolW w0 p s w) (hb : w.heap[b]? = some (.cells cs 27 (0, 0))) (ho : Only (fun k => k = b) w w') (hlo : w0.heap.size ≤ b) : SolW w0 p s w' := by
  obtain ⟨tie, h⟩ := h
  exact ⟨tie, h.other 27 (by decide) (by decide) (by decide) (by decide) (by decide) (Fr.one ho ⟨_, hb⟩) (ho.below (fun k e => by subst e; exact hlo) h.old.size)⟩
/-- The knots lie below the heap's end. -/
theorem SolW.lt {w0 w : World} {p : Nat} {s : St} (h : SolW w0 p s w) {k : Nat} (hk : k ∈ s.D) : k < w.heap.size := by
  obtain ⟨tie, h⟩ := h
  exact (h.knots k hk).lt
/-- A box of a term that the call has laid. -/
theorem bx_keep {w w1 : World} {s : St} {b : Nat} {o : Obj} (hb : w.heap[b]? = some o) (ho : Only (fun k => k ∈ s.D) w w1) (hn : ¬ b ∈ s.D) : w1.heap[b]? = some o := (ho.block b (lt_of_cells hb) hn).trans hb

def MeanP (w0 : World) (p : Nat) (s : St) (t : Tm) (w : World) (e : Ending) (w' : World) : Prop :=
  ∃ u, e = .returned (.agg #[.int .i64 (meanT s t).kind, .int .i64 (meanT s t).num, .string (meanT s t).name, u]) ∧ ArgsS w0 (fun k => k < w0.heap.size) u (meanT s t).args ∧ SolW w0 p s w' ∧ Only (fun k => k ∈ s.D) w w'
structure Pre2 (s : St) : Prop where
  pre : Pre s
  repD : ∀ b ∈ s.D, s.rep b ∈ s.D
theorem KInv.pre2 {s : St} {E : List (Tm × Tm)} (h : KInv s E) : Pre2 s := ⟨h.pre, h.repD⟩

set_option maxRecDepth 100000 in
set_option maxHeartbeats 4000000 in
theorem meaning_any (w0 : World) (p : Nat) (s : St) (t : Tm) (V : Value) (w : World) (h : SolW w0 p s w) (hP : Pre2 s) (hA : ArgsS w0 (fun k => k < w0.heap.size) V t.args) (hO : Ok t) :
    Calls Tryz.prog 97 #[.pointer (some ⟨p, 0, none⟩), .agg #[.int .i64 t.kind, .int .i64 t.num, .string t.name, V]] w (MeanP w0 p s t w) := by
  obtain ⟨aa, ca, rfl⟩ := hA.at.slice
  have HX := Lib.hid (at_box_of w #[.int .i64 t.kind, .int .i64 t.num, .string t.name, .slice aa t.args.length ca] 27 w.heap.size rfl)
  have HR := Lib.hid (at_box_of (w.alloc (.cells #[.int .i64 t.kind, .int .i64 t.num, .string t.name, .slice aa t.args.length ca] 27)) #[.int .i64 0, .int .i64 0, .string ⟨#[]⟩, .slice none 0 0] 27 (w.heap.size + 1) (by simp))
  replace HX := Lib.hid (HX.out.read (belowAlloc (Below.refl _ _) (.cells #[.int .i64 0, .int .i64 0, .string ⟨#[]⟩, .slice none 0 0] 27)))
  have HW := Lib.hid (belowAlloc (belowAlloc (Below.refl w.heap.size w) (.cells #[.int .i64 t.kind, .int .i64 t.num, .string t.name, .slice aa t.args.length ca] 27)) (.cells #[.int .i64 0, .int .i64 0, .string ⟨#[]⟩, .slice none 0 0] 27))
  have HS := Lib.hid h
  have HA := Lib.hid hA
  have HPP := Lib.hid hP
  have HO := Lib.hid hO
  have HLO := Lib.hid h.old.size
  have HND : Hid (¬ w.heap.size + 1 ∈ s.D) := Lib.hid fun hk => by have := h.lt hk; omega
  have HEND : Hid (∀ W W' u, SolW w0 p s W → Only (fun k => k ∈ s.D) w W → W.heap[w.heap.size + 1]? = some (.cells #[.int .i64 0, .int .i64 0, .string ⟨#[]⟩, .slice none 0 0] 27 (0, 0)) → Only (fun k => k = w.heap.size + 1) W W' → ArgsS w0 (fun k => k < w0.heap.size) u (meanT s t).args →
      MeanP w0 p s t w (.returned (.agg #[.int .i64 (meanT s t).kind, .int .i64 (meanT s t).num, .string (meanT s t).name, u])) W') := Lib.hid fun W W' u h1 h2 h3 h4 h5 =>
    ⟨u, rfl, h5, h1.box h3 h4 (by have := HLO.out; omega), ⟨h4.os.trans h2.os, h4.tape.trans h2.tape, h4.output.trans h2.output, Nat.le_trans h2.size h4.size, fun k hk hn => (h4.block k (Nat.lt_of_lt_of_le hk h2.size) (by omega)).trans (h2.block k hk hn)⟩⟩
  clear h hA hP hO
  by_cases hk : t.kind = 1
  · have d0 : (t.kind != 1) = false := by rw [hk]; rfl
    have hr := vrange HO.out.2 hk
    have HWF : Hid (wfI t.num) := Lib.hid (wfI_of (by omega) (by omega))
    have HK := Lib.hid hk
    clear hk hr
    go_enter Tryz.func97, Tryz.ntmps97
    go_upto_region 1 with (fail)
    generalize hwa : (w.alloc (.cells #[.int .i64 t.kind, .int .i64 t.num, .string t.name, .slice aa t.args.length ca] 27)).alloc (.cells #[.int .i64 0, .int .i64 0, .string ⟨#[]⟩, .slice none 0 0] 27) = wa at HX HR HW ⊢
    clear hwa
    obtain ⟨c0, c1, c2, c3⟩ := HX.out.cells
    have z0 := HX.out.le
    obtain ⟨tie, hT⟩ := HS.out.kept HW.out
    obtain ⟨mb, SV, xs, n, hh⟩ := hT.head
    obtain ⟨e0, e1, e2, ef⟩ := hh.cells
    have HHM := Lib.hid hh.map
    have HSA := Lib.hid (HS.out.kept HW.out)
    clear hT hh e1 e2 ef
    cases hm : s.M t.num with
    | none =>
      have hrun : ∀ n, (Instr.lookup 85 (.map (some mb)) (.int .i64 t.num) true).run Tryz.prog (wa.drewN n) = .ok (.tuple #[.pointer none, .bool false]) (wa.drewN n) := fun n => (HHM.out.kept (below_drewN (Below.refl _ _) n)).look_no HWF.out hm
      have HME := Lib.hid (mean_free HK.out hm)
      clear hm
      go_wp2
      go_quiet (fail)
      go_upto_region 5 with (fail)
      have HB := Lib.hid (below_drewN (Below.refl wa.heap.size wa) nq)
      have HX2 := Lib.hid (HX.out.read HB.out)
      have HR2 := Lib.hid (HR.out.read HB.out).now
      have HS2 := Lib.hid (HSA.out.kept HB.out)
      have HO2 : Hid (Only (fun k => k ∈ s.D) w (wa.drewN nq)) := Lib.hid (Only.of_below (belowOn HW.out (Nat.le_refl _) HB.out))
      clear hrun c0 c1 c2 c3 z0 e0 HX HR HSA HW HB
      generalize wa.drewN nq = wb at HX2 HR2 HS2 HO2 ⊢
      obtain ⟨c0, c1, c2, c3⟩ := HX2.out.cells
      have z0 := HX2.out.le
      obtain ⟨r0, r1, r2, r3, rf⟩ := box_cells HR2.out
      go_wp2
      refine bodyPost_four (p := 4) (b := w.heap.size + 1) rfl rfl rfl Tryz.underlying27 rfl (by kernel_rfl) HR2.out fun w' hw => ?_
      have hE := HEND.out wb w' (.slice aa t.args.length ca) HS2.out HO2.out HR2.out hw (by rw [HME.out]; exact HA.out)
      rw [HME.out] at hE
      exact hE
    | some b =>
      have hrun : ∀ n, (Instr.lookup 85 (.map (some mb)) (.int .i64 t.num) true).run Tryz.prog (wa.drewN n) = .ok (.tuple #[.pointer (some ⟨b, 0, none⟩), .bool true]) (wa.drewN n) := fun n => (HHM.out.kept (below_drewN (Below.refl _ _) n)).look_yes HWF.out hm
      have HME := Lib.hid (mean_knot HK.out hm)
      have HBD := Lib.hid (HPP.out.pre.2 _ b hm).1
      clear hm
      go_wp2
      go_quiet (fail)
      go_upto_region 6 with (fail)
      have HB := Lib.hid (below_drewN (Below.refl wa.heap.size wa) nq)
      have HR2 := Lib.hid (HR.out.read HB.out).now
      have HS2 := Lib.hid (HSA.out.kept HB.out)
      have HO2 : Hid (Only (fun k => k ∈ s.D) w (wa.drewN nq)) := Lib.hid (Only.of_below (belowOn HW.out (Nat.le_refl _) HB.out))
      clear hrun c0 c1 c2 c3 z0 e0 HX HR HSA HW HB
      generalize wa.drewN nq = wb at HR2 HS2 HO2 ⊢
      have HC := Lib.hid (root_any w0 p s b wb HS2.out HBD.out)
      go_wp2_with fail
      refine HC.out.mono ?_
      rintro e wc ⟨rfl, hSc, hoc⟩
      have HR3 := Lib.hid (bx_keep HR2.out hoc HND.out)
      have HO3 := Lib.hid (HO2.out.trans hoc)
      have HS3 := Lib.hid hSc
      obtain ⟨tie, hT⟩ := hSc
      obtain ⟨a, c, PV, hAR, _, k0, k1, k2, k3, k4, k5, kf⟩ := (hT.knots _ (HPP.out.repD b HBD.out)).cells
      have HAR := Lib.hid hAR
      clear hT hAR k0 k5 kf hoc HC HR2 HS2 HO2
      obtain ⟨r0, r1, r2, r3, rf⟩ := box_cells HR3.out
      rw [HME.out] at HEND
      generalize s.tm (s.rep b) = m at k1 k2 k3 k4 HAR HEND
      go_wp2
      refine bodyPost_four (p := 4) (b := w.heap.size + 1) rfl rfl rfl Tryz.underlying27 rfl (by kernel_rfl) HR3.out fun w' hw => ?_
      exact HEND.out wc w' _ HS3.out HO3.out HR3.out hw HAR.out
  · have d0 : (t.kind != 1) = true := by simp [hk]
    have HME := Lib.hid (mean_other (s := s) hk)
    clear hk
    go_enter Tryz.func97, Tryz.ntmps97
    go_upto_region 1 with (fail)
    generalize hwa : (w.alloc (.cells #[.int .i64 t.kind, .int .i64 t.num, .string t.name, .slice aa t.args.length ca] 27)).alloc (.cells #[.int .i64 0, .int .i64 0, .string ⟨#[]⟩, .slice none 0 0] 27) = wa at HX HR HW ⊢
    clear hwa
    obtain ⟨c0, c1, c2, c3⟩ := HX.out.cells
    have z0 := HX.out.le
    obtain ⟨r0, r1, r2, r3, rf⟩ := box_cells HR.out.now
    go_wp2
    refine bodyPost_four (p := 4) (b := w.heap.size + 1) rfl rfl rfl Tryz.underlying27 rfl (by kernel_rfl) HR.out.now fun w' hw => ?_
    have hE := HEND.out wa w' (.slice aa t.args.length ca) (HS.out.kept HW.out) (Only.of_below HW.out) HR.out.now hw (by rw [HME.out]; exact HA.out)
    rw [HME.out] at hE
    exact hE
end Go.Proofs.YtealiilcnmdmdaaGreat

