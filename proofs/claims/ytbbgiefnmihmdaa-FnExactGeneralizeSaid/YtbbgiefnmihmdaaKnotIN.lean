/-
  The program's solver: a step's closure; run.
  The program's solver: meaning, roomAfter.
  The program's solver: roomAfter, filled.
  The program's solver: filled.
-/
import Derived.Test.YtbbgiefnmihmdaaKnotEH
namespace Go.Proofs.Ytbbgiefnmihmdaa
open Go.RowKit
set_option linter.unusedVariables false
set_option linter.unusedSimpArgs false

theorem step_cells {w W : World} {p : Nat} {x1 y1 z1 x y : Nat} (h1 : w.heap[x1]? = some (.cells #[ptrN p] 126 (0, 0))) (h2 : w.heap[y1]? = some (.cells #[ptrN x] 132 (0, 0))) (h3 : w.heap[z1]? = some (.cells #[ptrN y] 132 (0, 0))) (hf : Fr isM w W) :
    W.cell? ⟨x1, 0, none⟩ = some (.pointer (some ⟨p, 0, none⟩)) ∧ W.cell? ⟨y1, 0, none⟩ = some (.pointer (some ⟨x, 0, none⟩)) ∧ W.cell? ⟨z1, 0, none⟩ = some (.pointer (some ⟨y, 0, none⟩)) :=
  ⟨cell_of_row W x1 0 _ _ _ (hf.cells h1 (not_isM (by decide) (by decide) (by decide))), cell_of_row W y1 0 _ _ _ (hf.cells h2 (not_isM (by decide) (by decide) (by decide))), cell_of_row W z1 0 _ _ _ (hf.cells h3 (not_isM (by decide) (by decide) (by decide)))⟩

set_option maxRecDepth 100000 in
set_option maxHeartbeats 2000000 in
theorem closure_any (w0 : World) (p : Nat) (s0 : St) (E : List (Tm × Tm)) (r : List (Nat × Nat)) (x y : Nat) (x1 y1 z1 : Nat) (w : World) (c : EqC w0 p s0 E r x y (s0.rep x) (s0.rep y) w)
    (h1 : w.heap[x1]? = some (.cells #[ptrN p] 126 (0, 0))) (h2 : w.heap[y1]? = some (.cells #[ptrN x] 132 (0, 0))) (h3 : w.heap[z1]? = some (.cells #[ptrN y] 132 (0, 0))) :
    Calls Try.prog 147 #[.pointer (some ⟨x1, 0, none⟩), .pointer (some ⟨y1, 0, none⟩), .pointer (some ⟨z1, 0, none⟩)] w (EqP w0 p E s0 w) := by
  have HCE : Hid (∀ W, Fr isM w W → W.cell? ⟨x1, 0, none⟩ = some (.pointer (some ⟨p, 0, none⟩)) ∧ W.cell? ⟨y1, 0, none⟩ = some (.pointer (some ⟨x, 0, none⟩)) ∧ W.cell? ⟨z1, 0, none⟩ = some (.pointer (some ⟨y, 0, none⟩))) := Lib.hid fun W hf => step_cells h1 h2 h3 hf
  have hxD := c.xD
  have hyD := c.yD
  have HR0 : Hid (∀ W, SolW w0 p (popS s0 r) W → Calls Try.prog 149 #[.pointer (some ⟨x, 0, none⟩)] W fun e w' => e = .returned (.pointer (some ⟨s0.rep x, 0, none⟩)) ∧ SolW w0 p (popS s0 r) w' ∧ Fr isM W w') := Lib.hid fun W hW =>
    (root_any w0 p (popS s0 r) x W hW hxD).mono fun e w' ⟨a1, a2, a3⟩ => ⟨a1, a2, (hW.fr a3).wide⟩
  have HR1 : Hid (∀ W, SolW w0 p (popS s0 r) W → Calls Try.prog 149 #[.pointer (some ⟨y, 0, none⟩)] W fun e w' => e = .returned (.pointer (some ⟨s0.rep y, 0, none⟩)) ∧ SolW w0 p (popS s0 r) w' ∧ Fr isM W w') := Lib.hid fun W hW =>
    (root_any w0 p (popS s0 r) y W hW hyD).mono fun e w' ⟨a1, a2, a3⟩ => ⟨a1, a2, (hW.fr a3).wide⟩
  have HEQ : Hid (∀ W, SolW w0 p (popS s0 r) W → Fr isM w W → Calls Try.prog 148 #[.pointer (some ⟨p, 0, none⟩), .pointer (some ⟨s0.rep x, 0, none⟩), .pointer (some ⟨s0.rep y, 0, none⟩)] W fun e w' => ∃ bl, e = .returned (.bool bl) ∧ EqP w0 p E s0 w (.returned (.bool bl)) w') := Lib.hid fun W hW hf =>
    (equate_any w0 p s0 E r x y _ _ W ⟨hW, c.hI, c.hs, rfl, rfl, c.hC, c.hS, c.hB⟩).mono fun e w' ⟨bl, he, h5, h6⟩ => ⟨bl, he, bl, rfl, hf.trans h5, h6⟩
  have HTG : Hid (∀ a b, Fr isM w a → Fr isM a b → Fr isM w b) := Lib.hid fun a b h1 h2 => h1.trans h2
  have hS0 : SolW w0 p (popS s0 r) w := c.h
  have hS1 : SolW w0 p (popS s0 r) w.drew := c.h.kept (Below.refl _ _).drew
  have hF0 : Fr isM w w := Fr.refl _ _
  have hF1 : Fr isM w w.drew := Fr.of_below (Below.refl _ _).drew
  obtain ⟨k1, k2, k3⟩ := HCE.out w hF0
  generalize s0.rep x = a at HR0 HEQ
  generalize s0.rep y = b at HR1 HEQ
  clear c h1 h2 h3 hxD hyD
  go_enter Try.func147, Try.ntmps147
  go_upto_region 1 with (fail)
  go_region_held3 (fun w' => w'.cell? ⟨x1, 0, none⟩ = some (.pointer (some ⟨p, 0, none⟩)) ∧ w'.cell? ⟨y1, 0, none⟩ = some (.pointer (some ⟨x, 0, none⟩)) ∧ w'.cell? ⟨z1, 0, none⟩ = some (.pointer (some ⟨y, 0, none⟩))) (go_keep)
    (first
      | (go_at_call 149; (with_reducible refine Calls.mono (HR0.out _ (by assumption)) ?_); rintro e wA ⟨rfl, hSA, hfA⟩; have hFA := HTG.out _ _ (by assumption) hfA; obtain ⟨k1, k2, k3⟩ := HCE.out _ hFA; clear hfA)
      | (go_at_call 149; (with_reducible refine Calls.mono (HR1.out _ (by assumption)) ?_); rintro e wB ⟨rfl, hSB, hfB⟩; have hFB := HTG.out _ _ (by assumption) hfB; obtain ⟨k1, k2, k3⟩ := HCE.out _ hFB; clear hfB)
      | (go_at_call 148; (with_reducible refine Calls.mono (HEQ.out _ (by assumption) (by assumption)) ?_); rintro e wC ⟨bl, rfl, hE⟩; have HX := Lib.hid hE; have hFC := hE.choose_spec.2.1; obtain ⟨k1, k2, k3⟩ := HCE.out _ hFC; clear hE))
  all_goals (go_wp2; go_ret; exact HX.out)

/-- What run gives. -/
def RunP (w0 : World) (p : Nat) (E : List (Tm × Tm)) (w : World) (e : Ending) (w' : World) : Prop :=
  ∃ bl, e = .returned (.bool bl) ∧ Fr isM w w' ∧ ∃ s, SolW w0 p s w' ∧ (bl = true → KInv s E ∧ s.steps = [] ∧ s.bound ≤ 400 ∧ credB s ≤ 1099511500000) ∧ (bl = false → Dead E)

set_option maxRecDepth 100000 in
set_option maxHeartbeats 4000000 in
theorem run_any (w0 : World) (p : Nat) (s : St) (E : List (Tm × Tm)) (w : World) (h : SolW w0 p s w) (hI : KInv s E) (hC : credB s ≤ 1099511500000) (hM : muS s ≤ 1099511500000) (hB : s.bound ≤ 400) :
    Calls Try.prog 113 #[.pointer (some ⟨p, 0, none⟩)] w (RunP w0 p E w) := by
  have H0 : Hid (∃ s, SolW w0 p s w ∧ KInv s E ∧ credB s ≤ 1099511500000 ∧ muS s ≤ 1099511500000 ∧ s.bound ≤ 400) := Lib.hid ⟨s, h, hI, hC, hM, hB⟩
  obtain ⟨n0, hn0⟩ : ∃ n, muS s = n := ⟨_, rfl⟩
  have HN := Lib.hid hn0
  have HS0 := Lib.hid (And.intro h (And.intro hI (And.intro hC (And.intro hM hB))))
  clear h hI hC hM hB hn0 H0
  go_enter Try.func113, Try.ntmps113
  go_wp2
  go_loopg [] n0 (fun gk wr => Hid (∃ s, muS s = gk ∧ SolW w0 p s wr ∧ KInv s E ∧ credB s ≤ 1099511500000 ∧ muS s ≤ 1099511500000 ∧ s.bound ≤ 400 ∧ Fr isM w wr))
  case atStart => exact Lib.hid ⟨s, HN.out, HS0.out.1, HS0.out.2.1, HS0.out.2.2.1, HS0.out.2.2.2.1, HS0.out.2.2.2.2, Fr.refl _ _⟩
  case round =>
    clear HS0 HN
    obtain ⟨s, hmu, hS, hI, hC, hM, hB, hF⟩ := hrel.out
    obtain ⟨tie, hT⟩ := hS
    obtain ⟨mb, SV, xs, n, hh⟩ := hT.head
    clear hrel
    rcases List.eq_nil_or_concat s.steps with hs | ⟨r, q, hs⟩
    · have hxs : xs = [] := List.length_eq_zero_iff.1 (by rw [hh.steps.1, hs]; rfl)
      subst hxs
      obtain ⟨oa, oc, rfl⟩ : ∃ a c, SV = .slice a 0 c := by
        rcases hh.row.shape with ⟨rfl, _⟩ | ⟨g, cap, rfl, _⟩
        · exact ⟨none, 0, rfl⟩
        · exact ⟨_, _, rfl⟩
      obtain ⟨e0, e1, e2, ef⟩ := hh.cells
      have HE : Hid (RunP w0 p E w (.returned (.bool true)) wr) := Lib.hid ⟨true, rfl, hF, s, ⟨tie, hT⟩, fun _ => ⟨hI, hs, hB, hC⟩, (fun h => by cases h)⟩
      clear hmu hT hh hI hC hM hB hF hs e0 e1 ef
      go_wp2
      go_ret
      exact HE.out
    · rw [List.concat_eq_append] at hs
      obtain ⟨x, y⟩ := q
      have hst := hh.steps
      rw [hs] at hst
      obtain ⟨ys, v, rfl, hys, x1, y1, z1, rfl, b1, b2, b3⟩ := hst.init
      obtain ⟨g, cap, rfl, _, hgl, hlc, hcm, hrow, _⟩ : ∃ g cap, SV = .slice (some ⟨g, 0, none⟩) (ys.length + 1) cap ∧ w0.heap.size ≤ g ∧ g < wr.heap.size ∧ ys.length + 1 ≤ cap ∧ cap ≤ maxLen ∧ (wr.cell? ⟨g, ys.length, none⟩ = some (.func (.func 147) #[] #[ptrN x1, ptrN y1, ptrN z1])) ∧ True := by
        rcases hh.row.shape with ⟨_, h⟩ | ⟨g, cap, rfl, hb, hg, h1, h2, h3, _⟩
        · simp at h
        · refine ⟨g, cap, by simp, hb, hg, by simpa using h1, h2, ?_, trivial⟩
          rw [h3 ys.length (by simp)]
          simp
      obtain ⟨hp1, hp2⟩ := hT.pop hs hh hys
      obtain ⟨e0, e1, e2, ef⟩ := hh.cells
      have f2 := ef 2
      have hyl : ys.length ≤ 1099511500000 := by
        have h1 : s.steps.length ≤ muS s := by unfold muS; omega
        have h2 : s.steps.length = r.length + 1 := by rw [hs]; simp
        have h3 := hys.1
        omega
      have HCL : Hid (Calls Try.prog 147 #[.pointer (some ⟨x1, 0, none⟩), .pointer (some ⟨y1, 0, none⟩), .pointer (some ⟨z1, 0, none⟩)] (wr.setCell ⟨p, 2, none⟩ (.slice (some ⟨g, 0, none⟩) ys.length cap)) (EqP w0 p E s (wr.setCell ⟨p, 2, none⟩ (.slice (some ⟨g, 0, none⟩) ys.length cap)))) := Lib.hid (by
        refine closure_any w0 p s E r x y x1 y1 z1 _ ⟨⟨_, hp1⟩, hI, hs, rfl, rfl, hC, ?_, hB⟩ (hp2.cells b1 (not_isM (by decide) (by decide) (by decide))) (hp2.cells b2 (not_isM (by decide) (by decide) (by decide))) (hp2.cells b3 (not_isM (by decide) (by decide) (by decide)))
        have h1 : s.steps.length ≤ muS s := by unfold muS; omega
        omega)
      have HK := Lib.hid (And.intro hmu (And.intro hC (And.intro hM (hF.trans hp2))))
      have hps : IntKind.i64.wrap (((ys.length + 1 : Nat) : Int) - 1) = (ys.length : Int) := by
        rw [IntWalk.i64_in _ (by omega)]; omega
      clear hmu hT hI hC hM hB hF hs hst hys hp1 hp2 b1 b2 b3 e0 e1 ef hh
      unfold maxLen at hcm
      go_wp2_with fail
      refine (HCL.out).mono ?_
      rintro e w2 ⟨bl, rfl, hf2, s2, hS2, ht, hfl⟩
      have HX := Lib.hid (And.intro hf2 (And.intro hS2 (And.intro ht hfl)))
      clear hf2 hS2 ht hfl HCL e2 f2
      cases bl with
      | false =>
        have HE : Hid (RunP w0 p E w (.returned (.bool false)) w2) := Lib.hid ⟨false, rfl, HK.out.2.2.2.trans HX.out.1, s2, HX.out.2.1, (fun h => by cases h), fun _ => HX.out.2.2.2 rfl⟩
        go_wp2
        go_ret
        exact HE.out
      | true =>
        go_wp2
        go_roundg (muS s2)
        case measure => have h1 := (HX.out.2.2.1 trivial).1.mu; have h2 := HK.out.1; omega
        case rel =>
          obtain ⟨h1, h2⟩ := HX.out.2.2.1 trivial
          have h3 := HK.out
          exact Lib.hid ⟨s2, rfl, HX.out.2.1, h1.inv, Nat.le_trans h1.crd h3.2.1, Nat.le_trans (Nat.le_of_lt h1.mu) h3.2.2.1, h2, h3.2.2.2.trans HX.out.1⟩
end Go.Proofs.Ytbbgiefnmihmdaa

namespace Go.Proofs.Ytbbgiefnmihmdaa
open Go.RowKit
set_option linter.unusedVariables false
set_option linter.unusedSimpArgs false

def isT (T : TypeId) (o : Option Obj) : Prop := ∃ cs, o = some (.cells cs T (0, 0))
theorem not_isT {cs : Array Value} {t T : TypeId} (h : t ≠ T) : ¬ isT T (some (.cells cs t (0, 0))) := by
  rintro ⟨c, e⟩
  simp only [Option.some.injEq, Obj.cells.injEq] at e
  exact h e.2.1
/-- Blocks of a type that the solver has none of may turn. -/
theorem SolT.other {w0 w w' : World} {p : Nat} {s : St} {tie : Nat → Option Nat} (T : TypeId) (h1 : 154 ≠ T) (h2 : 130 ≠ T) (h3 : 134 ≠ T) (h4 : 132 ≠ T) (h5 : 126 ≠ T) (h : SolT w0 p s tie w) (hf : Fr (isT T) w w') (hB : Below w0.heap.size w w') : SolT w0 p s tie w' := by
  obtain ⟨mb, SV, xs, n, hh⟩ := h.head
  obtain ⟨es, clock, hm⟩ := hh.map.block
  refine ⟨h.old.trans hB, h.tieD, h.chain, fun b hb => ?_, h.plo, mb, SV, xs, n, ⟨hf.cells hh.cell (not_isT h2), hh.mlo, hh.map.frame (hf.block mb (lt_of_cells hm) ?_), hh.count, rowT_kept hh.row fun k cs hk => hf.block k (lt_of_cells hk) (by rw [hk]; exact not_isT h3), hh.steps.1, fun j v q a1 a2 => ?_⟩⟩
  · have hk := h.knots b hb
    refine hk.keep hf (fun _ => not_isT h4) ?_
    obtain ⟨_, _, _, _, hc, _⟩ := hk
    exact hf.block b (lt_of_cells hc) (by rw [hc]; exact not_isT h1)
  · rw [hm]
    rintro ⟨c, e⟩
    simp at e
  · obtain ⟨x, y, z, e, b1, b2, b3⟩ := hh.steps.2 j v q a1 a2
    exact ⟨x, y, z, e, hf.cells b1 (not_isT h5), hf.cells b2 (not_isT h4), hf.cells b3 (not_isT h4)⟩
theorem SolW.box {w0 w w' : World} {p b : Nat} {s : St} {cs : Array Value} (h : SolW w0 p s w) (hb : w.heap[b]? = some (.cells cs 27 (0, 0))) (ho : Only (fun k => k = b) w w') (hlo : w0.heap.size ≤ b) : SolW w0 p s w' := by
  obtain ⟨tie, h⟩ := h
  exact ⟨tie, h.other 27 (by decide) (by decide) (by decide) (by decide) (by decide) (Fr.one ho ⟨_, hb⟩) (ho.below (fun k e => by subst e; exact hlo) h.old.size)⟩
/-- The knots lie below the heap's end. -/
theorem SolW.lt {w0 w : World} {p : Nat} {s : St} (h : SolW w0 p s w) {k : Nat} (hk : k ∈ s.D) : k < w.heap.size := by
  obtain ⟨tie, h⟩ := h
  exact (h.knots k hk).lt
/-- A box of a term that the call has laid. -/
theorem bx_keep {w w1 : World} {s : St} {b : Nat} {o : Obj} (hb : w.heap[b]? = some o) (ho : Only (fun k => k ∈ s.D) w w1) (hn : ¬ b ∈ s.D) : w1.heap[b]? = some o := (ho.block b (lt_of_cells hb) hn).trans hb

def MeanP (w0 : World) (p : Nat) (s : St) (t : Tm) (w : World) (e : Ending) (w' : World) : Prop :=
  ∃ u, e = .returned (.agg #[.int .i64 (meanT s t).kind, .int .i64 (meanT s t).num, .string (meanT s t).name, u]) ∧ ArgsS w0 (fun k => k < w0.heap.size) u (meanT s t).args ∧ SolW w0 p s w' ∧ Only (fun k => k ∈ s.D) w w'
structure Pre2 (s : St) : Prop where
  pre : Pre s
  repD : ∀ b ∈ s.D, s.rep b ∈ s.D
theorem KInv.pre2 {s : St} {E : List (Tm × Tm)} (h : KInv s E) : Pre2 s := ⟨h.pre, h.repD⟩

set_option maxRecDepth 100000 in
set_option maxHeartbeats 4000000 in
theorem meaning_any (w0 : World) (p : Nat) (s : St) (t : Tm) (V : Value) (w : World) (h : SolW w0 p s w) (hP : Pre2 s) (hA : ArgsS w0 (fun k => k < w0.heap.size) V t.args) (hO : Ok t) :
    Calls Try.prog 183 #[.pointer (some ⟨p, 0, none⟩), .agg #[.int .i64 t.kind, .int .i64 t.num, .string t.name, V]] w (MeanP w0 p s t w) := by
  obtain ⟨aa, ca, rfl⟩ := hA.at.slice
  have HX := Lib.hid (at_box_of w #[.int .i64 t.kind, .int .i64 t.num, .string t.name, .slice aa t.args.length ca] 27 w.heap.size rfl)
  have HR := Lib.hid (at_box_of (w.alloc (.cells #[.int .i64 t.kind, .int .i64 t.num, .string t.name, .slice aa t.args.length ca] 27)) #[.int .i64 0, .int .i64 0, .string ⟨#[]⟩, .slice none 0 0] 27 (w.heap.size + 1) (by simp))
  replace HX := Lib.hid (HX.out.read (belowAlloc (Below.refl _ _) (.cells #[.int .i64 0, .int .i64 0, .string ⟨#[]⟩, .slice none 0 0] 27)))
  have HW := Lib.hid (belowAlloc (belowAlloc (Below.refl w.heap.size w) (.cells #[.int .i64 t.kind, .int .i64 t.num, .string t.name, .slice aa t.args.length ca] 27)) (.cells #[.int .i64 0, .int .i64 0, .string ⟨#[]⟩, .slice none 0 0] 27))
  have HS := Lib.hid h
  have HA := Lib.hid hA
  have HPP := Lib.hid hP
  have HO := Lib.hid hO
  have HLO := Lib.hid h.old.size
  have HND : Hid (¬ w.heap.size + 1 ∈ s.D) := Lib.hid fun hk => by have := h.lt hk; omega
  have HEND : Hid (∀ W W' u, SolW w0 p s W → Only (fun k => k ∈ s.D) w W → W.heap[w.heap.size + 1]? = some (.cells #[.int .i64 0, .int .i64 0, .string ⟨#[]⟩, .slice none 0 0] 27 (0, 0)) → Only (fun k => k = w.heap.size + 1) W W' → ArgsS w0 (fun k => k < w0.heap.size) u (meanT s t).args →
      MeanP w0 p s t w (.returned (.agg #[.int .i64 (meanT s t).kind, .int .i64 (meanT s t).num, .string (meanT s t).name, u])) W') := Lib.hid fun W W' u h1 h2 h3 h4 h5 =>
    ⟨u, rfl, h5, h1.box h3 h4 (by have := HLO.out; omega), ⟨h4.os.trans h2.os, h4.tape.trans h2.tape, h4.output.trans h2.output, Nat.le_trans h2.size h4.size, fun k hk hn => (h4.block k (Nat.lt_of_lt_of_le hk h2.size) (by omega)).trans (h2.block k hk hn)⟩⟩
  clear h hA hP hO
  by_cases hk : t.kind = 1
  · have d0 : (t.kind != 1) = false := by rw [hk]; rfl
    have hr := vrange HO.out.2 hk
    have HWF : Hid (wfI t.num) := Lib.hid (wfI_of (by omega) (by omega))
    have HK := Lib.hid hk
    clear hk hr
    go_enter Try.func183, Try.ntmps183
    go_upto_region 1 with (fail)
    generalize hwa : (w.alloc (.cells #[.int .i64 t.kind, .int .i64 t.num, .string t.name, .slice aa t.args.length ca] 27)).alloc (.cells #[.int .i64 0, .int .i64 0, .string ⟨#[]⟩, .slice none 0 0] 27) = wa at HX HR HW ⊢
    clear hwa
    obtain ⟨c0, c1, c2, c3⟩ := HX.out.cells
    have z0 := HX.out.le
    obtain ⟨tie, hT⟩ := HS.out.kept HW.out
    obtain ⟨mb, SV, xs, n, hh⟩ := hT.head
    obtain ⟨e0, e1, e2, ef⟩ := hh.cells
    have HHM := Lib.hid hh.map
    have HSA := Lib.hid (HS.out.kept HW.out)
    clear hT hh e1 e2 ef
    cases hm : s.M t.num with
    | none =>
      have hrun : ∀ n, (Instr.lookup 127 (.map (some mb)) (.int .i64 t.num) true).run Try.prog (wa.drewN n) = .ok (.tuple #[.pointer none, .bool false]) (wa.drewN n) := fun n => (HHM.out.kept (below_drewN (Below.refl _ _) n)).look_no HWF.out hm
      have HME := Lib.hid (mean_free HK.out hm)
      clear hm
      go_wp2
      go_quiet (fail)
      go_upto_region 5 with (fail)
      have HB := Lib.hid (below_drewN (Below.refl wa.heap.size wa) nq)
      have HX2 := Lib.hid (HX.out.read HB.out)
      have HR2 := Lib.hid (HR.out.read HB.out).now
      have HS2 := Lib.hid (HSA.out.kept HB.out)
      have HO2 : Hid (Only (fun k => k ∈ s.D) w (wa.drewN nq)) := Lib.hid (Only.of_below (belowOn HW.out (Nat.le_refl _) HB.out))
      clear hrun c0 c1 c2 c3 z0 e0 HX HR HSA HW HB
      generalize wa.drewN nq = wb at HX2 HR2 HS2 HO2 ⊢
      obtain ⟨c0, c1, c2, c3⟩ := HX2.out.cells
      have z0 := HX2.out.le
      obtain ⟨r0, r1, r2, r3, rf⟩ := box_cells HR2.out
      go_wp2
      refine bodyPost_four (p := 4) (b := w.heap.size + 1) rfl rfl rfl Try.underlying27 rfl (by kernel_rfl) HR2.out fun w' hw => ?_
      have hE := HEND.out wb w' (.slice aa t.args.length ca) HS2.out HO2.out HR2.out hw (by rw [HME.out]; exact HA.out)
      rw [HME.out] at hE
      exact hE
    | some b =>
      have hrun : ∀ n, (Instr.lookup 127 (.map (some mb)) (.int .i64 t.num) true).run Try.prog (wa.drewN n) = .ok (.tuple #[.pointer (some ⟨b, 0, none⟩), .bool true]) (wa.drewN n) := fun n => (HHM.out.kept (below_drewN (Below.refl _ _) n)).look_yes HWF.out hm
      have HME := Lib.hid (mean_knot HK.out hm)
      have HBD := Lib.hid (HPP.out.pre.2 _ b hm).1
      clear hm
      go_wp2
      go_quiet (fail)
      go_upto_region 6 with (fail)
      have HB := Lib.hid (below_drewN (Below.refl wa.heap.size wa) nq)
      have HR2 := Lib.hid (HR.out.read HB.out).now
      have HS2 := Lib.hid (HSA.out.kept HB.out)
      have HO2 : Hid (Only (fun k => k ∈ s.D) w (wa.drewN nq)) := Lib.hid (Only.of_below (belowOn HW.out (Nat.le_refl _) HB.out))
      clear hrun c0 c1 c2 c3 z0 e0 HX HR HSA HW HB
      generalize wa.drewN nq = wb at HR2 HS2 HO2 ⊢
      have HC := Lib.hid (root_any w0 p s b wb HS2.out HBD.out)
      go_wp2_with fail
      refine HC.out.mono ?_
      rintro e wc ⟨rfl, hSc, hoc⟩
      have HR3 := Lib.hid (bx_keep HR2.out hoc HND.out)
      have HO3 := Lib.hid (HO2.out.trans hoc)
      have HS3 := Lib.hid hSc
      obtain ⟨tie, hT⟩ := hSc
      obtain ⟨a, c, PV, hAR, _, k0, k1, k2, k3, k4, k5, kf⟩ := (hT.knots _ (HPP.out.repD b HBD.out)).cells
      have HAR := Lib.hid hAR
      clear hT hAR k0 k5 kf hoc HC HR2 HS2 HO2
      obtain ⟨r0, r1, r2, r3, rf⟩ := box_cells HR3.out
      rw [HME.out] at HEND
      generalize s.tm (s.rep b) = m at k1 k2 k3 k4 HAR HEND
      go_wp2
      refine bodyPost_four (p := 4) (b := w.heap.size + 1) rfl rfl rfl Try.underlying27 rfl (by kernel_rfl) HR3.out fun w' hw => ?_
      exact HEND.out wc w' _ HS3.out HO3.out HR3.out hw HAR.out
  · have d0 : (t.kind != 1) = true := by simp [hk]
    have HME := Lib.hid (mean_other (s := s) hk)
    clear hk
    go_enter Try.func183, Try.ntmps183
    go_upto_region 1 with (fail)
    generalize hwa : (w.alloc (.cells #[.int .i64 t.kind, .int .i64 t.num, .string t.name, .slice aa t.args.length ca] 27)).alloc (.cells #[.int .i64 0, .int .i64 0, .string ⟨#[]⟩, .slice none 0 0] 27) = wa at HX HR HW ⊢
    clear hwa
    obtain ⟨c0, c1, c2, c3⟩ := HX.out.cells
    have z0 := HX.out.le
    obtain ⟨r0, r1, r2, r3, rf⟩ := box_cells HR.out.now
    go_wp2
    refine bodyPost_four (p := 4) (b := w.heap.size + 1) rfl rfl rfl Try.underlying27 rfl (by kernel_rfl) HR.out.now fun w' hw => ?_
    have hE := HEND.out wa w' (.slice aa t.args.length ca) (HS.out.kept HW.out) (Only.of_below HW.out) HR.out.now hw (by rw [HME.out]; exact HA.out)
    rw [HME.out] at hE
    exact hE
end Go.Proofs.Ytbbgiefnmihmdaa

namespace Go.Proofs.Ytbbgiefnmihmdaa
open Go.RowKit
set_option linter.unusedVariables false
set_option linter.unusedSimpArgs false

def Rooms (s : St) : List Tm → Int → Int → Prop
  | [], a, c => a = c
  | x :: l, a, c => ∃ b, RoomS s x a b ∧ Rooms s l b c
theorem rooms_snoc {s : St} {x : Tm} : ∀ {l : List Tm} {a b c : Int}, Rooms s l a b → RoomS s x b c → Rooms s (l ++ [x]) a c
  | [], a, b, c, h, k => by have h' : a = b := h; subst h'; exact ⟨c, k, rfl⟩
  | y :: l, a, b, c, h, k => by
    obtain ⟨d, h1, h2⟩ := h
    exact ⟨d, h1, rooms_snoc h2 k⟩
theorem rooms_take {s : St} {l : List Tm} {k : Nat} {x : Tm} {a b c : Int} (hx : l[k]? = some x) (h : Rooms s (l.take k) a b) (hr : RoomS s x b c) : Rooms s (l.take (k + 1)) a c := by
  rw [take_snoc hx]
  exact rooms_snoc h hr
theorem room_bd {s : St} {t : Tm} {room r : Int} (h : RoomS s t room r) : -1 ≤ r ∧ (r ≤ room ∨ r < 0) := by
  rcases h with ⟨u, _, h0, h1⟩ | ⟨h0, h1, _⟩
  · omega
  · omega
theorem rooms_end {s : St} {E : List (Tm × Tm)} (hI : KInv s E) {t : Tm} {room r : Int} (ht : Ok t) (h0 : 0 ≤ room) (h : Rooms s (meanT s t).args (room - 1) r) : RoomS s t room r := by
  by_cases h4 : (meanT s t).kind = 4
  · obtain ⟨x, y, e, _, _⟩ := good_pair (hI.mean_ok ht).2 h4
    rw [e] at h
    obtain ⟨b, h1, c, h2, h3⟩ := h
    have h3' : c = r := h3
    subst h3'
    exact room_pair hI ht h0 e h1 h2
  · rw [good_leaf (hI.mean_ok ht).2 h4] at h
    have h' : room - 1 = r := h
    subst h'
    exact room_leaf hI ht h0 h4

set_option maxRecDepth 100000 in
set_option maxHeartbeats 4000000 in
theorem solRoom_any (N : Nat) : ∀ (w0 : World) (p : Nat) (s : St) (E : List (Tm × Tm)) (t : Tm) (V : Value) (room : Int) (w : World), (room + 1).toNat < N → SolW w0 p s w → KInv s E → ArgsS w0 (fun k => k < w0.heap.size) V t.args → Ok t → -1 ≤ room → room ≤ 5000 →
    Calls Try.prog 150 #[.pointer (some ⟨p, 0, none⟩), .agg #[.int .i64 t.kind, .int .i64 t.num, .string t.name, V], .int .i64 room] w fun e w' => ∃ r : Int, e = .returned (.int .i64 r) ∧ RoomS s t room r ∧ SolW w0 p s w' ∧ Only (fun k => k ∈ s.D) w w' := by
  induction N with
  | zero => intro w0 p s E t V room w hN; omega
  | succ N ih =>
    intro w0 p s E t V room w hN h hI hA hO hr0 hr1
    obtain ⟨aa, ca, rfl⟩ := hA.at.slice
    have HW := Lib.hid (belowAlloc (Below.refl w.heap.size w) (.cells #[.int .i64 t.kind, .int .i64 t.num, .string t.name, .slice aa t.args.length ca] 27))
    have HX := Lib.hid (at_box_of w #[.int .i64 t.kind, .int .i64 t.num, .string t.name, .slice aa t.args.length ca] 27 w.heap.size rfl)
    have HS := Lib.hid h
    by_cases hneg : room < 0
    · have HR := Lib.hid (And.intro (room_neg (s := s) (t := t) hneg hr0) (And.intro (h.kept HW.out) (Only.of_below (S := fun k => k ∈ s.D) HW.out)))
      clear HX ih h hI hA hO HS HW
      go_enter Try.func150, Try.ntmps150
      go_wp2
      go_ret
      exact ⟨room, rfl, HR.out.1, HR.out.2.1, HR.out.2.2⟩
    have hpos : 0 ≤ room := by omega
    have HI := Lib.hid ih
    have HK := Lib.hid hI
    have HO := Lib.hid hO
    have HA := Lib.hid hA
    have HEN := Lib.hid (fun (r : Int) h => rooms_end (r := r) hI hO hpos h)
    have HMO := Lib.hid (hI.mean_ok hO)
    have HC := Lib.hid (meaning_any w0 p s t _ _ (h.kept HW.out) hI.pre2 hA hO)
    clear h hI hA hO hneg ih
    unfold MeanP at HC
    generalize meanT s t = m at HC HEN HMO
    go_enter Try.func150, Try.ntmps150
    go_wp2_with fail
    refine HC.out.mono ?_
    rintro e w1 ⟨u, rfl, hu, hs1, ho1⟩
    have HS1 := Lib.hid hs1
    have HO1 := Lib.hid ((Only.of_below (S := fun k => k ∈ s.D) HW.out).trans ho1)
    obtain ⟨ma, mc, rfl⟩ := hu.at.slice
    have HU := Lib.hid hu
    clear hu hs1 ho1 HC HX
    have hml : m.args.length ≤ 2 := by
      by_cases h4 : m.kind = 4
      · obtain ⟨x, y, e, _, _⟩ := good_pair HMO.out.2 h4
        rw [e]; exact Nat.le_refl _
      · rw [good_leaf HMO.out.2 h4]; exact Nat.zero_le _
    have hfd : ∀ W : World, (Instr.field 27 (.agg #[.int .i64 m.kind, .int .i64 m.num, .string m.name, .slice ma m.args.length mc]) 3).run Try.prog W = .ok (.slice ma m.args.length mc) W := fun _ => by kernel_rfl
    go_wp2
    clear hfd
    go_loopw [2, 19] (fun rv iv wr => ∃ (k : Nat) (r : Int), k ≤ m.args.length ∧ iv = .int .i64 k ∧ rv = .int .i64 r ∧ -1 ≤ r ∧ r ≤ room - 1 ∧ Hid (Rooms s (m.args.take k) (room - 1) r) ∧ Hid (SolW w0 p s wr ∧ Only (fun k => k ∈ s.D) w wr)) (fun _ iv _ => m.args.length - (intOf iv).toNat)
    case atStart => exact ⟨0, room - 1, Nat.zero_le _, rfl, by go_num, by omega, by omega, Lib.hid rfl, Lib.hid ⟨HS1.out, HO1.out⟩⟩
    case round =>
      obtain ⟨k, r, hk, rfl, rfl, hr0', hr1', HRK, HB⟩ := hrel
      clear HS1 HO1
      by_cases hlt : k < m.args.length
      · have hltI : (k : Int) < (m.args.length : Int) := by omega
        obtain ⟨x, hx⟩ : ∃ x, m.args[k]? = some x := ⟨_, List.getElem?_eq_getElem hlt⟩
        obtain ⟨g, off, u1, u2, rfl, hg, hq, hc, hu⟩ := HU.out.elem hx
        obtain ⟨d0, d1, d2, d3⟩ := hc wr HB.out.1.old
        have hgl : g < wr.heap.size := Nat.lt_of_lt_of_le hg HB.out.1.old.size
        have hxo : Ok x := ⟨by have h0 := nodes_at hx; have h1 := HMO.out.1; have h2 := nodes_eq m; omega, HMO.out.2.each hx⟩
        have HBX := Lib.hid (belowAlloc (Below.refl wr.heap.size wr) (.cells #[.int .i64 x.kind, .int .i64 x.num, .string x.name, .slice u1 x.args.length u2] 27))
        have HC := Lib.hid (HI.out w0 p s E x (.slice u1 x.args.length u2) r _ (by omega) (HB.out.1.kept HBX.out) HK.out hu hxo hr0' (by omega))
        have HNX := Lib.hid hx
        clear hc hu hx hq hg hxo
        go_wp2_with fail
        refine HC.out.mono ?_
        rintro e w3 ⟨r', rfl, hr', hs3, ho3⟩
        have hb := room_bd hr'
        have HR3 := Lib.hid (rooms_take HNX.out HRK.out hr')
        have HB3 := Lib.hid (And.intro hs3 ((HB.out.2.trans (Only.of_below (S := fun k => k ∈ s.D) HBX.out)).trans ho3))
        clear HC hr' d0 d1 d2 d3 hs3 ho3
        go_wp2
        go_roundw
        case rel => exact ⟨k + 1, r', by omega, by go_num, rfl, by omega, by omega, HR3, HB3⟩
        case measure => simp [intOf]; omega
      · obtain rfl : k = m.args.length := by omega
        have HRF := HRK
        rw [List.take_length] at HRF
        have HE := Lib.hid (HEN.out r HRF.out)
        clear HEN
        go_wp2
        go_ret
        exact ⟨r, rfl, HE.out, HB.out.1, HB.out.2⟩
end Go.Proofs.Ytbbgiefnmihmdaa

namespace Go.Proofs.Ytbbgiefnmihmdaa
open Go.RowKit
set_option linter.unusedVariables false
set_option linter.unusedSimpArgs false

/-- A new term of the call's own; only knots are written. -/
def FilP (w0 : World) (p : Nat) (s : St) (u : Tm) (w : World) (e : Ending) (w' : World) : Prop :=
  ∃ V, e = .returned (.agg #[.int .i64 u.kind, .int .i64 u.num, .string u.name, V]) ∧ Own w' 27 (iv w.heap.size w'.heap.size) V u.args ∧ SolW w0 p s w' ∧ Only (fun k => k ∈ s.D) w w'
theorem box_store {w : World} {b : Nat} {e : TypeId} {x0 x1 x2 x3 : Value} (y0 y1 y2 y3 : Value) (hb : w.heap[b]? = some (.cells #[x0, x1, x2, x3] e (0, 0))) :
    ((((w.setCell ⟨b, 0, none⟩ y0).setCell ⟨b, 1, none⟩ y1).setCell ⟨b, 2, none⟩ y2).setCell ⟨b, 3, none⟩ y3).heap[b]? = some (.cells #[y0, y1, y2, y3] e (0, 0)) ∧
      Only (fun k => k = b) w ((((w.setCell ⟨b, 0, none⟩ y0).setCell ⟨b, 1, none⟩ y1).setCell ⟨b, 2, none⟩ y2).setCell ⟨b, 3, none⟩ y3) := by
  have h0 := heap_setCell_same w b 0 _ e y0 hb
  have h1 := heap_setCell_same _ b 1 _ e y1 h0
  have h2 := heap_setCell_same _ b 2 _ e y2 h1
  have h3 := heap_setCell_same _ b 3 _ e y3 h2
  exact ⟨by simpa using h3, (((only_one w b 0 y0).trans (only_one _ b 1 y1)).trans (only_one _ b 2 y2)).trans (only_one _ b 3 y3)⟩
theorem newPairK {x y : Tm} {w1 A B C D E : World} {K : Nat → Prop} {u0 u1 : Value} {g : Nat} (hA : w1.heap.size ≤ A.heap.size) (h0 : Own B 27 (iv A.heap.size B.heap.size) u0 x.args) (hAB : A.heap.size ≤ B.heap.size) (h2 : Below B.heap.size B C)
    (h3 : Own D 27 (iv C.heap.size D.heap.size) u1 y.args) (ho : Only K C D) (hK : ∀ k, K k → k < A.heap.size) (hg : D.heap.size ≤ g) (hg2 : g < E.heap.size)
    (hh : E.heap[g]? = some (.cells #[.int .i64 x.kind, .int .i64 x.num, .string x.name, u0, .int .i64 y.kind, .int .i64 y.num, .string y.name, u1] 27)) (h4 : Below D.heap.size D E) : Own E 27 (iv w1.heap.size E.heap.size) (.slice (some ⟨g, 0, none⟩) 2 2) [x, y] := by
  have s2 := h2.size
  have s3 := ho.size
  have s4 := h4.size
  have k0 := ((h0.kept' h2 fun k hk => hk.2).only ho fun k hk hx => by have := hK k hx; have := hk.1; omega)
  refine own_pair hh (by unfold iv; omega) (k0.kept' (h4.mono (by omega : B.heap.size ≤ D.heap.size)) fun k hk => hk.2) (h3.kept' h4 fun k hk => hk.2) ?_ ?_ ?_
  · intro k hk
    unfold iv at hk ⊢
    omega
  · intro k hk
    unfold iv at hk ⊢
    omega
  · intro k hk hk'
    unfold iv at hk hk'
    omega
theorem filP_end {P : Program} {fn : Func} {t : Tm} {k i : Int} {sn : ByteArray} {w0 w W wE : World} {p : Nat} {s : St} {a : Act} {q : Tmp} {b : Nat} {x0 x1 x2 x3 u : Value} {fs : Array Field} (h1 : t.kind = k) (h2 : t.num = i) (h3 : t.name = sn) (h : fn.results = #[.cell q 27]) (hp : a.tmps.getD q undef = .pointer (some ⟨b, 0, none⟩)) (hd : a.defers = [])
    (hu : P.underlying 27 = some (.struct fs)) (hi : (P.info? 27).map (·.size) = some 4) (hb : wE.heap[b]? = some (Obj.cells #[x0, x1, x2, x3] 27))
    (hW : w.heap.size ≤ W.heap.size) (hb1 : w.heap.size ≤ b) (hb2 : b < W.heap.size) (hn : Own wE 27 (iv W.heap.size wE.heap.size) u t.args) (hS : SolW w0 p s wE) (hlo : w0.heap.size ≤ w.heap.size) (hO : Only (fun k => k ∈ s.D) w wE) :
    bodyPost P fn (FilP w0 p s t w) .ret a ((((wE.setCell ⟨b, 0, none⟩ (.int .i64 k)).setCell ⟨b, 1, none⟩ (.int .i64 i)).setCell ⟨b, 2, none⟩ (.string sn)).setCell ⟨b, 3, none⟩ u) := by
  subst h1
  subst h2
  subst h3
  refine bodyPost_four h hp hd hu rfl hi hb fun w' hw => ⟨_, rfl, ?_, hS.box hb hw (by omega), ⟨hw.os.trans hO.os, hw.tape.trans hO.tape, hw.output.trans hO.output, Nat.le_trans hO.size hw.size, fun k hk hn => (hw.block k (Nat.lt_of_lt_of_le hk hO.size) (by omega)).trans (hO.block k hk hn)⟩⟩
  refine (hn.only hw fun k hk hx => ?_).sub fun k hk => ?_
  · subst hx
    have := hk.1
    omega
  · have := hw.size
    unfold iv at hk ⊢
    omega

set_option maxRecDepth 100000 in
set_option maxHeartbeats 8000000 in
theorem filled_any (N : Nat) : ∀ (w0 : World) (p : Nat) (s : St) (E : List (Tm × Tm)) (t u : Tm) (V : Value) (w : World), u.nodes < N → Fill s t u → SolW w0 p s w → KInv s E → ArgsS w0 (fun k => k < w0.heap.size) V t.args → Ok t →
    Calls Try.prog 151 #[.pointer (some ⟨p, 0, none⟩), .agg #[.int .i64 t.kind, .int .i64 t.num, .string t.name, V]] w (FilP w0 p s u w) := by
  induction N with
  | zero => intro w0 p s E t u V w hN; omega
  | succ N ih =>
    intro w0 p s E t u V w hN hF h hI hA hO
    obtain ⟨aa, ca, rfl⟩ := hA.at.slice
    have HX := Lib.hid (at_box_of w #[.int .i64 t.kind, .int .i64 t.num, .string t.name, .slice aa t.args.length ca] 27 w.heap.size rfl)
    have HR := Lib.hid (at_box_of (w.alloc (.cells #[.int .i64 t.kind, .int .i64 t.num, .string t.name, .slice aa t.args.length ca] 27)) #[.int .i64 0, .int .i64 0, .string ⟨#[]⟩, .slice none 0 0] 27 (w.heap.size + 1) (by simp))
    replace HX := Lib.hid (HX.out.read (belowAlloc (Below.refl _ _) (.cells #[.int .i64 0, .int .i64 0, .string ⟨#[]⟩, .slice none 0 0] 27)))
    have HW := Lib.hid (belowAlloc (belowAlloc (Below.refl w.heap.size w) (.cells #[.int .i64 t.kind, .int .i64 t.num, .string t.name, .slice aa t.args.length ca] 27)) (.cells #[.int .i64 0, .int .i64 0, .string ⟨#[]⟩, .slice none 0 0] 27))
    have HSZ : Hid (((w.alloc (.cells #[.int .i64 t.kind, .int .i64 t.num, .string t.name, .slice aa t.args.length ca] 27)).alloc (.cells #[.int .i64 0, .int .i64 0, .string ⟨#[]⟩, .slice none 0 0] 27)).heap.size = w.heap.size + 2) := Lib.hid (by simp)
    have HLO := Lib.hid h.old.size
    have HND : Hid (∀ k ∈ s.D, k < w.heap.size) := Lib.hid fun k hk => h.lt hk
    have HI := Lib.hid ih
    have HK := Lib.hid hI
    have HMO := Lib.hid (hI.mean_ok hO)
    have HFI := Lib.hid hF.inv
    have HNN := Lib.hid hN
    have HC := Lib.hid (meaning_any w0 p s t _ _ (h.kept HW.out) hI.pre2 hA hO)
    clear ih h hI hA hO hF hN
    unfold MeanP at HC
    generalize meanT s t = m at HC HMO HFI
    go_enter Try.func151, Try.ntmps151
    go_upto_region 1 with (fail)
    generalize hwa : (w.alloc (.cells #[.int .i64 t.kind, .int .i64 t.num, .string t.name, .slice aa t.args.length ca] 27)).alloc (.cells #[.int .i64 0, .int .i64 0, .string ⟨#[]⟩, .slice none 0 0] 27) = wa at HX HR HW HC HSZ ⊢
    clear hwa
    obtain ⟨c0, c1, c2, c3⟩ := HX.out.cells
    have z0 := HX.out.le
    go_wp2_with fail
    refine HC.out.mono ?_
    rintro e w1 ⟨um, rfl, hum, hs1, ho1⟩
    obtain ⟨ma, mc, rfl⟩ := hum.at.slice
    have hn0 : ¬ w.heap.size ∈ s.D := fun hk => by have := HND.out _ hk; omega
    have hn1 : ¬ w.heap.size + 1 ∈ s.D := fun hk => by have := HND.out _ hk; omega
    have hbx := bx_keep HX.out.now ho1 hn0
    have HRB := Lib.hid (bx_keep HR.out.now ho1 hn1)
    obtain ⟨hst1, hst2⟩ := box_store (.int .i64 m.kind) (.int .i64 m.num) (.string m.name) (.slice ma m.args.length mc) hbx
    have HS1 := Lib.hid (hs1.box hbx hst2 HLO.out)
    have HRB2 := Lib.hid ((hst2.block (w.heap.size + 1) (lt_of_cells HRB.out) (by omega)).trans HRB.out)
    have HB2 := Lib.hid hst1
    have HO2 : Hid (Only (fun k => k ∈ s.D) w _) := Lib.hid ((⟨(hst2.os.trans ho1.os).trans HW.out.os, (hst2.tape.trans ho1.tape).trans HW.out.tape, (hst2.output.trans ho1.output).trans HW.out.output, Nat.le_trans HW.out.size (Nat.le_trans ho1.size hst2.size), fun k hk hn => (hst2.block k (by have := HW.out.size; have := ho1.size; omega) (by omega)).trans ((ho1.block k (by have := HW.out.size; omega) hn).trans (HW.out.block k hk))⟩ : Only (fun k => k ∈ s.D) w _))
    have HZ2 : Hid (w.heap.size + 2 ≤ ((((w1.setCell ⟨w.heap.size, 0, none⟩ (.int .i64 m.kind)).setCell ⟨w.heap.size, 1, none⟩ (.int .i64 m.num)).setCell ⟨w.heap.size, 2, none⟩ (.string m.name)).setCell ⟨w.heap.size, 3, none⟩ (.slice ma m.args.length mc)).heap.size) := Lib.hid (by have h1 := ho1.size; have h2 := hst2.size; have h3 := HSZ.out; omega)
    obtain ⟨x0, x1, x2, x3, xf⟩ := box_cells hbx
    have HU := Lib.hid hum
    clear c0 c1 c2 c3 z0 HC hs1 ho1 hbx hst1 hst2 HX HR HW HRB hum hn0 hn1
    go_upto_region 2 with (fail)
    clear x0 x1 x2 x3 xf
    generalize hwb : (((w1.setCell ⟨w.heap.size, 0, none⟩ (.int .i64 m.kind)).setCell ⟨w.heap.size, 1, none⟩ (.int .i64 m.num)).setCell ⟨w.heap.size, 2, none⟩ (.string m.name)).setCell ⟨w.heap.size, 3, none⟩ (.slice ma m.args.length mc) = wb at HS1 HRB2 HB2 HO2 HZ2 ⊢
    clear hwb
    obtain ⟨b0, b1, b2, b3, _⟩ := box_cells HB2.out
    have HIP := Lib.hid (isPair_any m.kind m.num m.name (.slice ma m.args.length mc) wb)
    go_wp2_with fail
    refine HIP.out.mono ?_
    rintro e w3 ⟨rfl, hb3⟩
    have HS3 := Lib.hid (HS1.out.kept hb3)
    have HRB3 := Lib.hid ((hb3.block _ (lt_of_cells HRB2.out)).trans HRB2.out)
    have HB3 := Lib.hid ((hb3.block _ (lt_of_cells HB2.out)).trans HB2.out)
    have HO3 := Lib.hid (HO2.out.trans (Only.of_below (S := fun k => k ∈ s.D) hb3))
    have HZ3 := Lib.hid (Nat.le_trans HZ2.out hb3.size)
    clear b0 b1 b2 b3 hb3 HIP HS1 HRB2 HB2 HO2 HZ2
    have HCE : Hid (∀ W, Only (fun k => k ∈ s.D) w3 W → W.cell? ⟨w.heap.size, 0, none⟩ = some (.int .i64 m.kind) ∧ W.cell? ⟨w.heap.size, 1, none⟩ = some (.int .i64 m.num) ∧ W.cell? ⟨w.heap.size, 2, none⟩ = some (.string m.name) ∧ W.cell? ⟨w.heap.size, 3, none⟩ = some (.slice ma m.args.length mc)) := Lib.hid fun W hW => by
      obtain ⟨y0, y1, y2, y3, _⟩ := box_cells (bx_keep HB3.out hW (fun hk => by have := HND.out _ hk; omega))
      exact ⟨y0, y1, y2, y3⟩
    have HRBW : Hid (∀ W, Only (fun k => k ∈ s.D) w3 W → W.heap[w.heap.size + 1]? = some (.cells #[.int .i64 0, .int .i64 0, .string ⟨#[]⟩, .slice none 0 0] 27 (0, 0))) := Lib.hid fun W hW => bx_keep HRB3.out hW (fun hk => by have := HND.out _ hk; omega)
    have hself : Only (fun k => k ∈ s.D) w3 w3 := Only.refl _ _
    have hdrew : Only (fun k => k ∈ s.D) w3 w3.drew := Only.of_below (Below.refl _ _).drew
    have hS0 : SolW w0 p s w3 := HS3.out
    have hS1 : SolW w0 p s w3.drew := HS3.out.kept (Below.refl _ _).drew
    obtain ⟨c0a, c0b, c0c, c0d⟩ := HCE.out w3 hself
    by_cases hk : m.kind = 4
    · have hd : decide (m.kind = 4) = true := decide_eq_true hk
      rw [hd]
      obtain ⟨x, y, u', v', em, eu, fx, fy⟩ : ∃ x y u' v', m = pairTm x y ∧ u = pairTm u' v' ∧ Fill s x u' ∧ Fill s y v' := by
        rcases HFI.out with ⟨h4, _⟩ | h
        · exact absurd hk h4
        · exact h
      have hxy : m.args = [x, y] := by rw [em]; rfl
      have hok2 := HMO.out
      rw [em] at hok2
      have hoks := ok_two hok2
      have hnn := HNN.out
      rw [eu, pairTm_nodes] at hnn
      have HQV : Hid (u.kind = 4 ∧ u.num = 0 ∧ u.name = ⟨#[]⟩ ∧ u.args = [u', v']) := Lib.hid (by rw [eu]; exact ⟨rfl, rfl, rfl, rfl⟩)
      obtain ⟨ga, offa, u1, u2, v1, v2, rfl, hga, hla, hcx, hcy, hax, hay⟩ := HU.out.two hxy
      have HH0 : Hid (∀ W, SolW w0 p s W → Calls Try.prog 136 #[.agg #[.int .i64 m.kind, .int .i64 m.num, .string m.name, .slice (some ⟨ga, offa, none⟩) m.args.length mc]] W fun e w' => e = .returned (.agg #[.int .i64 x.kind, .int .i64 x.num, .string x.name, .slice u1 x.args.length u2]) ∧ Below W.heap.size W w') := Lib.hid fun W hW => by
        obtain ⟨q0, q1, q2, q3⟩ := hcx W hW.old
        exact head_any m.kind m.num m.name ga offa m.args.length mc _ _ _ _ _ _ W (Nat.lt_of_lt_of_le hga hW.old.size) (by omega) (by omega) q0 q1 q2 q3
      have HH1 : Hid (∀ W, SolW w0 p s W → Calls Try.prog 138 #[.agg #[.int .i64 m.kind, .int .i64 m.num, .string m.name, .slice (some ⟨ga, offa, none⟩) m.args.length mc]] W fun e w' => e = .returned (.agg #[.int .i64 y.kind, .int .i64 y.num, .string y.name, .slice v1 y.args.length v2]) ∧ Below W.heap.size W w') := Lib.hid fun W hW => by
        obtain ⟨q0, q1, q2, q3⟩ := hcy W hW.old
        exact tail_any m.kind m.num m.name ga offa m.args.length mc _ _ _ _ _ _ W (Nat.lt_of_lt_of_le hga hW.old.size) (by omega) (by omega) q0 q1 q2 q3
      have HC0 : Hid (∀ W, SolW w0 p s W → Calls Try.prog 151 #[.pointer (some ⟨p, 0, none⟩), .agg #[.int .i64 x.kind, .int .i64 x.num, .string x.name, .slice u1 x.args.length u2]] W (FilP w0 p s u' W)) := Lib.hid fun W hW => HI.out w0 p s E x u' _ W (by omega) fx hW HK.out hax hoks.1
      have HC1 : Hid (∀ W, SolW w0 p s W → Calls Try.prog 151 #[.pointer (some ⟨p, 0, none⟩), .agg #[.int .i64 y.kind, .int .i64 y.num, .string y.name, .slice v1 y.args.length v2]] W (FilP w0 p s v' W)) := Lib.hid fun W hW => HI.out w0 p s E y v' _ W (by omega) fy hW HK.out hay hoks.2
      have HTB : Hid (∀ a b, Only (fun k => k ∈ s.D) w3 a → Below a.heap.size a b → Only (fun k => k ∈ s.D) w3 b) := Lib.hid fun a b h1 h2 => h1.trans (Only.of_below h2)
      have HTO : Hid (∀ a b, Only (fun k => k ∈ s.D) w3 a → Only (fun k => k ∈ s.D) a b → Only (fun k => k ∈ s.D) w3 b) := Lib.hid fun a b h1 h2 => h1.trans h2
      have ne1 : ¬ w.heap.size = w.heap.size + 1 := by omega
      have ne2 : ¬ w.heap.size + 1 = w.heap.size := by omega
      clear hd hxy hga hla hcx hcy hax hay hk em eu fx fy hok2 hoks hnn HI HFI HMO HNN HU HS3 HB3 HRB3
      go_upto_region 3 with (fail)
      go_region_held3 (fun w' => w'.cell? ⟨w.heap.size, 0, none⟩ = some (.int .i64 m.kind) ∧ w'.cell? ⟨w.heap.size, 1, none⟩ = some (.int .i64 m.num) ∧ w'.cell? ⟨w.heap.size, 2, none⟩ = some (.string m.name) ∧ w'.cell? ⟨w.heap.size, 3, none⟩ = some (.slice (some ⟨ga, offa, none⟩) m.args.length mc)) (go_keep)
        (first
          | (go_at_call 136; (with_reducible refine Calls.mono (HH0.out _ (by assumption)) ?_); rintro e wA ⟨rfl, hbA⟩; have hA' := HTB.out _ _ (by assumption) hbA; have hSA := SolW.kept (by assumption) hbA; have hzA := hA'.size; obtain ⟨k0, k1, k2, k3⟩ := HCE.out _ hA'; clear hbA)
          | (go_at_call 151; (with_reducible refine Calls.mono (HC0.out _ (by assumption)) ?_); rintro e wB ⟨U0, rfl, hn0, hSB, hoB⟩; have hB' := HTO.out _ _ (by assumption) hoB; obtain ⟨k0, k1, k2, k3⟩ := HCE.out _ hB'; obtain ⟨a0, d0, rfl⟩ := hn0.argsAt.slice; have HN0 := Lib.hid (And.intro hn0 (And.intro hoB.size hA'.size)); clear hn0 hoB)
          | (go_at_call 138; (with_reducible refine Calls.mono (HH1.out _ (by assumption)) ?_); rintro e wC ⟨rfl, hbC⟩; have hC' := HTB.out _ _ (by assumption) hbC; have hSC := SolW.kept (by assumption) hbC; obtain ⟨k0, k1, k2, k3⟩ := HCE.out _ hC'; have HBC := Lib.hid hbC; clear hbC)
          | (go_at_call 151; (with_reducible refine Calls.mono (HC1.out _ (by assumption)) ?_); rintro e wD ⟨U1, rfl, hn1, hSD, hoD⟩; have hD' := HTO.out _ _ (by assumption) hoD; obtain ⟨k0, k1, k2, k3⟩ := HCE.out _ hD'; obtain ⟨a1, d1, rfl⟩ := hn1.argsAt.slice; have HN1 := Lib.hid (And.intro hn1 hoD); clear hn1 hoD)
          | (go_at_call 137; (with_reducible refine Calls.mono (pairOf_any _ _ _ _ _ _ _ _ _ _ _ _ _) ?_); rintro e wE ⟨gE, rfl, hg1, hg2, hgh, hbE⟩; have hE' := HTB.out _ _ hD' hbE; obtain ⟨k0, k1, k2, k3⟩ := HCE.out _ hE'; have HP := Lib.hid (newPairK (w1 := w3) HN0.out.2.2 HN0.out.1 HN0.out.2.1 HBC.out HN1.out.1 HN1.out.2 (fun k hk => by have h1 := HND.out k hk; have h2 := HZ3.out; have h3 := HN0.out.2.2; omega) hg1 hg2 hgh hbE); have HRE := Lib.hid (HRBW.out _ hE'); have HSE := Lib.hid (hSD.kept hbE); have HOE := Lib.hid (HO3.out.trans hE'); obtain ⟨r0, r1, r2, r3, rf⟩ := box_cells (HRBW.out _ hE'); clear hg1 hg2 hgh hbE))
      all_goals (go_wp2_with fail; exact filP_end (q := 4) (b := w.heap.size + 1) (W := w3) HQV.out.1 HQV.out.2.1 HQV.out.2.2.1 rfl rfl rfl Try.underlying27 (by kernel_rfl) HRE.out (by have := HZ3.out; omega) (by omega) (by have := HZ3.out; omega) (by rw [HQV.out.2.2.2]; exact HP.out) HSE.out HLO.out HOE.out)
    · have hd : decide (m.kind = 4) = false := decide_eq_false hk
      rw [hd]
      obtain rfl : u = m := by
        rcases HFI.out with ⟨_, h⟩ | ⟨x, y, u', v', em, _⟩
        · exact h
        · rw [em] at hk; exact absurd rfl hk
      have HZZ : Hid (u.sz ≤ 1048576) := Lib.hid (by have h1 := good_sz HMO.out.2; have h2 := HMO.out.1; omega)
      have HC := Lib.hid (copied_any (u.nodes + 1) u _ w3 (by omega) (HU.out.frame HS3.out.old.size fun j hj _ => HS3.out.old.block j hj).at HZZ.out HMO.out.2)
      clear hd hk HFI HMO hself hdrew hS0 hS1 HI
      go_wp2_with fail
      refine HC.out.mono ?_
      rintro e w4 ⟨V4, rfl, hn⟩
      have hE' : Only (fun k => k ∈ s.D) w3 w4 := Only.of_below hn.2
      have HRE := Lib.hid (HRBW.out _ hE')
      obtain ⟨r0, r1, r2, r3, rf⟩ := box_cells (HRBW.out _ hE')
      obtain ⟨a0, d0, rfl⟩ := hn.1.argsAt.slice
      have HN := Lib.hid hn.1
      have HSE := Lib.hid (HS3.out.kept hn.2)
      have HOE := Lib.hid (HO3.out.trans hE')
      clear hn hE' c0a c0b c0c c0d HC
      go_wp2
      exact filP_end (q := 4) (b := w.heap.size + 1) (W := w3) rfl rfl rfl rfl rfl rfl Try.underlying27 (by kernel_rfl) HRE.out (by have := HZ3.out; omega) (by omega) (by have := HZ3.out; omega) HN.out HSE.out HLO.out HOE.out
end Go.Proofs.Ytbbgiefnmihmdaa

