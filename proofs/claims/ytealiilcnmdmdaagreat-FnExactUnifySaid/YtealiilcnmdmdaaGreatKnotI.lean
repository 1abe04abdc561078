/-
  The program's solver: a step's closure; run.
-/
import Derived.Test.YtealiilcnmdmdaaGreatKnotH
namespace Go.Proofs.YtealiilcnmdmdaaGreat
open Go.RowKit
set_option linter.unusedVariables false
set_option linter.unusedSimpArgs false

theorem step_cells {w W : World} {p : Nat} {x1 y1 z1 x y : Nat} (h1 : w.heap[x1]? = some (.cells #[ptrN p] 84 (0, 0))) (h2 : w.heap[y1]? = some (.cells #[ptrN x] 90 (0, 0))) (h3 : w.heap[z1]? = some (.cells #[ptrN y] 90 (0, 0))) (hf : Fr isM w W) :
    W.cell? ⟨x1, 0, none⟩ = some (.pointer (some ⟨p, 0, none⟩)) ∧ W.cell? ⟨y1, 0, none⟩ = some (.pointer (some ⟨x, 0, none⟩)) ∧ W.cell? ⟨z1, 0, none⟩ = some (.pointer (some ⟨y, 0, none⟩)) :=
  ⟨cell_of_row W x1 0 _ _ _ (hf.cells h1 (not_isM (by decide) (by decide) (by decide))), cell_of_row W y1 0 _ _ _ (hf.cells h2 (not_isM (by decide) (by decide) (by decide))), cell_of_row W z1 0 _ _ _ (hf.cells h3 (not_isM (by decide) (by decide) (by decide)))⟩

set_option maxRecDepth 100000 in
set_option maxHeartbeats 2000000 in
theorem closure_any (w0 : World) (p : Nat) (s0 : St) (E : List (Tm × Tm)) (r : List (Nat × Nat)) (x y : Nat) (x1 y1 z1 : Nat) (w : World) (c : EqC w0 p s0 E r x y (s0.rep x) (s0.rep y) w)
    (h1 : w.heap[x1]? = some (.cells #[ptrN p] 84 (0, 0))) (h2 : w.heap[y1]? = some (.cells #[ptrN x] 90 (0, 0))) (h3 : w.heap[z1]? = some (.cells #[ptrN y] 90 (0, 0))) :
    Calls Tryz.prog 77 #[.pointer (some ⟨x1, 0, none⟩), .pointer (some ⟨y1, 0, none⟩), .pointer (some ⟨z1, 0, none⟩)] w (EqP w0 p E s0 w) := by
  have HCE : Hid (∀ W, Fr isM w W → W.cell? ⟨x1, 0, none⟩ = some (.pointer (some ⟨p, 0, none⟩)) ∧ W.cell? ⟨y1, 0, none⟩ = some (.pointer (some ⟨x, 0, none⟩)) ∧ W.cell? ⟨z1, 0, none⟩ = some (.pointer (some ⟨y, 0, none⟩))) := Lib.hid fun W hf => step_cells h1 h2 h3 hf
  have hxD := c.xD
  have hyD := c.yD
  have HR0 : Hid (∀ W, SolW w0 p (popS s0 r) W → Calls Tryz.prog 79 #[.pointer (some ⟨x, 0, none⟩)] W fun e w' => e = .returned (.pointer (some ⟨s0.rep x, 0, none⟩)) ∧ SolW w0 p (popS s0 r) w' ∧ Fr isM W w') := Lib.hid fun W hW =>
    (root_any w0 p (popS s0 r) x W hW hxD).mono fun e w' ⟨a1, a2, a3⟩ => ⟨a1, a2, (hW.fr a3).wide⟩
  have HR1 : Hid (∀ W, SolW w0 p (popS s0 r) W → Calls Tryz.prog 79 #[.pointer (some ⟨y, 0, none⟩)] W fun e w' => e = .returned (.pointer (some ⟨s0.rep y, 0, none⟩)) ∧ SolW w0 p (popS s0 r) w' ∧ Fr isM W w') := Lib.hid fun W hW =>
    (root_any w0 p (popS s0 r) y W hW hyD).mono fun e w' ⟨a1, a2, a3⟩ => ⟨a1, a2, (hW.fr a3).wide⟩
  have HEQ : Hid (∀ W, SolW w0 p (popS s0 r) W → Fr isM w W → Calls Tryz.prog 78 #[.pointer (some ⟨p, 0, none⟩), .pointer (some ⟨s0.rep x, 0, none⟩), .pointer (some ⟨s0.rep y, 0, none⟩)] W fun e w' => ∃ bl, e = .returned (.bool bl) ∧ EqP w0 p E s0 w (.returned (.bool bl)) w') := Lib.hid fun W hW hf =>
    (equate_any w0 p s0 E r x y _ _ W ⟨hW, c.hI, c.hs, rfl, rfl, c.hC, c.hS, c.hB⟩).mono fun e w' ⟨bl, he, h5, h6⟩ => ⟨bl, he, bl, rfl, hf.trans h5, h6⟩
  have HTG : Hid (∀ a b, Fr isM w a → Fr isM a b → Fr isM w b) := Lib.hid fun a b h1 h2 => h1.trans h2
  have hS0 : SolW w0 p (popS s0 r) w := c.h
  have hS1 : SolW w0 p (popS s0 r) w.drew := c.h.kept (Below.refl _ _).drew
  have hF0 : Fr isM w w := Fr.refl _ _
  have hF1 : Fr isM w w.drew := Fr.of_below (Below.refl _ _).drew
  obtain ⟨k1, k2, k3⟩ := HCE.out w hF0
  generalize s0.rep x = a at HR0 HEQ
  generalize s0.rep y = b at HR1 HEQ
  clear c h1 h2 h3 hxD hyD
  go_enter Tryz.func77, Tryz.ntmps77
  go_upto_region 1 with (fail)
  go_region_held3 (fun w' => w'.cell? ⟨x1, 0, none⟩ = some (.pointer (some ⟨p, 0, none⟩)) ∧ w'.cell? ⟨y1, 0, none⟩ = some (.pointer (some ⟨x, 0, none⟩)) ∧ w'.cell? ⟨z1, 0, none⟩ = some (.pointer (some ⟨y, 0, none⟩))) (go_keep)
    (first
      | (go_at_call 79; (with_reducible refine Calls.mono (HR0.out _ (by assumption)) ?_); rintro e wA ⟨rfl, hSA, hfA⟩; have hFA := HTG.out _ _ (by assumption) hfA; obtain ⟨k1, k2, k3⟩ := HCE.out _ hFA; clear hfA)
      | (go_at_call 79; (with_reducible refine Calls.mono (HR1.out _ (by assumption)) ?_); rintro e wB ⟨rfl, hSB, hfB⟩; have hFB := HTG.out _ _ (by assumption) hfB; obtain ⟨k1, k2, k3⟩ := HCE.out _ hFB; clear hfB)
      | (go_at_call 78; (with_reducible refine Calls.mono (HEQ.out _ (by assumption) (by assumption)) ?_); rintro e wC ⟨bl, rfl, hE⟩; have HX := Lib.hid hE; have hFC := hE.choose_spec.2.1; obtain ⟨k1, k2, k3⟩ := HCE.out _ hFC; clear hE))
  all_goals (go_wp2; go_ret; exact HX.out)

/-- What run gives. -/
def RunP (w0 : World) (p : Nat) (E : List (Tm × Tm)) (w : World) (e : Ending) (w' : World) : Prop :=
  ∃ bl, e = .returned (.bool bl) ∧ Fr isM w w' ∧ ∃ s, SolW w0 p s w' ∧ (bl = true → KInv s E ∧ s.steps = [] ∧ s.bound ≤ 400 ∧ credB s ≤ 1099511500000) ∧ (bl = false → Dead E)

set_option maxRecDepth 100000 in
set_option maxHeartbeats 4000000 in
theorem run_any (w0 : World) (p : Nat) (s : St) (E : List (Tm × Tm)) (w : World) (h : SolW w0 p s w) (hI : KInv s E) (hC : credB s ≤ 1099511500000) (hM : muS s ≤ 1099511500000) (hB : s.bound ≤ 400) :
    Calls Tryz.prog 64 #[.pointer (some ⟨p, 0, none⟩)] w (RunP w0 p E w) := by
  have H0 : Hid (∃ s, SolW w0 p s w ∧ KInv s E ∧ credB s ≤ 1099511500000 ∧ muS s ≤ 1099511500000 ∧ s.bound ≤ 400) := Lib.hid ⟨s, h, hI, hC, hM, hB⟩
  obtain ⟨n0, hn0⟩ : ∃ n, muS s = n := ⟨_, rfl⟩
  have HN := Lib.hid hn0
  have HS0 := Lib.hid (And.intro h (And.intro hI (And.intro hC (And.intro hM hB))))
  clear h hI hC hM hB hn0 H0
  go_enter Tryz.func64, Tryz.ntmps64
  go_wp2
  go_loopg [] n0 (fun gk wr => Hid (∃ s, muS s = gk ∧ SolW w0 p s wr ∧ KInv s E ∧ credB s ≤ 1099511500000 ∧ muS s ≤ 1099511500000 ∧ s.bound ≤ 400 ∧ Fr isM w wr))
  case atStart => exact Lib.hid ⟨s, HN.out, HS0.out.1, HS0.out.2.1, HS0.out.2.2.1, HS0.out.2.2.2.1, HS0.out.2.2.2.2, Fr.refl _ _⟩
  case round =>
    clear HS0 HN
    obtain ⟨s, hmu, hS, hI, hC, hM, hB, hF⟩ := hrel.out
    obtain ⟨tie, hT⟩ := hS
    obtain ⟨mb, SV, xs, n, hh⟩ := hT.head
    clear hrel
    rcases List.eq_nil_or_concat s.steps with hs | ⟨r, q, hs⟩
    · have hxs : xs = [] := List.length_eq_zero_iff.1 (by rw [hh.steps.1, hs]; rfl)
      subst hxs
      obtain ⟨oa, oc, rfl⟩ : ∃ a c, SV = .slice a 0 c := by
        rcases hh.row.shape with ⟨rfl, _⟩ | ⟨g, cap, rfl, _⟩
        · exact ⟨none, 0, rfl⟩
        · exact ⟨_, _, rfl⟩
      obtain ⟨e0, e1, e2, ef⟩ := hh.cells
      have HE : Hid (RunP w0 p E w (.returned (.bool true)) wr) := Lib.hid ⟨true, rfl, hF, s, ⟨tie, hT⟩, fun _ => ⟨hI, hs, hB, hC⟩, (fun h => by cases h)⟩
      clear hmu hT hh hI hC hM hB hF hs e0 e1 ef
      go_wp2
      go_ret
      exact HE.out
    · rw [List.concat_eq_append] at hs
      obtain ⟨x, y⟩ := q
      have hst := hh.steps
      rw [hs] at hst
      obtain ⟨ys, v, rfl, hys, x1, y1, z1, rfl, b1, b2, b3⟩ := hst.init
      obtain ⟨g, cap, rfl, _, hgl, hlc, hcm, hrow, _⟩ : ∃ g cap, SV = .slice (some ⟨g, 0, none⟩) (ys.length + 1) cap ∧ w0.heap.size ≤ g ∧ g < wr.heap.size ∧ ys.length + 1 ≤ cap ∧ cap ≤ maxLen ∧ (wr.cell? ⟨g, ys.length, none⟩ = some (.func (.func 77) #[] #[ptrN x1, ptrN y1, ptrN z1])) ∧ True := by
        rcases hh.row.shape with ⟨_, h⟩ | ⟨g, cap, rfl, hb, hg, h1, h2, h3, _⟩
        · simp at h
        · refine ⟨g, cap, by simp, hb, hg, by simpa using h1, h2, ?_, trivial⟩
          rw [h3 ys.length (by simp)]
          simp
      obtain ⟨hp1, hp2⟩ := hT.pop hs hh hys
      obtain ⟨e0, e1, e2, ef⟩ := hh.cells
      have f2 := ef 2
      have hyl : ys.length ≤ 1099511500000 := by
        have h1 : s.steps.length ≤ muS s := by unfold muS; omega
        have h2 : s.steps.length = r.length + 1 := by rw [hs]; simp
        have h3 := hys.1
        omega
      have HCL : Hid (Calls Tryz.prog 77 #[.pointer (some ⟨x1, 0, none⟩), .pointer (some ⟨y1, 0, none⟩), .pointer (some ⟨z1, 0, none⟩)] (wr.setCell ⟨p, 2, none⟩ (.slice (some ⟨g, 0, none⟩) ys.length cap)) (EqP w0 p E s (wr.setCell ⟨p, 2, none⟩ (.slice (some ⟨g, 0, none⟩) ys.length cap)))) := Lib.hid (by
        refine closure_any w0 p s E r x y x1 y1 z1 _ ⟨⟨_, hp1⟩, hI, hs, rfl, rfl, hC, ?_, hB⟩ (hp2.cells b1 (not_isM (by decide) (by decide) (by decide))) (hp2.cells b2 (not_isM (by decide) (by decide) (by decide))) (hp2.cells b3 (not_isM (by decide) (by decide) (by decide)))
        have h1 : s.steps.length ≤ muS s := by unfold muS; omega
        omega)
      have HK := Lib.hid (And.intro hmu (And.intro hC (And.intro hM (hF.trans hp2))))
      have hps : IntKind.i64.wrap (((ys.length + 1 : Nat) : Int) - 1) = (ys.length : Int) := by
        rw [IntWalk.i64_in _ (by omega)]; omega
      clear hmu hT hI hC hM hB hF hs hst hys hp1 hp2 b1 b2 b3 e0 e1 ef hh
      unfold maxLen at hcm
      go_wp2_with fail
      refine (HCL.out).mono ?_
      rintro e w2 ⟨bl, rfl, hf2, s2, hS2, ht, hfl⟩
      have HX := Lib.hid (And.intro hf2 (And.intro hS2 (And.intro ht hfl)))
      clear hf2 hS2 ht hfl HCL e2 f2
      cases bl with
      | false =>
        have HE : Hid (RunP w0 p E w (.returned (.bool false)) w2) := Lib.hid ⟨false, rfl, HK.out.2.2.2.trans HX.out.1, s2, HX.out.2.1, (fun h => by cases h), fun _ => HX.out.2.2.2 rfl⟩
        go_wp2
        go_ret
        exact HE.out
      | true =>
        go_wp2
        go_roundg (muS s2)
        case measure => have h1 := (HX.out.2.2.1 trivial).1.mu; have h2 := HK.out.1; omega
        case rel =>
          obtain ⟨h1, h2⟩ := HX.out.2.2.1 trivial
          have h3 := HK.out
          exact Lib.hid ⟨s2, rfl, HX.out.2.1, h1.inv, Nat.le_trans h1.crd h3.2.1, Nat.le_trans (Nat.le_of_lt h1.mu) h3.2.2.1, h2, h3.2.2.2.trans HX.out.1⟩
end Go.Proofs.YtealiilcnmdmdaaGreat

