/-
  The program's solver: equate.
  The program's solver: equate, the other cases.
  The program's solver: equate of two terms that are no variables; all cases.
-/
import Derived.Test.YtbbgiefnmihmdaaKnotCD
import Derived.LaidEqlPtr
namespace Go.Proofs.Ytbbgiefnmihmdaa
open Go.RowKit
set_option linter.unusedVariables false
set_option linter.unusedSimpArgs false

/-- No solution that fits, whatever substitution and equations the equations stand for. -/
def Dead (E : List (Tm × Tm)) : Prop := ∀ o F, (∀ f, SolE f E ↔ Sat f o ∧ SolE f F) → NoU o F
/-- What equate gives. -/
def EqP (w0 : World) (p : Nat) (E : List (Tm × Tm)) (s0 : St) (w : World) (e : Ending) (w' : World) : Prop :=
  ∃ bl, e = .returned (.bool bl) ∧ Fr isM w w' ∧ ∃ s, SolW w0 p s w' ∧ (bl = true → StepS s0 E s ∧ s.bound ≤ 400) ∧ (bl = false → Dead E)
structure EqC (w0 : World) (p : Nat) (s0 : St) (E : List (Tm × Tm)) (r : List (Nat × Nat)) (x y a b : Nat) (w : World) : Prop where
  h : SolW w0 p (popS s0 r) w
  hI : KInv s0 E
  hs : s0.steps = r ++ [(x, y)]
  hxa : a = s0.rep x
  hyb : b = s0.rep y
  hC : credB s0 ≤ 1099511500000
  hS : s0.steps.length ≤ 1099511500000
  hB : s0.bound ≤ 400
namespace EqC
variable {w0 : World} {p : Nat} {s0 : St} {E : List (Tm × Tm)} {r : List (Nat × Nat)} {x y a b : Nat} {w : World}
theorem xD (c : EqC w0 p s0 E r x y a b w) : x ∈ s0.D := (c.hI.stepsD (x, y) (by rw [c.hs]; simp)).1
theorem yD (c : EqC w0 p s0 E r x y a b w) : y ∈ s0.D := (c.hI.stepsD (x, y) (by rw [c.hs]; simp)).2
theorem aD (c : EqC w0 p s0 E r x y a b w) : a ∈ s0.D := by rw [c.hxa]; exact c.hI.repD x c.xD
theorem bD (c : EqC w0 p s0 E r x y a b w) : b ∈ s0.D := by rw [c.hyb]; exact c.hI.repD y c.yD
theorem ra (c : EqC w0 p s0 E r x y a b w) : s0.rep a = a := by rw [c.hxa]; exact c.hI.repR x c.xD
theorem rb (c : EqC w0 p s0 E r x y a b w) : s0.rep b = b := by rw [c.hyb]; exact c.hI.repR y c.yD
theorem kept (c : EqC w0 p s0 E r x y a b w) {w' : World} (hb : Below w.heap.size w w') : EqC w0 p s0 E r x y a b w' := ⟨c.h.kept hb, c.hI, c.hs, c.hxa, c.hyb, c.hC, c.hS, c.hB⟩
theorem mem (c : EqC w0 p s0 E r x y a b w) : (x, y) ∈ s0.steps := by rw [c.hs]; simp
theorem skip (c : EqC w0 p s0 E r x y a b w) (he : a = b ∨ (¬ (s0.tm a).kind = 1 ∧ ¬ (s0.tm a).kind = 4 ∧ s0.tm a = s0.tm b)) : StepS s0 E (popS s0 r) ∧ (popS s0 r).bound ≤ 400 := by
  have hxa := c.hxa
  have hyb := c.hyb
  refine ⟨⟨c.hI.skip c.hs (by subst hxa hyb; exact he), ?_, Nat.le_refl _⟩, c.hB⟩
  unfold muS
  rw [c.hs]
  show 3 * credA s0 + r.length < 3 * credA s0 + _
  simp
theorem bound (c : EqC w0 p s0 E r x y a b w) {k d : Nat} (hkd : (k = a ∧ d = b) ∨ (k = b ∧ d = a)) (hne : k ≠ d) (hk : (s0.tm k).kind = 1) (hlow : (s0.tm d).kind = 1 → (s0.tm d).num < (s0.tm k).num) :
    StepS s0 E (linkS (popS s0 r) r k d (s0.bound + 1)) ∧ (400 < s0.bound + 1 → Dead E) := by
  have hxa := c.hxa
  have hyb := c.hyb
  have hkD : k ∈ s0.D := hkd.elim (fun q => by rw [q.1]; exact c.aD) (fun q => by rw [q.1]; exact c.bD)
  have hrk : s0.rep k = k := hkd.elim (fun q => by rw [q.1]; exact c.ra) (fun q => by rw [q.1]; exact c.rb)
  have hrd : s0.rep d = d := hkd.elim (fun q => by rw [q.2]; exact c.rb) (fun q => by rw [q.2]; exact c.ra)
  have hl := c.hI.link (a := k) (b := d) (n := s0.bound + 1) (nw := []) c.hs (by subst hxa hyb; exact hkd.imp id id) hne (.inl ⟨hk, hlow, rfl, rfl⟩)
  rw [List.append_nil] at hl
  have hcr := link_cred c.hI (r := r) (n := s0.bound + 1) hkD hrk hrd hne
  refine ⟨⟨hl, ?_, Nat.le_of_eq hcr.1⟩, fun hb o F hE => hl.too_many hE hb⟩
  have h1 := hcr.2.1
  unfold muS
  rw [c.hs]
  show 3 * credA (linkS s0 r k d (s0.bound + 1)) + r.length < _
  simp
  omega
theorem cells (c : EqC w0 p s0 E r x y a b w) {k : Nat} (hk : k ∈ s0.D) : ∃ u1 u2, ArgsAt w (.slice u1 (s0.tm k).args.length u2) (s0.tm k).args ∧ ∀ W, Below w.heap.size w W → W.cell? ⟨k, 1, none⟩ = some (.int .i64 (s0.tm k).kind) ∧ W.cell? ⟨k, 2, none⟩ = some (.int .i64 (s0.tm k).num) ∧ W.cell? ⟨k, 3, none⟩ = some (.string (s0.tm k).name) ∧ W.cell? ⟨k, 4, none⟩ = some (.slice u1 (s0.tm k).args.length u2) := by
  obtain ⟨tie, hT⟩ := c.h
  obtain ⟨h1, u1, u2, PV, h2, h3, h4⟩ := hT.knots k hk
  refine ⟨u1, u2, (h3.frame hT.old.size fun j hj _ => hT.old.block j hj).at, fun W hW => ?_⟩
  have hc := (hW.block k (lt_of_cells h2)).trans h2
  exact ⟨cell_of_row W k 1 _ _ _ hc, cell_of_row W k 2 _ _ _ hc, cell_of_row W k 3 _ _ _ hc, cell_of_row W k 4 _ _ _ hc⟩
theorem block (c : EqC w0 p s0 E r x y a b w) {k : Nat} (hk : k ∈ s0.D) : ∃ cs, w.heap[k]? = some (.cells cs 154 (0, 0)) := by
  obtain ⟨tie, hT⟩ := c.h
  exact (hT.knots k hk).isK
end EqC
theorem infoKnot : (Try.prog.info? 154).map (fun i => (i.zero, i.size, i.bytes)) = some (some (.agg #[.pointer none, .int .i64 0, .int .i64 0, .string ⟨#[]⟩, .slice none 0 0, .slice none 0 0]), 6, 88) := by kernel_rfl
theorem eqlPtr (w : World) {a b : Nat} (ha : ∃ cs, w.heap[a]? = some (.cells cs 154 (0, 0))) (hb : ∃ cs, w.heap[b]? = some (.cells cs 154 (0, 0))) : (binOp .eql 132 (.pointer (some ⟨a, 0, none⟩)) (.pointer (some ⟨b, 0, none⟩))).run Try.prog w = .ok (.bool (decide (a = b))) w := by
  obtain ⟨i0, hi, hz0, hz1, hz2⟩ := info_parts infoKnot
  obtain ⟨ca, ha⟩ := ha
  obtain ⟨cb, hb⟩ := hb
  by_cases e : a = b
  · subst e
    rw [decide_eq_true rfl]
    exact run_eql_ptr_same w ⟨a, 0, none⟩ Try.underlying132 hi
  · rw [decide_eq_false e]
    exact run_eql_ptr_other w Try.underlying132 hi (by rw [hz1]; decide) (fun q => e (Addr.mk.inj q).1) ha hb
theorem isVarQ (b : Nat) (k : Int) (bl : Bool) (w : World) (hk : (k == 1) = bl) (hc : w.cell? ⟨b, 1, none⟩ = some (.int .i64 k)) (n : Nat) :
    Calls Try.prog 180 #[.pointer (some ⟨b, 0, none⟩)] (w.drewN n) fun e w' => e = .returned (.bool bl) ∧ ∃ m, w' = w.drewN m :=
  (isVariable_any b k (w.drewN n) (by simpa using hc)).mono fun e w' ⟨he, hw⟩ => ⟨by rw [he, hk], n, hw.symm⟩

set_option maxRecDepth 100000 in
set_option maxHeartbeats 1000000 in
theorem equate_same (w0 : World) (p : Nat) (s0 : St) (E : List (Tm × Tm)) (r : List (Nat × Nat)) (x y a b : Nat) (w : World) (c : EqC w0 p s0 E r x y a b w) (hab : a = b) :
    Calls Try.prog 148 #[.pointer (some ⟨p, 0, none⟩), .pointer (some ⟨a, 0, none⟩), .pointer (some ⟨b, 0, none⟩)] w (EqP w0 p E s0 w) := by
  have heq := eqlPtr w (c.block c.aD) (c.block c.bD)
  rw [decide_eq_true hab] at heq
  have HE := Lib.hid (And.intro c.h (c.skip (.inl hab)))
  clear hab c
  go_enter Try.func148, Try.ntmps148
  go_wp2
  go_ret
  exact ⟨true, rfl, Fr.refl _ _, _, HE.out.1, fun _ => HE.out.2, (fun h => by cases h)⟩

set_option maxRecDepth 100000 in
set_option maxHeartbeats 2000000 in
/-- Two variables, the first less: the second is bound. -/
theorem equate_less (w0 : World) (p : Nat) (s0 : St) (E : List (Tm × Tm)) (r : List (Nat × Nat)) (x y a b : Nat) (w : World) (c : EqC w0 p s0 E r x y a b w) (hab : ¬ a = b) (ha : (s0.tm a).kind = 1) (hb : (s0.tm b).kind = 1) (hl : (s0.tm a).num < (s0.tm b).num) :
    Calls Try.prog 148 #[.pointer (some ⟨p, 0, none⟩), .pointer (some ⟨a, 0, none⟩), .pointer (some ⟨b, 0, none⟩)] w (EqP w0 p E s0 w) := by
  have heq := eqlPtr w (c.block c.aD) (c.block c.bD)
  rw [decide_eq_false hab] at heq
  obtain ⟨u1, u2, _, hca⟩ := c.cells c.aD
  obtain ⟨v1, v2, _, hcb⟩ := c.cells c.bD
  obtain ⟨a1, a2, _, _⟩ := hca w (Below.refl _ _)
  obtain ⟨b1, b2, _, _⟩ := hcb w (Below.refl _ _)
  have q1 := isVarQ a _ true w (by rw [ha]; rfl) a1
  have q2 := isVarQ b _ true w (by rw [hb]; rfl) b1
  have HBD : Hid (∀ n, Calls Try.prog 181 #[.pointer (some ⟨p, 0, none⟩), .pointer (some ⟨b, 0, none⟩), .pointer (some ⟨a, 0, none⟩)] (w.drewN n) (EqP w0 p E s0 w)) := Lib.hid fun n => by
    have hbw := below_drewN (Below.refl w.heap.size w) n
    have cn := c.kept hbw
    refine (bind_any w0 p (popS s0 r) b a (w.drewN n) cn.h cn.bD cn.aD cn.rb cn.ra (fun e => hab e.symm) (by have := c.hB; show s0.bound ≤ _; omega)).mono fun e w' ⟨h1, h2, h3⟩ => ?_
    obtain ⟨k1, k2⟩ := c.bound (k := b) (d := a) (.inr ⟨rfl, rfl⟩) (fun e => hab e.symm) hb (fun _ => hl)
    exact ⟨_, h1, (Fr.of_below hbw).trans h3, _, h2, fun h => ⟨k1, of_decide_eq_true h⟩, fun h => k2 (Nat.lt_of_not_le (of_decide_eq_false h))⟩
  clear c hab ha hb hca hcb
  have hd : decide ((s0.tm a).num < (s0.tm b).num) = true := decide_eq_true hl
  go_enter Try.func148, Try.ntmps148
  go_wp2
  go_quiet ((first | (go_at_call 180; exact q1 _) | (go_at_call 180; exact q2 _)))
  go_wp2_with fail
  refine (HBD.out _).mono ?_
  rintro e w1 ⟨bl, rfl, hE⟩
  have HE := Lib.hid hE
  clear hE HBD q1 q2
  go_wp2
  go_ret
  exact ⟨bl, rfl, HE.out⟩
end Go.Proofs.Ytbbgiefnmihmdaa

namespace Go.Proofs.Ytbbgiefnmihmdaa
open Go.RowKit
set_option linter.unusedVariables false
set_option linter.unusedSimpArgs false

theorem isVarR (b : Nat) (k : Int) (bl : Bool) (w : World) (hk : (k == 1) = bl) (hc : w.cell? ⟨b, 1, none⟩ = some (.int .i64 k)) (n : Nat) :
    Calls Try.prog 180 #[.pointer (some ⟨b, 0, none⟩)] (w.drewN n) fun e w' => e = .returned (.bool bl) ∧ w.drewN n = w' :=
  (isVariable_any b k (w.drewN n) (by simpa using hc)).mono fun e w' ⟨he, hw⟩ => ⟨by rw [he, hk], hw⟩

set_option maxRecDepth 100000 in
set_option maxHeartbeats 2000000 in
/-- The first is a variable that is not to stand for the second. -/
theorem equate_first (w0 : World) (p : Nat) (s0 : St) (E : List (Tm × Tm)) (r : List (Nat × Nat)) (x y a b : Nat) (w : World) (c : EqC w0 p s0 E r x y a b w) (hab : ¬ a = b) (ha : (s0.tm a).kind = 1) (hb : (s0.tm b).kind = 1 → (s0.tm b).num < (s0.tm a).num) :
    Calls Try.prog 148 #[.pointer (some ⟨p, 0, none⟩), .pointer (some ⟨a, 0, none⟩), .pointer (some ⟨b, 0, none⟩)] w (EqP w0 p E s0 w) := by
  have heq := eqlPtr w (c.block c.aD) (c.block c.bD)
  rw [decide_eq_false hab] at heq
  obtain ⟨u1, u2, _, hca⟩ := c.cells c.aD
  obtain ⟨v1, v2, _, hcb⟩ := c.cells c.bD
  obtain ⟨a1, a2, _, _⟩ := hca w (Below.refl _ _)
  obtain ⟨b1, b2, _, _⟩ := hcb w (Below.refl _ _)
  have q1 := isVarQ a _ true w (by rw [ha]; rfl) a1
  have Q3 := Lib.hid (isVarR a _ true w (by rw [ha]; rfl) a1)
  have HBD : Hid (∀ n, Calls Try.prog 181 #[.pointer (some ⟨p, 0, none⟩), .pointer (some ⟨a, 0, none⟩), .pointer (some ⟨b, 0, none⟩)] (w.drewN n) (EqP w0 p E s0 w)) := Lib.hid fun n => by
    have hbw := below_drewN (Below.refl w.heap.size w) n
    have cn := c.kept hbw
    refine (bind_any w0 p (popS s0 r) a b (w.drewN n) cn.h cn.aD cn.bD cn.ra cn.rb hab (by have := c.hB; show s0.bound ≤ _; omega)).mono fun e w' ⟨h1, h2, h3⟩ => ?_
    obtain ⟨k1, k2⟩ := c.bound (k := a) (d := b) (.inl ⟨rfl, rfl⟩) hab ha hb
    exact ⟨_, h1, (Fr.of_below hbw).trans h3, _, h2, fun h => ⟨k1, of_decide_eq_true h⟩, fun h => k2 (Nat.lt_of_not_le (of_decide_eq_false h))⟩
  clear c hab ha hca hcb
  by_cases hkb : (s0.tm b).kind = 1
  · have hl := hb hkb
    have q2 := isVarQ b _ true w (by rw [hkb]; rfl) b1
    have hd : decide ((s0.tm a).num < (s0.tm b).num) = false := decide_eq_false (by omega)
    clear hl hkb hb
    go_enter Try.func148, Try.ntmps148
    go_wp2
    go_quiet ((first | (go_at_call 180; exact q1 _) | (go_at_call 180; exact q2 _)))
    go_wp2_with fail
    refine (Q3.out _).mono ?_
    rintro e w1 ⟨rfl, rfl⟩
    go_wp2_with fail
    refine (HBD.out _).mono ?_
    rintro e w1 ⟨bl, rfl, hE⟩
    have HE := Lib.hid hE
    clear hE HBD q1 q2
    go_wp2
    go_ret
    exact ⟨bl, rfl, HE.out⟩
  · have q2 := isVarQ b _ false w (by simp [hkb]) b1
    clear hkb hb
    go_enter Try.func148, Try.ntmps148
    go_wp2
    go_quiet ((first | (go_at_call 180; exact q1 _) | (go_at_call 180; exact q2 _)))
    go_wp2_with fail
    refine (Q3.out _).mono ?_
    rintro e w1 ⟨rfl, rfl⟩
    go_wp2_with fail
    refine (HBD.out _).mono ?_
    rintro e w1 ⟨bl, rfl, hE⟩
    have HE := Lib.hid hE
    clear hE HBD q1 q2
    go_wp2
    go_ret
    exact ⟨bl, rfl, HE.out⟩

set_option maxRecDepth 100000 in
set_option maxHeartbeats 2000000 in
/-- The second alone is a variable. -/
theorem equate_second (w0 : World) (p : Nat) (s0 : St) (E : List (Tm × Tm)) (r : List (Nat × Nat)) (x y a b : Nat) (w : World) (c : EqC w0 p s0 E r x y a b w) (hab : ¬ a = b) (ha : ¬ (s0.tm a).kind = 1) (hb : (s0.tm b).kind = 1) :
    Calls Try.prog 148 #[.pointer (some ⟨p, 0, none⟩), .pointer (some ⟨a, 0, none⟩), .pointer (some ⟨b, 0, none⟩)] w (EqP w0 p E s0 w) := by
  have heq := eqlPtr w (c.block c.aD) (c.block c.bD)
  rw [decide_eq_false hab] at heq
  obtain ⟨u1, u2, _, hca⟩ := c.cells c.aD
  obtain ⟨v1, v2, _, hcb⟩ := c.cells c.bD
  obtain ⟨a1, a2, _, _⟩ := hca w (Below.refl _ _)
  obtain ⟨b1, b2, _, _⟩ := hcb w (Below.refl _ _)
  have q1 := isVarQ a _ false w (by simp [ha]) a1
  have Q3 := Lib.hid (isVarR a _ false w (by simp [ha]) a1)
  have Q4 := Lib.hid (isVarR b _ true w (by rw [hb]; rfl) b1)
  have HBD : Hid (∀ n, Calls Try.prog 181 #[.pointer (some ⟨p, 0, none⟩), .pointer (some ⟨b, 0, none⟩), .pointer (some ⟨a, 0, none⟩)] (w.drewN n) (EqP w0 p E s0 w)) := Lib.hid fun n => by
    have hbw := below_drewN (Below.refl w.heap.size w) n
    have cn := c.kept hbw
    refine (bind_any w0 p (popS s0 r) b a (w.drewN n) cn.h cn.bD cn.aD cn.rb cn.ra (fun e => hab e.symm) (by have := c.hB; show s0.bound ≤ _; omega)).mono fun e w' ⟨h1, h2, h3⟩ => ?_
    obtain ⟨k1, k2⟩ := c.bound (k := b) (d := a) (.inr ⟨rfl, rfl⟩) (fun e => hab e.symm) hb (fun h => absurd h ha)
    exact ⟨_, h1, (Fr.of_below hbw).trans h3, _, h2, fun h => ⟨k1, of_decide_eq_true h⟩, fun h => k2 (Nat.lt_of_not_le (of_decide_eq_false h))⟩
  clear c hab ha hb hca hcb
  go_enter Try.func148, Try.ntmps148
  go_wp2
  go_quiet ((go_at_call 180; exact q1 _))
  go_wp2_with fail
  refine (Q3.out _).mono ?_
  rintro e w1 ⟨rfl, rfl⟩
  go_wp2_with fail
  refine (Q4.out _).mono ?_
  rintro e w1 ⟨rfl, rfl⟩
  go_wp2_with fail
  refine (HBD.out _).mono ?_
  rintro e w1 ⟨bl, rfl, hE⟩
  have HE := Lib.hid hE
  clear hE HBD q1
  go_wp2
  go_ret
  exact ⟨bl, rfl, HE.out⟩

end Go.Proofs.Ytbbgiefnmihmdaa

namespace Go.Proofs.Ytbbgiefnmihmdaa
open Go.RowKit
set_option linter.unusedVariables false
set_option linter.unusedSimpArgs false

set_option maxRecDepth 100000 in
set_option maxHeartbeats 4000000 in
/-- Neither is a variable. -/
theorem equate_terms (w0 : World) (p : Nat) (s0 : St) (E : List (Tm × Tm)) (r : List (Nat × Nat)) (x y a b : Nat) (w : World) (c : EqC w0 p s0 E r x y a b w) (hab : ¬ a = b) (ha : ¬ (s0.tm a).kind = 1) (hb : ¬ (s0.tm b).kind = 1) :
    Calls Try.prog 148 #[.pointer (some ⟨p, 0, none⟩), .pointer (some ⟨a, 0, none⟩), .pointer (some ⟨b, 0, none⟩)] w (EqP w0 p E s0 w) := by
  have heq := eqlPtr w (c.block c.aD) (c.block c.bD)
  rw [decide_eq_false hab] at heq
  obtain ⟨u1, u2, hga, hca⟩ := c.cells c.aD
  obtain ⟨v1, v2, hgb, hcb⟩ := c.cells c.bD
  obtain ⟨a1, a2, a3, a4⟩ := hca w (Below.refl _ _)
  obtain ⟨b1, b2, b3, b4⟩ := hcb w (Below.refl _ _)
  have q1 := isVarQ a _ false w (by simp [ha]) a1
  have Q3 := Lib.hid (isVarR a _ false w (by simp [ha]) a1)
  have Q4 := Lib.hid (isVarR b _ false w (by simp [hb]) b1)
  have HCA := Lib.hid hca
  have HCB := Lib.hid hcb
  have HC := Lib.hid c
  have HAB := Lib.hid (And.intro hab (And.intro ha hb))
  have HGA := Lib.hid (And.intro hga hgb)
  have HCM : Hid (∀ W, Below w.heap.size w W → Calls Try.prog 110 #[.agg #[.int .i64 (s0.tm a).kind, .int .i64 (s0.tm a).num, .string (s0.tm a).name, .slice u1 (s0.tm a).args.length u2], .agg #[.int .i64 (s0.tm b).kind, .int .i64 (s0.tm b).num, .string (s0.tm b).name, .slice v1 (s0.tm b).args.length v2]] W fun e w' => e = .returned (.int .i64 ((s0.tm a).cmp (s0.tm b))) ∧ Below W.heap.size W w') := Lib.hid fun W hW => by
    have oa := c.hI.ok a c.aD
    have ob := c.hI.ok b c.bD
    have za := good_sz oa.2
    have zb := good_sz ob.2
    have na := oa.1
    have nb := ob.1
    exact compare_any ((s0.tm a).nodes + 1) _ _ _ _ W (Nat.lt_succ_self _) (hga.kept hW) (hgb.kept hW) (by omega) (by omega) oa.2 ob.2
  have HFIN : Hid (¬ ((s0.tm a).kind = 4 ∧ (s0.tm b).kind = 4) → ∀ W, Below w.heap.size w W → EqP w0 p E s0 w (.returned (.bool ((s0.tm a).cmp (s0.tm b) == 0))) W) := Lib.hid fun h4 W hW => by
    have cn := c.kept hW
    have hxa := c.hxa
    have hyb := c.hyb
    refine ⟨_, rfl, Fr.of_below hW, _, cn.h, fun h => ?_, fun h o F hE => ?_⟩
    · have hz : (s0.tm a).cmp (s0.tm b) = 0 := by simpa using h
      have e := cmp_zero _ _ _ (Nat.le_refl _) (c.hI.ok a c.aD).2 (c.hI.ok b c.bD).2 hz
      exact c.skip (.inr ⟨ha, fun q => h4 ⟨q, by rw [← e]; exact q⟩, e⟩)
    · refine c.hI.clash hE c.mem (by rw [← hxa]; exact ha) (by rw [← hyb]; exact hb) (by rw [← hxa, ← hyb]; exact h4) (by
        rw [← hxa, ← hyb]
        intro e
        rw [e, cmp_self] at h
        simp at h)
  clear c hab ha hb hca hcb hga hgb
  go_enter Try.func148, Try.ntmps148
  go_wp2
  go_quiet ((go_at_call 180; exact q1 _))
  go_wp2_with fail
  refine (Q3.out _).mono ?_
  rintro e w1 ⟨rfl, rfl⟩
  go_wp2_with fail
  refine (Q4.out _).mono ?_
  rintro e w1 ⟨rfl, rfl⟩
  go_upto_region 9 with (fail)
  have HW1 := Lib.hid (below_drewN (Below.refl w.heap.size w) nq)
  generalize hw1 : w.drewN nq = w1 at HW1 ⊢
  clear hw1 q1 Q3 Q4 heq a1 a2 a3 a4 b1 b2 b3 b4
  obtain ⟨a1, a2, a3, a4⟩ := HCA.out w1 HW1.out
  have HP := Lib.hid (isPair_any (s0.tm a).kind (s0.tm a).num (s0.tm a).name (.slice u1 (s0.tm a).args.length u2) w1)
  by_cases hk : (s0.tm a).kind = 4
  · have d1 : decide ((s0.tm a).kind = 4) = true := decide_eq_true hk
    rw [d1] at HP
    have HKA := Lib.hid hk
    clear hk d1
    go_wp2_with fail
    refine HP.out.mono ?_
    rintro e w2 ⟨rfl, hb2⟩
    have HW2 := Lib.hid (belowOn HW1.out (Nat.le_refl _) hb2)
    clear hb2 HP a1 a2 a3 a4 HW1
    obtain ⟨b1, b2, b3, b4⟩ := HCB.out w2 HW2.out
    have HP := Lib.hid (isPair_any (s0.tm b).kind (s0.tm b).num (s0.tm b).name (.slice v1 (s0.tm b).args.length v2) w2)
    by_cases hkb : (s0.tm b).kind = 4
    · have d1 : decide ((s0.tm b).kind = 4) = true := decide_eq_true hkb
      rw [d1] at HP
      have HKB := Lib.hid hkb
      clear hkb d1
      go_wp2_with fail
      refine HP.out.mono ?_
      rintro e w3 ⟨rfl, hb3⟩
      have HW3 := Lib.hid (belowOn HW2.out (Nat.le_refl _) hb3)
      clear hb3 HP b1 b2 b3 b4 HW2
      have cn := HC.out.kept HW3.out
      have HT := Lib.hid (tie_any w0 p s0 E r x y a b w3 cn.h cn.hI cn.hs cn.hxa cn.hyb HAB.out.1 HKA.out HKB.out cn.hC cn.hS)
      clear cn
      go_wp2_with fail
      refine HT.out.mono ?_
      rintro e w4 ⟨rfl, s, h1, h2, h3, h4⟩
      have HE : Hid (Fr isM w w4 ∧ SolW w0 p s w4 ∧ StepS s0 E s ∧ s.bound ≤ 400) := Lib.hid ⟨(Fr.of_below HW3.out).trans h4, h1, h2, by have := HC.out.hB; omega⟩
      clear h1 h2 h3 h4 HT
      go_wp2
      go_ret
      exact ⟨true, rfl, HE.out.1, s, HE.out.2.1, fun _ => HE.out.2.2, (fun h => by cases h)⟩
    · have d1 : decide ((s0.tm b).kind = 4) = false := decide_eq_false hkb
      rw [d1] at HP
      have HKB := Lib.hid (fun h : (s0.tm a).kind = 4 ∧ (s0.tm b).kind = 4 => hkb h.2)
      clear hkb d1
      go_wp2_with fail
      refine HP.out.mono ?_
      rintro e w3 ⟨rfl, hb3⟩
      have HW3 := Lib.hid (belowOn HW2.out (Nat.le_refl _) hb3)
      clear hb3 HP b1 b2 b3 b4 HW2 HKA
      go_upto_region 12 with (fail)
      obtain ⟨a1, a2, a3, a4⟩ := HCA.out w3 HW3.out
      obtain ⟨b1, b2, b3, b4⟩ := HCB.out w3 HW3.out
      go_still_tail 8, (by kernel_rfl)
      change wpList _ _ _ _ _ w3.drew
      have HD := Lib.hid (HW3.out.drew)
      clear a1 a2 a3 a4 b1 b2 b3 b4
      generalize w3.drew = w5 at HD ⊢
      have HCC := Lib.hid (HCM.out w5 HD.out)
      go_wp2_with fail
      refine HCC.out.mono ?_
      rintro e w6 ⟨rfl, hb6⟩
      have HE := Lib.hid (HFIN.out HKB.out w6 (belowOn HD.out (Nat.le_refl _) hb6))
      clear hb6 HCC
      go_wp2
      go_ret
      exact HE.out
  · have d1 : decide ((s0.tm a).kind = 4) = false := decide_eq_false hk
    rw [d1] at HP
    have HKB := Lib.hid (fun h : (s0.tm a).kind = 4 ∧ (s0.tm b).kind = 4 => hk h.1)
    clear hk d1
    go_wp2_with fail
    refine HP.out.mono ?_
    rintro e w2 ⟨rfl, hb2⟩
    have HW2 := Lib.hid (belowOn HW1.out (Nat.le_refl _) hb2)
    clear hb2 HP a1 a2 a3 a4 HW1
    go_upto_region 12 with (fail)
    obtain ⟨a1, a2, a3, a4⟩ := HCA.out w2 HW2.out
    obtain ⟨b1, b2, b3, b4⟩ := HCB.out w2 HW2.out
    go_still_tail 8, (by kernel_rfl)
    change wpList _ _ _ _ _ w2.drew
    have HD := Lib.hid (HW2.out.drew)
    clear a1 a2 a3 a4 b1 b2 b3 b4
    generalize w2.drew = w5 at HD ⊢
    have HCC := Lib.hid (HCM.out w5 HD.out)
    go_wp2_with fail
    refine HCC.out.mono ?_
    rintro e w6 ⟨rfl, hb6⟩
    have HE := Lib.hid (HFIN.out HKB.out w6 (belowOn HD.out (Nat.le_refl _) hb6))
    clear hb6 HCC
    go_wp2
    go_ret
    exact HE.out
theorem equate_any (w0 : World) (p : Nat) (s0 : St) (E : List (Tm × Tm)) (r : List (Nat × Nat)) (x y a b : Nat) (w : World) (c : EqC w0 p s0 E r x y a b w) :
    Calls Try.prog 148 #[.pointer (some ⟨p, 0, none⟩), .pointer (some ⟨a, 0, none⟩), .pointer (some ⟨b, 0, none⟩)] w (EqP w0 p E s0 w) := by
  by_cases hab : a = b
  · exact equate_same w0 p s0 E r x y a b w c hab
  · by_cases ha : (s0.tm a).kind = 1
    · by_cases hb : (s0.tm b).kind = 1 ∧ (s0.tm a).num < (s0.tm b).num
      · exact equate_less w0 p s0 E r x y a b w c hab ha hb.1 hb.2
      · refine equate_first w0 p s0 E r x y a b w c hab ha fun hk => ?_
        have h1 : ¬ (s0.tm a).num < (s0.tm b).num := fun h => hb ⟨hk, h⟩
        have h2 : ¬ (s0.tm a).num = (s0.tm b).num := fun e => hab (by
          have e1 := c.hI.vars a c.aD ha
          have e2 := c.hI.vars b c.bD hk
          rw [e, e2] at e1
          exact (Option.some.inj e1).symm)
        omega
    · by_cases hb : (s0.tm b).kind = 1
      · exact equate_second w0 p s0 E r x y a b w c hab ha hb
      · exact equate_terms w0 p s0 E r x y a b w c hab ha hb
end Go.Proofs.Ytbbgiefnmihmdaa

