/-
  The program's solver: equate, the other cases.
-/
import Derived.Test.YtealiilcnmdmdaaGreatKnotE
namespace Go.Proofs.YtealiilcnmdmdaaGreat
open Go.RowKit
set_option linter.unusedVariables false
set_option linter.unusedSimpArgs false

theorem isVarR (b : Nat) (k : Int) (bl : Bool) (w : World) (hk : (k == 1) = bl) (hc : w.cell? ⟨b, 1, none⟩ = some (.int .i64 k)) (n : Nat) :
    Calls Tryz.prog 92 #[.pointer (some ⟨b, 0, none⟩)] (w.drewN n) fun e w' => e = .returned (.bool bl) ∧ w.drewN n = w' :=
  (isVariable_any b k (w.drewN n) (by simpa using hc)).mono fun e w' ⟨he, hw⟩ => ⟨by rw [he, hk], hw⟩

set_option maxRecDepth 100000 in
set_option maxHeartbeats 2000000 in
/-- The first is a variable that is not to stand for the second. -/
theorem equate_first (w0 : World) (p : Nat) (s0 : St) (E : List (Tm × Tm)) (r : List (Nat × Nat)) (x y a b : Nat) (w : World) (c : EqC w0 p s0 E r x y a b w) (hab : ¬ a = b) (ha : (s0.tm a).kind = 1) (hb : (s0.tm b).kind = 1 → (s0.tm b).num < (s0.tm a).num) :
    Calls Tryz.prog 78 #[.pointer (some ⟨p, 0, none⟩), .pointer (some ⟨a, 0, none⟩), .pointer (some ⟨b, 0, none⟩)] w (EqP w0 p E s0 w) := by
  have heq := eqlPtr w (c.block c.aD) (c.block c.bD)
  rw [decide_eq_false hab] at heq
  obtain ⟨u1, u2, _, hca⟩ := c.cells c.aD
  obtain ⟨v1, v2, _, hcb⟩ := c.cells c.bD
  obtain ⟨a1, a2, _, _⟩ := hca w (Below.refl _ _)
  obtain ⟨b1, b2, _, _⟩ := hcb w (Below.refl _ _)
  have q1 := isVarQ a _ true w (by rw [ha]; rfl) a1
  have Q3 := Lib.hid (isVarR a _ true w (by rw [ha]; rfl) a1)
  have HBD : Hid (∀ n, Calls Tryz.prog 93 #[.pointer (some ⟨p, 0, none⟩), .pointer (some ⟨a, 0, none⟩), .pointer (some ⟨b, 0, none⟩)] (w.drewN n) (EqP w0 p E s0 w)) := Lib.hid fun n => by
    have hbw := below_drewN (Below.refl w.heap.size w) n
    have cn := c.kept hbw
    refine (bind_any w0 p (popS s0 r) a b (w.drewN n) cn.h cn.aD cn.bD cn.ra cn.rb hab (by have := c.hB; show s0.bound ≤ _; omega)).mono fun e w' ⟨h1, h2, h3⟩ => ?_
    obtain ⟨k1, k2⟩ := c.bound (k := a) (d := b) (.inl ⟨rfl, rfl⟩) hab ha hb
    exact ⟨_, h1, (Fr.of_below hbw).trans h3, _, h2, fun h => ⟨k1, of_decide_eq_true h⟩, fun h => k2 (Nat.lt_of_not_le (of_decide_eq_false h))⟩
  clear c hab ha hca hcb
  by_cases hkb : (s0.tm b).kind = 1
  · have hl := hb hkb
    have q2 := isVarQ b _ true w (by rw [hkb]; rfl) b1
    have hd : decide ((s0.tm a).num < (s0.tm b).num) = false := decide_eq_false (by omega)
    clear hl hkb hb
    go_enter Tryz.func78, Tryz.ntmps78
    go_wp2
    go_quiet ((first | (go_at_call 92; exact q1 _) | (go_at_call 92; exact q2 _)))
    go_wp2_with fail
    refine (Q3.out _).mono ?_
    rintro e w1 ⟨rfl, rfl⟩
    go_wp2_with fail
    refine (HBD.out _).mono ?_
    rintro e w1 ⟨bl, rfl, hE⟩
    have HE := Lib.hid hE
    clear hE HBD q1 q2
    go_wp2
    go_ret
    exact ⟨bl, rfl, HE.out⟩
  · have q2 := isVarQ b _ false w (by simp [hkb]) b1
    clear hkb hb
    go_enter Tryz.func78, Tryz.ntmps78
    go_wp2
    go_quiet ((first | (go_at_call 92; exact q1 _) | (go_at_call 92; exact q2 _)))
    go_wp2_with fail
    refine (Q3.out _).mono ?_
    rintro e w1 ⟨rfl, rfl⟩
    go_wp2_with fail
    refine (HBD.out _).mono ?_
    rintro e w1 ⟨bl, rfl, hE⟩
    have HE := Lib.hid hE
    clear hE HBD q1 q2
    go_wp2
    go_ret
    exact ⟨bl, rfl, HE.out⟩

set_option maxRecDepth 100000 in
set_option maxHeartbeats 2000000 in
/-- The second alone is a variable. -/
theorem equate_second (w0 : World) (p : Nat) (s0 : St) (E : List (Tm × Tm)) (r : List (Nat × Nat)) (x y a b : Nat) (w : World) (c : EqC w0 p s0 E r x y a b w) (hab : ¬ a = b) (ha : ¬ (s0.tm a).kind = 1) (hb : (s0.tm b).kind = 1) :
    Calls Tryz.prog 78 #[.pointer (some ⟨p, 0, none⟩), .pointer (some ⟨a, 0, none⟩), .pointer (some ⟨b, 0, none⟩)] w (EqP w0 p E s0 w) := by
  have heq := eqlPtr w (c.block c.aD) (c.block c.bD)
  rw [decide_eq_false hab] at heq
  obtain ⟨u1, u2, _, hca⟩ := c.cells c.aD
  obtain ⟨v1, v2, _, hcb⟩ := c.cells c.bD
  obtain ⟨a1, a2, _, _⟩ := hca w (Below.refl _ _)
  obtain ⟨b1, b2, _, _⟩ := hcb w (Below.refl _ _)
  have q1 := isVarQ a _ false w (by simp [ha]) a1
  have Q3 := Lib.hid (isVarR a _ false w (by simp [ha]) a1)
  have Q4 := Lib.hid (isVarR b _ true w (by rw [hb]; rfl) b1)
  have HBD : Hid (∀ n, Calls Tryz.prog 93 #[.pointer (some ⟨p, 0, none⟩), .pointer (some ⟨b, 0, none⟩), .pointer (some ⟨a, 0, none⟩)] (w.drewN n) (EqP w0 p E s0 w)) := Lib.hid fun n => by
    have hbw := below_drewN (Below.refl w.heap.size w) n
    have cn := c.kept hbw
    refine (bind_any w0 p (popS s0 r) b a (w.drewN n) cn.h cn.bD cn.aD cn.rb cn.ra (fun e => hab e.symm) (by have := c.hB; show s0.bound ≤ _; omega)).mono fun e w' ⟨h1, h2, h3⟩ => ?_
    obtain ⟨k1, k2⟩ := c.bound (k := b) (d := a) (.inr ⟨rfl, rfl⟩) (fun e => hab e.symm) hb (fun h => absurd h ha)
    exact ⟨_, h1, (Fr.of_below hbw).trans h3, _, h2, fun h => ⟨k1, of_decide_eq_true h⟩, fun h => k2 (Nat.lt_of_not_le (of_decide_eq_false h))⟩
  clear c hab ha hb hca hcb
  go_enter Tryz.func78, Tryz.ntmps78
  go_wp2
  go_quiet ((go_at_call 92; exact q1 _))
  go_wp2_with fail
  refine (Q3.out _).mono ?_
  rintro e w1 ⟨rfl, rfl⟩
  go_wp2_with fail
  refine (Q4.out _).mono ?_
  rintro e w1 ⟨rfl, rfl⟩
  go_wp2_with fail
  refine (HBD.out _).mono ?_
  rintro e w1 ⟨bl, rfl, hE⟩
  have HE := Lib.hid hE
  clear hE HBD q1
  go_wp2
  go_ret
  exact ⟨bl, rfl, HE.out⟩

end Go.Proofs.YtealiilcnmdmdaaGreat

