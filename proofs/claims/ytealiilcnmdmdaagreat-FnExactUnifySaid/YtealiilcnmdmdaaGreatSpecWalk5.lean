/-
  The model's l05Walk: a bound variable replaced.
-/
import Derived.Test.YtealiilcnmdmdaaGreatBindP
namespace Go.Proofs.YtealiilcnmdmdaaGreat
open Go.RowKit
set_option linter.unusedVariables false
set_option linter.unusedSimpArgs false

theorem walk_var {s : List Bd} {t y : Tm} (hk : t.kind = 1) (hg : getO s t.num = some y) : walkT s t = y := by unfold walkT; rw [if_pos hk, hg]
theorem walk_stay {s : List Bd} {t : Tm} (h : ¬ t.kind = 1 ∨ getO s t.num = none) : walkT s t = t := by
  unfold walkT
  by_cases hk : t.kind = 1
  · rw [if_pos hk]
    rcases h with h | h
    · exact absurd hk h
    · rw [h]
  · exact if_neg hk
set_option maxRecDepth 100000 in
set_option maxHeartbeats 1000000 in
theorem specWalk5_any (s : List Bd) (t : Tm) (Vs V : Value) (S : Nat → Prop) (w : World) (hL : s.length ≤ 1048576) (hLS : ListS bdE w S Vs s) (hA : ArgsS w S V t.args) (hSB : ∀ k, S k → k < w.heap.size) :
    Calls Tryz.prog 89 #[Vs, .agg #[.int .i64 t.kind, .int .i64 t.num, .string t.name, V]] w fun e w' => ∃ u, e = .returned (.agg #[.int .i64 (walkT s t).kind, .int .i64 (walkT s t).num, .string (walkT s t).name, u]) ∧ ArgsS w' S u (walkT s t).args ∧ Below w.heap.size w w' := by
  obtain ⟨aa, ca, rfl⟩ := hA.at.slice
  obtain ⟨sa, sc, rfl⟩ := hLS.slice
  have HSB := Lib.hid hSB
  have hal1 : Below w.heap.size w (w.alloc (.cells #[.int .i64 t.kind, .int .i64 t.num, .string t.name, .slice aa t.args.length ca] 27)) := belowAlloc (Below.refl _ _) _
  have HX := Lib.hid (at_box_of w #[.int .i64 t.kind, .int .i64 t.num, .string t.name, .slice aa t.args.length ca] 27 w.heap.size rfl)
  have HR := Lib.hid (at_box_of (w.alloc (.cells #[.int .i64 t.kind, .int .i64 t.num, .string t.name, .slice aa t.args.length ca] 27)) #[.int .i64 0, .int .i64 0, .string ⟨#[]⟩, .slice none 0 0] 27 (w.heap.size + 1) (by simp))
  replace HX := Lib.hid (HX.out.read (belowAlloc (Below.refl _ _) (.cells #[.int .i64 0, .int .i64 0, .string ⟨#[]⟩, .slice none 0 0] 27)))
  have HW := Lib.hid (belowAlloc hal1 (.cells #[.int .i64 0, .int .i64 0, .string ⟨#[]⟩, .slice none 0 0] 27))
  have HLS := Lib.hid hLS
  have HA := Lib.hid hA
  clear hal1 hLS hA hSB
  have HEND : Hid (∀ W W', Below w.heap.size w W → Only (fun k => k = w.heap.size + 1) W W' → ∀ u l, ArgsS W S u l → ArgsS W' S u l ∧ Below w.heap.size w W') := Lib.hid fun W W' hb ho u l hu =>
    ⟨hu.frame ho.size fun k hk hks => ho.block k hks fun e => by have := HSB.out k hk; omega, hb.trans (ho.below (fun k hk => by omega) hb.size)⟩
  by_cases hk : t.kind = 1
  · have d1 : (t.kind == 1) = true := by rw [hk]; rfl
    have HWS := Lib.hid (fun (h : getO s t.num = none) => walk_stay (s := s) (t := t) (.inr h))
    have HWV := Lib.hid (fun (y : Tm) (h : getO s t.num = some y) => walk_var hk h)
    generalize walkT s t = r at HWS HWV ⊢
    clear hk
    go_enter Tryz.func89, Tryz.ntmps89
    go_upto_region 1 with (fail)
    generalize hw0 : (w.alloc (.cells #[.int .i64 t.kind, .int .i64 t.num, .string t.name, .slice aa t.args.length ca] 27)).alloc (.cells #[.int .i64 0, .int .i64 0, .string ⟨#[]⟩, .slice none 0 0] 27) = w0 at HX HR HW ⊢
    clear hw0
    obtain ⟨c0, c1, c2, c3⟩ := HX.out.cells
    have z0 := HX.out.le
    have HC := Lib.hid (specGet_any s _ t.num S w0 (HLS.out.kept HW.out) hL)
    go_wp2_with fail
    refine HC.out.mono ?_
    rintro e w1 ⟨u, rfl, hu, hb⟩
    replace HX := Lib.hid (HX.out.read hb)
    replace HR := Lib.hid (HR.out.read hb)
    replace HW := Lib.hid (belowOn HW.out (Nat.le_refl _) hb)
    obtain ⟨ua, uc, rfl⟩ := hu.at.slice
    have HU := Lib.hid hu
    clear hb hu HC c0 c1 c2 c3 z0
    have hal : Below w1.heap.size w1 (w1.alloc (.cells #[.int .i64 (getT s t.num).kind, .int .i64 (getT s t.num).num, .string (getT s t.num).name, .slice ua (getT s t.num).args.length uc] 27)) := belowAlloc (Below.refl _ _) _
    cases hg : getO s t.num with
    | none =>
      obtain rfl := HWS.out hg
      rw [(get_no hg).1] at HU hal ⊢
      rw [(get_no hg).2]
      go_upto_region 3 with (fail)
      replace HX := Lib.hid (HX.out.read hal)
      replace HR := Lib.hid (HR.out.read hal)
      replace HW := Lib.hid (belowOn HW.out (Nat.le_refl _) hal)
      replace HA := Lib.hid (HA.out.kept HW.out)
      clear hal hg HU
      generalize hw2 : w1.alloc (.cells #[.int .i64 zeroTm.kind, .int .i64 zeroTm.num, .string zeroTm.name, .slice ua zeroTm.args.length uc] 27) = w2 at HX HR HW HA ⊢
      clear hw2
      obtain ⟨c0, c1, c2, c3⟩ := HX.out.cells
      have z0 := HX.out.le
      obtain ⟨r0, r1, r2, r3, rf⟩ := box_cells HR.out.now
      go_wp2
      refine bodyPost_four (p := 4) (b := w.heap.size + 1) rfl rfl rfl Tryz.underlying27 rfl (by kernel_rfl) HR.out.now fun w' hw => ?_
      obtain ⟨h1, h2⟩ := HEND.out _ _ HW.out hw _ _ HA.out
      exact ⟨_, rfl, h1, h2⟩
    | some y =>
      obtain rfl := HWV.out y hg
      rw [(get_yes hg).1] at HU hal ⊢
      rw [(get_yes hg).2]
      go_upto_region 3 with (fail)
      have HY := Lib.hid (at_box_of w1 #[.int .i64 r.kind, .int .i64 r.num, .string r.name, .slice ua r.args.length uc] 27 w1.heap.size rfl)
      replace HR := Lib.hid (HR.out.read hal)
      replace HW := Lib.hid (belowOn HW.out (Nat.le_refl _) hal)
      replace HU := Lib.hid (HU.out.kept hal)
      clear hal hg HX
      generalize hw2 : w1.alloc (.cells #[.int .i64 r.kind, .int .i64 r.num, .string r.name, .slice ua r.args.length uc] 27) = w2 at HY HR HW HU ⊢
      clear hw2
      generalize w1.heap.size = nb at HY ⊢
      obtain ⟨c0, c1, c2, c3⟩ := HY.out.cells
      have z0 := HY.out.le
      obtain ⟨r0, r1, r2, r3, rf⟩ := box_cells HR.out.now
      go_wp2
      refine bodyPost_four (p := 4) (b := w.heap.size + 1) rfl rfl rfl Tryz.underlying27 rfl (by kernel_rfl) HR.out.now fun w' hw => ?_
      obtain ⟨h1, h2⟩ := HEND.out _ _ HW.out hw _ _ HU.out
      exact ⟨_, rfl, h1, h2⟩
  · have d1 : (t.kind == 1) = false := by simp [hk]
    have HWS := walk_stay (s := s) (t := t) (.inl hk)
    rw [HWS]
    clear hk HWS
    go_enter Tryz.func89, Tryz.ntmps89
    go_upto_region 1 with (fail)
    generalize hw0 : (w.alloc (.cells #[.int .i64 t.kind, .int .i64 t.num, .string t.name, .slice aa t.args.length ca] 27)).alloc (.cells #[.int .i64 0, .int .i64 0, .string ⟨#[]⟩, .slice none 0 0] 27) = w0 at HX HR HW ⊢
    clear hw0
    replace HA := Lib.hid (HA.out.kept HW.out)
    obtain ⟨c0, c1, c2, c3⟩ := HX.out.cells
    have z0 := HX.out.le
    obtain ⟨r0, r1, r2, r3, rf⟩ := box_cells HR.out.now
    go_wp2
    refine bodyPost_four (p := 4) (b := w.heap.size + 1) rfl rfl rfl Tryz.underlying27 rfl (by kernel_rfl) HR.out.now fun w' hw => ?_
    obtain ⟨h1, h2⟩ := HEND.out _ _ HW.out hw _ _ HA.out
    exact ⟨_, rfl, h1, h2⟩
/-- The model's count of a variable, and its list of variables. -/
theorem occ_in {v : Int} {t : Tm} (h : Good t) : 0 < t.occ v ↔ v ∈ t.vl := by
  induction h with
  | nil => rw [occ_eq]; simp [Tm.kind, Tm.args, Tm.vl, vlL, occL]
  | sym n hn => rw [occ_eq]; simp [Tm.kind, Tm.args, Tm.vl, vlL, occL]
  | int r h0 h1 => rw [occ_eq]; simp [Tm.kind, Tm.args, Tm.vl, vlL, occL]
  | var i h0 h1 =>
    rw [occ_eq]
    by_cases hi : i = v
    · subst hi; simp [Tm.kind, Tm.num, Tm.vl]
    · have hi' : ¬ v = i := fun e => hi e.symm
      simp [Tm.kind, Tm.num, Tm.args, Tm.vl, occL, hi, hi']
  | pair x y _ _ ihx ihy =>
    rw [vl_pair, List.mem_append, ← ihx, ← ihy, occ_eq]
    simp only [Tm.kind, Tm.num, Tm.args, occL]
    rw [if_neg (fun h => absurd h.1 (by decide))]
    omega
end Go.Proofs.YtealiilcnmdmdaaGreat

