/-
  The program's termsOk.
-/
import Derived.Test.YtjpkkhhcpcokaaaMapSubst
import Derived.Test.YtjpkkhhcpcokaaaEachT
namespace Go.Proofs.Ytjpkkhhcpcokaaa
open Go.RowKit
set_option linter.unusedVariables false
set_option linter.unusedSimpArgs false

set_option maxHeartbeats 400000 in
theorem notOk_any (x : Tm) (V : Value) (w : World) (hA : ArgsAt w V x.args) (hZ : x.sz ≤ 1048576) :
    Calls Try.prog 119 #[.agg #[.int .i64 x.kind, .int .i64 x.num, .string x.name, V]] w fun e w' => e = .returned (.bool (!okB x)) ∧ Below w.heap.size w w' := by
  obtain ⟨aa, ca, rfl⟩ := hA.slice
  have HB := Lib.hid (belowAlloc (Below.refl w.heap.size w) (.cells #[.int .i64 x.kind, .int .i64 x.num, .string x.name, .slice aa x.args.length ca] 46))
  have HC := Lib.hid (implTermOk_any x _ _ (hA.kept HB.out) hZ)
  generalize okB x = r at HC ⊢
  clear hA
  go_enter Try.func119, Try.ntmps119
  go_wp2_with fail
  refine HC.out.mono ?_
  rintro e w1 ⟨rfl, hb⟩
  have HB2 := Lib.hid (belowOn HB.out (Nat.le_refl _) hb)
  clear hb HC
  go_wp2
  go_ret
  exact ⟨rfl, HB2.out⟩

set_option maxRecDepth 100000 in
set_option maxHeartbeats 1000000 in
theorem indexNot_any (l : List Tm) (V : Value) (w : World) (hA : ArgsAt w V l) (hE : EachT l) :
    Calls Try.prog 153 #[V, .func (.func 119) #[] #[]] w (IdxP (fun x => !okB x) l w) := by
  obtain ⟨a, cap, rfl⟩ := hA.slice
  have hL : l.length ≤ 1048577 := hE.1
  have HA := Lib.hid hA
  have HZ := Lib.hid hE
  have HYES : Hid (∀ (k : Nat) (x : Tm), l[k]? = some x → (!okB x) = true → (l.any fun x => !okB x) = true) := Lib.hid fun k x hk hx => List.any_eq_true.2 ⟨x, List.mem_of_getElem? hk, hx⟩
  have HNO : Hid ((∀ (i : Nat) (y : Tm), i < l.length → l[i]? = some y → (!okB y) = false) → (l.any fun x => !okB x) = false) := Lib.hid fun h => List.any_eq_false.2 fun x hx => by
    obtain ⟨i, hi⟩ := List.getElem?_of_mem hx
    rw [h i x (List.getElem?_eq_some_iff.1 hi).1 hi]; simp
  unfold IdxP
  generalize (l.any fun x => !okB x) = r at HYES HNO ⊢
  clear hA hE
  go_enter Try.func153, Try.ntmps153
  go_wp2
  go_loopw [8] (fun iv wr => ∃ k : Nat, k ≤ l.length ∧ iv = .int .i64 k ∧ Hid (∀ (i : Nat) (y : Tm), i < k → l[i]? = some y → (!okB y) = false) ∧ Hid (Below w.heap.size w wr)) (fun iv _ => l.length - (intOf iv).toNat)
  case atStart => exact ⟨0, Nat.zero_le _, rfl, Lib.hid (fun i y hi => absurd hi (Nat.not_lt_zero _)), Lib.hid (Below.refl _ _)⟩
  case round =>
    obtain ⟨k, hk, rfl, HN, HB⟩ := hrel
    by_cases hlt : k < l.length
    · have hltI : (k : Int) < (l.length : Int) := by omega
      obtain ⟨x, hx⟩ : ∃ x, l[k]? = some x := ⟨_, List.getElem?_eq_getElem hlt⟩
      obtain ⟨g, off, u1, u2, rfl, hg, hq, hc, hu⟩ := HA.out.elem hx
      obtain ⟨d0, d1, d2, d3⟩ := hc wr HB.out
      have HC := Lib.hid (notOk_any x (.slice u1 x.args.length u2) wr (hu.kept HB.out) (HZ.out.at hx))
      have HX := Lib.hid hx
      generalize hqd : (!okB x) = q at HC
      have HQD := Lib.hid hqd
      clear hc hu hx hq hqd
      go_wp2_with fail
      refine HC.out.mono ?_
      rintro e w2 ⟨rfl, hb⟩
      have HB2 := Lib.hid (belowOn HB.out (Nat.le_refl _) hb)
      clear hb HC d0 d1 d2 d3
      cases q with
      | true =>
        have HR := Lib.hid (HYES.out k x HX.out HQD.out)
        go_wp2
        go_ret
        exact ⟨.inl ⟨HR.out, k, rfl⟩, HB2.out⟩
      | false =>
        go_wp2
        go_roundw
        case rel =>
          refine ⟨k + 1, by omega, by go_num, Lib.hid fun i y hi hy => ?_, HB2⟩
          by_cases e : i = k
          · subst e
            cases hy.symm.trans HX.out
            exact HQD.out
          · exact HN.out i y (by omega) hy
        case measure => simp [intOf]; omega
    · obtain rfl : k = l.length := by omega
      have HR := Lib.hid (HNO.out HN.out)
      go_wp2
      go_ret
      exact ⟨.inr ⟨HR.out, rfl⟩, HB.out⟩

set_option maxHeartbeats 400000 in
theorem containsNot_any (l : List Tm) (V : Value) (w : World) (hA : ArgsAt w V l) (hE : EachT l) :
    Calls Try.prog 118 #[V, .func (.func 119) #[] #[]] w fun e w' => e = .returned (.bool (l.any fun x => !okB x)) ∧ Below w.heap.size w w' := by
  obtain ⟨a, cap, rfl⟩ := hA.slice
  have HC := Lib.hid (indexNot_any l _ w hA hE)
  clear hA hE
  unfold IdxP at HC
  generalize (l.any fun x => !okB x) = r at HC ⊢
  go_enter Try.func118, Try.ntmps118
  go_wp2_with fail
  refine HC.out.mono ?_
  rintro e w1 ⟨⟨rfl, k, rfl⟩ | ⟨rfl, rfl⟩, hb⟩
  · have HB := Lib.hid hb
    have hk0 : (0 : Int) ≤ (k : Int) := by omega
    have d : decide ((0 : Int) ≤ (k : Int)) = true := decide_eq_true hk0
    clear hb HC
    go_wp2
    go_ret
    exact ⟨by simp, HB.out⟩
  · have HB := Lib.hid hb
    clear hb HC
    go_wp2
    go_ret
    exact ⟨rfl, HB.out⟩

/-- Whether all terms of a list are valid. -/
noncomputable def allOkB (l : List Tm) : Bool := l.all okB
theorem not_any_ok (l : List Tm) : (!(l.any fun x => !okB x)) = allOkB l := by
  unfold allOkB
  induction l with
  | nil => rfl
  | cons x l ih => simp [← ih]
set_option maxHeartbeats 400000 in
theorem termsOk_e (l : List Tm) (V : Value) (w : World) (hA : ArgsAt w V l) (hE : EachT l) :
    Calls Try.prog 66 #[V] w fun e w' => e = .returned (.bool (allOkB l)) ∧ Below w.heap.size w w' := by
  obtain ⟨a, cap, rfl⟩ := hA.slice
  have HC := Lib.hid (containsNot_any l _ w hA hE)
  have HN := Lib.hid (not_any_ok l)
  generalize allOkB l = q at HN ⊢
  generalize (l.any fun x => !okB x) = r at HC HN
  clear hA hE
  go_enter Try.func66, Try.ntmps66
  go_wp2_with fail
  refine HC.out.mono ?_
  rintro e w1 ⟨rfl, hb⟩
  have HB := Lib.hid hb
  clear hb HC
  go_wp2
  go_ret
  exact ⟨by rw [← HN.out]; rfl, HB.out⟩
theorem termsOk_any (l : List Tm) (V : Value) (w : World) (hA : ArgsAt w V l) (hZ : szL l ≤ 1048577) :
    Calls Try.prog 66 #[V] w fun e w' => e = .returned (.bool (allOkB l)) ∧ Below w.heap.size w w' := termsOk_e l V w hA (eachT_of hZ)
theorem allOk_true {l : List Tm} : allOkB l = true ↔ ∀ t ∈ l, Ok t := by
  unfold allOkB
  rw [List.all_eq_true]
  exact ⟨fun h t ht => by have := h t ht; simpa [okB] using this, fun h t ht => by simpa [okB] using h t ht⟩
end Go.Proofs.Ytjpkkhhcpcokaaa

