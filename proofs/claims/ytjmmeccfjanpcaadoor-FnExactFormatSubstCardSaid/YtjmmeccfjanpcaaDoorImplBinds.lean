/-
  Whether a term has a variable that the program's map binds: slices.IndexFunc, slices.ContainsFunc over a method value, bindsIn.
-/
import Derived.Test.YtjmmeccfjanpcaaDoorImplBd
namespace Go.Proofs.YtjmmeccfjanpcaaDoor
open Go.RowKit
set_option linter.unusedVariables false
set_option linter.unusedSimpArgs false

/-- What is asked of the method value: at each part it says p. -/
def PartAt (b : Nat) (p : Tm → Bool) (l : List Tm) (w : World) : Prop := ∀ (j : Nat) (x : Tm), l[j]? = some x → ∀ (U : Value) (W : World), Below w.heap.size w W → ArgsAt W U x.args →
  Calls Tryd.prog 40 #[.map (some b), .agg #[.int .i64 x.kind, .int .i64 x.num, .string x.name, U]] W fun e w' => e = .returned (.bool (p x)) ∧ Below W.heap.size W w'
def IdxP (p : Tm → Bool) (l : List Tm) (w : World) (e : Ending) (w' : World) : Prop :=
  ((l.any p = true ∧ ∃ k : Nat, e = .returned (.int .i64 k)) ∨ (l.any p = false ∧ e = .returned (.int .i64 (-1)))) ∧ Below w.heap.size w w'

set_option maxRecDepth 100000 in
set_option maxHeartbeats 1000000 in
theorem indexFunc_any (b : Nat) (p : Tm → Bool) (l : List Tm) (V : Value) (w : World) (hA : ArgsAt w V l) (hL : l.length ≤ 1048576) (hp : PartAt b p l w) :
    Calls Tryd.prog 72 #[V, .func (.func 40) #[.map (some b)] #[]] w (IdxP p l w) := by
  obtain ⟨a, cap, rfl⟩ := hA.slice
  have HA := Lib.hid hA
  have HP := Lib.hid hp
  have HYES : Hid (∀ (k : Nat) (x : Tm), l[k]? = some x → p x = true → l.any p = true) := Lib.hid fun k x hk hx => List.any_eq_true.2 ⟨x, List.mem_of_getElem? hk, hx⟩
  have HNO : Hid ((∀ (i : Nat) (y : Tm), i < l.length → l[i]? = some y → p y = false) → l.any p = false) := Lib.hid fun h => List.any_eq_false.2 fun x hx => by
    obtain ⟨i, hi⟩ := List.getElem?_of_mem hx
    rw [h i x (List.getElem?_eq_some_iff.1 hi).1 hi]; simp
  unfold IdxP
  generalize l.any p = r at HYES HNO ⊢
  clear hA hp
  go_enter Tryd.func72, Tryd.ntmps72
  go_wp2
  go_loopw [8] (fun iv wr => ∃ k : Nat, k ≤ l.length ∧ iv = .int .i64 k ∧ Hid (∀ (i : Nat) (y : Tm), i < k → l[i]? = some y → p y = false) ∧ Hid (Below w.heap.size w wr)) (fun iv _ => l.length - (intOf iv).toNat)
  case atStart => exact ⟨0, Nat.zero_le _, rfl, Lib.hid (fun i y hi => absurd hi (Nat.not_lt_zero _)), Lib.hid (Below.refl _ _)⟩
  case round =>
    obtain ⟨k, hk, rfl, HN, HB⟩ := hrel
    by_cases hlt : k < l.length
    · have hltI : (k : Int) < (l.length : Int) := by omega
      obtain ⟨x, hx⟩ : ∃ x, l[k]? = some x := ⟨_, List.getElem?_eq_getElem hlt⟩
      obtain ⟨g, off, u1, u2, rfl, hg, hq, hc, hu⟩ := HA.out.elem hx
      obtain ⟨d0, d1, d2, d3⟩ := hc wr HB.out
      have HC := Lib.hid (HP.out k x hx (.slice u1 x.args.length u2) wr HB.out (hu.kept HB.out))
      have HX := Lib.hid hx
      clear hc hu hx hq
      go_wp2_with fail
      refine HC.out.mono ?_
      rintro e w2 ⟨rfl, hb⟩
      have HB2 := Lib.hid (belowOn HB.out (Nat.le_refl _) hb)
      clear hb HC d0 d1 d2 d3
      cases hq : p x with
      | true =>
        have HR := Lib.hid (HYES.out k x HX.out hq)
        clear hq
        go_wp2
        go_ret
        exact ⟨.inl ⟨HR.out, k, rfl⟩, HB2.out⟩
      | false =>
        have HQ := Lib.hid hq
        clear hq
        go_wp2
        go_roundw
        case rel =>
          refine ⟨k + 1, by omega, by go_num, Lib.hid fun i y hi hy => ?_, HB2⟩
          by_cases e : i = k
          · subst e
            cases hy.symm.trans HX.out
            exact HQ.out
          · exact HN.out i y (by omega) hy
        case measure => simp [intOf]; omega
    · obtain rfl : k = l.length := by omega
      have HR := Lib.hid (HNO.out HN.out)
      go_wp2
      go_ret
      exact ⟨.inr ⟨HR.out, rfl⟩, HB.out⟩

set_option maxHeartbeats 400000 in
theorem containsFunc_any (b : Nat) (p : Tm → Bool) (l : List Tm) (V : Value) (w : World) (hA : ArgsAt w V l) (hL : l.length ≤ 1048576) (hp : PartAt b p l w) :
    Calls Tryd.prog 57 #[V, .func (.func 40) #[.map (some b)] #[]] w fun e w' => e = .returned (.bool (l.any p)) ∧ Below w.heap.size w w' := by
  obtain ⟨a, cap, rfl⟩ := hA.slice
  have HC := Lib.hid (indexFunc_any b p l _ w hA hL hp)
  clear hA hp
  unfold IdxP at HC
  generalize l.any p = r at HC ⊢
  go_enter Tryd.func57, Tryd.ntmps57
  go_wp2_with fail
  refine HC.out.mono ?_
  rintro e w1 ⟨⟨rfl, k, rfl⟩ | ⟨rfl, rfl⟩, hb⟩
  · have HB := Lib.hid hb
    have hk0 : (0 : Int) ≤ (k : Int) := by omega
    have d : decide ((0 : Int) ≤ (k : Int)) = true := decide_eq_true hk0
    clear hb HC
    go_wp2
    go_ret
    exact ⟨by simp, HB.out⟩
  · have HB := Lib.hid hb
    clear hb HC
    go_wp2
    go_ret
    exact ⟨rfl, HB.out⟩

set_option maxRecDepth 100000 in
set_option maxHeartbeats 1000000 in
theorem bindsIn_any (N : Nat) : ∀ (b : Nat) (g : Int → Option Tm) (t : Tm) (V : Value) (w : World), t.nodes < N → MapG w b g → ArgsAt w V t.args → t.sz ≤ 1048576 → Good t →
    Calls Tryd.prog 40 #[.map (some b), .agg #[.int .i64 t.kind, .int .i64 t.num, .string t.name, V]] w fun e w' => e = .returned (.bool (anyG g t)) ∧ Below w.heap.size w w' := by
  induction N with
  | zero => intro b g t V w hN; omega
  | succ N ih =>
    intro b g t V w hN hM hA hZ hG
    obtain ⟨aa, ca, rfl⟩ := hA.slice
    have HW := Lib.hid (belowAlloc (Below.refl w.heap.size w) (.cells #[.int .i64 t.kind, .int .i64 t.num, .string t.name, .slice aa t.args.length ca] 43))
    have HX := Lib.hid (at_box_of w #[.int .i64 t.kind, .int .i64 t.num, .string t.name, .slice aa t.args.length ca] 43 w.heap.size rfl)
    have HA := Lib.hid (hA.kept HW.out)
    have HM := Lib.hid (hM.kept HW.out)
    have HI := Lib.hid ih
    have HG := Lib.hid hG
    have HVW : Hid (t.kind = 1 → wfI t.num) := Lib.hid fun hk => by
      have h := hG.var_range hk
      exact wfI_of (by omega) (by omega)
    have hlen : t.args.length ≤ 1048576 := by have h1 := length_szL t.args; have h2 := sz_eq t; omega
    have HS := Lib.hid (sz_eq t)
    have HNE := Lib.hid (nodes_eq t)
    clear hA hM ih hG
    have HANY : Hid ((ofG g t).isSome = true → anyG g t = true) := Lib.hid fun h => by
      by_cases hk : t.kind = 1
      · rw [anyG_var hk, ← ofG_var (g := g) hk]; exact h
      · rw [ofG_no hk] at h; cases h
    have HARG : Hid ((ofG g t).isSome = false → anyG g t = t.args.any (anyG g)) := Lib.hid fun h => by
      by_cases hk : t.kind = 1
      · rw [fit_var HG.out.fit hk, anyG_var hk, ← ofG_var (g := g) hk, h]; rfl
      · exact anyG_args hk
    generalize anyG g t = r at HANY HARG ⊢
    go_enter Tryd.func40, Tryd.ntmps40
    go_upto_region 1 with (fail)
    generalize hw0 : w.alloc (.cells #[.int .i64 t.kind, .int .i64 t.num, .string t.name, .slice aa t.args.length ca] 43) = w0 at HA HX HW HM ⊢
    clear hw0
    have HC := Lib.hid (termFor_any b g t _ w0 HM.out HVW.out HA.out)
    obtain ⟨c0, c1, c2, c3⟩ := HX.out.cells
    have z0 := HX.out.le
    generalize ofG g t = o at HC HANY HARG
    go_wp2_with fail
    refine HC.out.mono ?_
    rintro e w1 ⟨xa, xc, rfl, hax, hb⟩
    have HX1 := Lib.hid (HX.out.read hb)
    have HW1 := Lib.hid (belowOn HW.out (Nat.le_refl _) hb)
    have HA1 := Lib.hid (HA.out.kept hb)
    have HM1 := Lib.hid (HM.out.kept hb)
    clear hb hax HC c0 c1 c2 c3 z0 HX HA HM
    go_upto_region 2 with (fail)
    have hal : Below w1.heap.size w1 (w1.alloc (.cells #[.int .i64 (orZero o).kind, .int .i64 (orZero o).num, .string (orZero o).name, .slice xa (orZero o).args.length xc] 43)) := belowAlloc (Below.refl _ _) _
    replace HX1 := Lib.hid (HX1.out.read hal)
    replace HW1 := Lib.hid (belowOn HW1.out (Nat.le_refl _) hal)
    replace HA1 := Lib.hid (HA1.out.kept hal)
    replace HM1 := Lib.hid (HM1.out.kept hal)
    clear hal
    generalize hw2 : w1.alloc (.cells #[.int .i64 (orZero o).kind, .int .i64 (orZero o).num, .string (orZero o).name, .slice xa (orZero o).args.length xc] 43) = w2 at HX1 HW1 HA1 HM1 ⊢
    clear hw2
    cases ho : o.isSome with
    | true =>
      obtain rfl := HANY.out ho
      clear ho
      go_wp2
      go_ret
      exact ⟨rfl, HW1.out⟩
    | false =>
      have HR := Lib.hid (HARG.out ho)
      clear ho
      have HC := Lib.hid (containsFunc_any b (anyG g) t.args _ w2 HA1.out hlen (fun j x hj U W hW hU => HI.out b g x U W (by have h1 := nodes_at hj; have := HNE.out; omega) (HM1.out.kept hW) hU (by have h1 := sz_at hj; have := HS.out; omega) (HG.out.each hj)))
      obtain ⟨c0, c1, c2, c3⟩ := HX1.out.cells
      have z0 := HX1.out.le
      go_wp2_with fail
      refine HC.out.mono ?_
      rintro e w3 ⟨rfl, hb⟩
      have HW3 := Lib.hid (belowOn HW1.out (Nat.le_refl _) hb)
      clear hb HC c0 c1 c2 c3 z0
      go_wp2
      go_ret
      exact ⟨by rw [HR.out]; rfl, HW3.out⟩
end Go.Proofs.YtjmmeccfjanpcaaDoor

