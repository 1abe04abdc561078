/-
  The laws' own test whether two terms are the same, and their count of a variable.
-/
import Derived.Test.YtoihimdfmncdoaaUnifT
import Derived.Test.YtoihimdfmncdoaaCmps
import Derived.Deep.RegionWith
namespace Go.Proofs.Ytoihimdfmncdoaa
open Go.RowKit
set_option linter.unusedVariables false
set_option linter.unusedSimpArgs false

theorem cmpL_yes : ∀ l m : List Tm, (∀ (j : Nat) x y, l[j]? = some x → m[j]? = some y → x.cmp y = 0) → cmpL l m = 0
  | [], _, _ => by rw [cmpL]
  | _ :: _, [], _ => by rw [cmpL]
  | t :: l, u :: m, h => by
    rw [cmpL_lex, lex_zero (h 0 t u rfl rfl)]
    exact cmpL_yes l m fun j x y hx hy => h (j + 1) x y (by simpa using hx) (by simpa using hy)
theorem cmpL_no : ∀ (l m : List Tm) (j : Nat) (x y : Tm), cmpL l m = 0 → l[j]? = some x → m[j]? = some y → x.cmp y = 0
  | [], _, j, x, y, _, hx, _ => by simp at hx
  | _ :: _, [], j, x, y, _, _, hy => by simp at hy
  | t :: l, u :: m, j, x, y, h, hx, hy => by
    rw [cmpL_lex, lex_eq] at h
    cases j with
    | zero => simp at hx hy; subst hx; subst hy; exact h.1
    | succ j => exact cmpL_no l m j x y h.2 (by simpa using hx) (by simpa using hy)
theorem same_lengths {a b : Tm} (ha : Good a) (hb : Good b) (h : a.kind = b.kind) : a.args.length = b.args.length := by
  rcases good_args_cases ha with ⟨hk, x, y, hxy, _⟩ | ⟨hk, hl⟩
  · rcases good_args_cases hb with ⟨_, x2, y2, hxy2, _⟩ | ⟨hk', _⟩
    · rw [hxy, hxy2]; rfl
    · omega
  · rcases good_args_cases hb with ⟨hk', _⟩ | ⟨_, hl'⟩
    · omega
    · rw [hl, hl']
theorem string_neq {a b : ByteArray} (h : ¬ a = b) : (a.toList == b.toList) = false := by rw [beq_eq_false_iff_ne]; exact fun e => h (toList_inj e)
theorem cmp_not {a b : Tm} (h : ¬ (a.kind = b.kind ∧ a.num = b.num ∧ a.name = b.name)) : (a.cmp b == 0) = false := by
  rw [beq_eq_false_iff_ne]
  intro e
  rw [cmp_lex, lex_eq] at e
  exact h (cmpN_zero e.1)
theorem cmp_num {a b : Tm} (h : a.kind = b.kind ∧ a.num = b.num ∧ a.name = b.name) : a.cmp b = cmpL a.args b.args := by
  have e : cmpN a b = 0 := by rw [cmpN_lex, h.1, h.2.1, h.2.2, cmpI_self, cmpI_self, cmpS_self]; rfl
  rw [cmp_lex, lex_zero e]

set_option maxHeartbeats 4000000 in
set_option maxRecDepth 100000 in
theorem same_any (N : Nat) : ∀ (a b : Tm) (Va Vb : Value) (w : World), a.nodes < N → ArgsAt w Va a.args → ArgsAt w Vb b.args → a.sz ≤ 1048576 → b.sz ≤ 1048576 → Good a → Good b →
    Calls Try.prog 14 #[.agg #[.int .i64 a.kind, .int .i64 a.num, .string a.name, Va], .agg #[.int .i64 b.kind, .int .i64 b.num, .string b.name, Vb]] w fun e w' => e = .returned (.bool (a.cmp b == 0)) ∧ Below w.heap.size w w' := by
  induction N with
  | zero => intro a b Va Vb w hN; omega
  | succ N ih =>
    intro a b Va Vb w hN hA hB hZa hZb hGa hGb
    obtain ⟨aa, ca, rfl⟩ := hA.slice
    obtain ⟨ab, cb, rfl⟩ := hB.slice
    have HI := Lib.hid ih
    have HGa := Lib.hid hGa
    have HGb := Lib.hid hGb
    have HSa := Lib.hid (sz_eq a)
    have HSb := Lib.hid (sz_eq b)
    have HA := Lib.hid hA
    have HB := Lib.hid hB
    have hla : a.args.length ≤ 1048576 := by have := length_szL a.args; have := HSa.out; omega
    have hlb : b.args.length ≤ 1048576 := by have := length_szL b.args; have := HSb.out; omega
    have hna : a.name.size ≤ 1048576 := by have := HSa.out; omega
    have hnb : b.name.size ≤ 1048576 := by have := HSb.out; omega
    have HW : Hid (Below w.heap.size w ((w.alloc (.cells #[.int .i64 a.kind, .int .i64 a.num, .string a.name, .slice aa a.args.length ca] 25)).alloc (.cells #[.int .i64 b.kind, .int .i64 b.num, .string b.name, .slice ab b.args.length cb] 25))) := Lib.hid (belowAlloc (belowAlloc (Below.refl _ _) _) _)
    clear hA hB ih hGa hGb
    by_cases hk : a.kind = b.kind
    · have hk1 : (a.kind == b.kind) = true := by simp [hk]
      have hk2 : (a.kind != b.kind) = false := by simp [hk]
      have HK := Lib.hid hk
      clear hk
      by_cases hi : a.num = b.num
      · have hi1 : (a.num == b.num) = true := by simp [hi]
        have hi2 : (a.num != b.num) = false := by simp [hi]
        have HIN := Lib.hid hi
        clear hi
        by_cases hs : a.name = b.name
        · have hs1 : (a.name.toList == b.name.toList) = true := by simp [hs]
          have hs2 : (a.name.toList != b.name.toList) = false := by simp [hs]
          have HL := Lib.hid (same_lengths HGa.out HGb.out HK.out)
          have HC := Lib.hid (cmp_num ⟨HK.out, HIN.out, hs⟩)
          have hl1 : (((a.args.length : Nat) : Int) == ((b.args.length : Nat) : Int)) = true := by simp [HL.out]
          have hl2 : (((a.args.length : Nat) : Int) != ((b.args.length : Nat) : Int)) = false := by simp [HL.out]
          clear hs
          have HY := Lib.hid ((at_box_of (w.alloc (.cells #[.int .i64 a.kind, .int .i64 a.num, .string a.name, .slice aa a.args.length ca] 25)) #[.int .i64 b.kind, .int .i64 b.num, .string b.name, .slice ab b.args.length cb] 25 (w.heap.size + 1) (by simp)))
          have HX := Lib.hid ((at_box w #[.int .i64 a.kind, .int .i64 a.num, .string a.name, .slice aa a.args.length ca] 25).read (belowAlloc (Below.refl _ _) (.cells #[.int .i64 b.kind, .int .i64 b.num, .string b.name, .slice ab b.args.length cb] 25)))
          go_enter Try.func14, Try.ntmps14
          go_upto_region 1 with (fail)
          generalize hw0 : (w.alloc (.cells #[.int .i64 a.kind, .int .i64 a.num, .string a.name, .slice aa a.args.length ca] 25)).alloc (.cells #[.int .i64 b.kind, .int .i64 b.num, .string b.name, .slice ab b.args.length cb] 25) = w1 at HW HX HY ⊢
          clear hw0
          obtain ⟨c0a, c0b, c0c, c0d⟩ := HX.out.cells
          have z0 := HX.out.le
          obtain ⟨c1a, c1b, c1c, c1d⟩ := HY.out.cells
          have z1 := HY.out.le
          go_wp2
          clear c0a c0b c0c c0d z0 c1a c1b c1c c1d z1 hk1 hk2 hi1 hi2 hs1 hs2 hl1 hl2
          go_loopw [38] (fun iv wr => ∃ (k : Nat), iv = .int .i64 k ∧ k ≤ a.args.length ∧ Hid (∀ (j : Nat) x y, j < k → a.args[j]? = some x → b.args[j]? = some y → x.cmp y = 0) ∧ Hid (At wr (w.heap.size + 1) (w.heap.size + 1 + 1) (BoxP (w.heap.size + 1) #[.int .i64 b.kind, .int .i64 b.num, .string b.name, .slice ab b.args.length cb] 25)) ∧ Hid (Below w.heap.size w wr)) (fun iv _ => a.args.length - (intOf iv).toNat)
          case atStart => exact ⟨0, rfl, Nat.zero_le _, Lib.hid (fun j x y hj => by omega), HY, HW⟩
          case round =>
            obtain ⟨k, rfl, hk, HZ, HYr, HWr⟩ := hrel
            clear HX HY HW
            by_cases hlt : k < a.args.length
            · have hlt' : k < b.args.length := by have := HL.out; omega
              have hltI : (k : Int) < (b.args.length : Int) := by omega
              obtain ⟨x, hx⟩ : ∃ x, a.args[k]? = some x := ⟨_, List.getElem?_eq_getElem hlt⟩
              obtain ⟨y, hy⟩ : ∃ y, b.args[k]? = some y := ⟨_, List.getElem?_eq_getElem hlt'⟩
              obtain ⟨ga, offa, u1, u2, rfl, hga, hna', hcx, hax⟩ := HA.out.elem hx
              obtain ⟨gb, offb, v1, v2, rfl, hgb, hnb', hcy, hay⟩ := HB.out.elem hy
              have HGX := Lib.hid (And.intro (HGa.out.each hx) (HGb.out.each hy))
              have HNX := Lib.hid (And.intro (nodes_at hx) (And.intro (sz_at hx) (sz_at hy)))
              have HNE := Lib.hid (nodes_eq a)
              have HXY := Lib.hid (And.intro hx hy)
              obtain ⟨d0, d1, d2, d3⟩ := hcx wr HWr.out
              have HCY := Lib.hid (And.intro hcy (And.intro hax (And.intro hay (And.intro hga hgb))))
              clear hx hy hna' hnb' hcx hcy hax hay hga hgb
              go_upto_region 6 with (fail)
              have HX1 := Lib.hid (at_box wr #[.int .i64 x.kind, .int .i64 x.num, .string x.name, .slice u1 x.args.length u2] 25)
              have hal : Below wr.heap.size wr (wr.alloc (.cells #[.int .i64 x.kind, .int .i64 x.num, .string x.name, .slice u1 x.args.length u2] 25)) := belowAlloc (Below.refl _ _) _
              have HY1 := Lib.hid (HYr.out.read hal)
              have HW1 := Lib.hid (belowOn HWr.out (Nat.le_refl _) hal)
              clear hal d0 d1 d2 d3 HYr HWr
              generalize hw1 : wr.alloc (.cells #[.int .i64 x.kind, .int .i64 x.num, .string x.name, .slice u1 x.args.length u2] 25) = W1 at HX1 HY1 HW1 ⊢
              clear hw1
              obtain ⟨e0, e1, e2, e3⟩ := HX1.out.cells
              obtain ⟨f0, f1, f2, f3⟩ := HY1.out.cells
              obtain ⟨d0, d1, d2, d3⟩ := HCY.out.1 W1 HW1.out
              have hself : Below W1.heap.size W1 W1 := Below.refl _ _
              have HS : Hid (∀ W, Below W1.heap.size W1 W → Calls Try.prog 14 #[.agg #[.int .i64 x.kind, .int .i64 x.num, .string x.name, .slice u1 x.args.length u2], .agg #[.int .i64 y.kind, .int .i64 y.num, .string y.name, .slice v1 y.args.length v2]] W fun e w' => e = .returned (.bool (x.cmp y == 0)) ∧ Below W1.heap.size W1 w') := Lib.hid fun W hW => by
                have hbw := belowOn HW1.out (Nat.le_refl _) hW
                refine (HI.out x y _ _ W (by have := HNX.out.1; have := HNE.out; omega) (HCY.out.2.1.kept (hbw.mono (Nat.le_refl _))) (HCY.out.2.2.1.kept hbw) (by have := HNX.out.2.1; have := HSa.out; omega) (by have := HNX.out.2.2; have := HSb.out; omega) HGX.out.1 HGX.out.2).mono ?_
                rintro e w' ⟨rfl, hb⟩
                exact ⟨rfl, belowOn hW (Nat.le_refl _) hb⟩
              clear HI
              cases hz : (x.cmp y == 0) with
              | true =>
                rw [hz] at HS
                have HZ2 : Hid (x.cmp y = 0) := Lib.hid (by simpa using hz)
                clear hz
                go_region_with (go_at_call 14; (with_reducible refine Calls.mono (HS.out _ ?_) ?_); (first | exact hself | exact hself.drew | exact hself.drew.drew); rintro e w2 ⟨rfl, hb⟩)
                all_goals
                  have HY2 := Lib.hid (HY1.out.read hb)
                  have HW2 := Lib.hid (belowOn HW1.out (Nat.le_refl _) hb)
                  clear hb e0 e1 e2 e3 f0 f1 f2 f3 d0 d1 d2 d3 hself
                  go_wp2
                  go_roundw
                  case rel => exact ⟨k + 1, by go_num, by omega, Lib.hid (fun j x' y' hj hx' hy' => by
                    by_cases hjk : j = k
                    · subst hjk
                      have e1 := HXY.out.1.symm.trans hx'
                      have e2 := HXY.out.2.symm.trans hy'
                      cases e1
                      cases e2
                      exact HZ2.out
                    · exact HZ.out j x' y' (by omega) hx' hy'), HY2, HW2⟩
                  case measure => simp [intOf]; omega
              | false =>
                rw [hz] at HS
                have HNO : Hid ((a.cmp b == 0) = false) := Lib.hid (by
                  rw [beq_eq_false_iff_ne] at hz ⊢
                  exact fun e => hz (cmpL_no a.args b.args k x y (HC.out.symm.trans e) HXY.out.1 HXY.out.2))
                clear hz
                go_region_with (go_at_call 14; (with_reducible refine Calls.mono (HS.out _ ?_) ?_); (first | exact hself | exact hself.drew | exact hself.drew.drew); rintro e w2 ⟨rfl, hb⟩)
                all_goals
                  have HW2 := Lib.hid (belowOn HW1.out (Nat.le_refl _) hb)
                  clear hb e0 e1 e2 e3 f0 f1 f2 f3 d0 d1 d2 d3 hself
                  go_wp2
                  go_ret
                  exact ⟨by rw [HNO.out]; rfl, HW2.out⟩
            · have HYES : Hid ((a.cmp b == 0) = true) := Lib.hid (by
                rw [beq_iff_eq, HC.out]
                exact cmpL_yes _ _ fun j x y hx hy => HZ.out j x y (by have := (List.getElem?_eq_some_iff.1 hx).1; omega) hx hy)
              go_wp2
              go_ret
              exact ⟨by rw [HYES.out]; rfl, HWr.out⟩
        · have hs1 := string_neq hs
          have hs2 : (a.name.toList != b.name.toList) = true := by simp [bne, hs1]
          have HNO := Lib.hid (cmp_not (a := a) (b := b) fun h => hs h.2.2)
          clear hs
          go_enter Try.func14, Try.ntmps14
          go_wp2
          go_ret
          exact ⟨by rw [HNO.out]; rfl, HW.out⟩
      · have hi1 : (a.num == b.num) = false := by simp [hi]
        have hi2 : (a.num != b.num) = true := by simp [hi]
        have HNO := Lib.hid (cmp_not (a := a) (b := b) fun h => hi h.2.1)
        clear hi
        go_enter Try.func14, Try.ntmps14
        go_wp2
        go_ret
        exact ⟨by rw [HNO.out]; rfl, HW.out⟩
    · have hk1 : (a.kind == b.kind) = false := by simp [hk]
      have hk2 : (a.kind != b.kind) = true := by simp [hk]
      have HNO := Lib.hid (cmp_not (a := a) (b := b) fun h => hk h.1)
      clear hk
      go_enter Try.func14, Try.ntmps14
      go_wp2
      go_ret
      exact ⟨by rw [HNO.out]; rfl, HW.out⟩
end Go.Proofs.Ytoihimdfmncdoaa

