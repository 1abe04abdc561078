/-
  The order of terms: the contract of the model's l02Cmp; CompareTerms on both sides.
-/
import Derived.Test.YtodldillpoajfaaCmp
namespace Go.Proofs.Ytodldillpoajfaa
open Go.RowKit
set_option linter.unusedVariables false
set_option linter.unusedSimpArgs false

theorem cmpI_ne {x y : Int} (h : ¬ x = y) : cmpI x y = (if decide (x < y) = true then -1 else 1) := by
  unfold cmpI
  by_cases h1 : x < y
  · simp [h1]
  · have h2 : y < x := by omega
    simp [h1, h2]
theorem cmpI_self (x : Int) : cmpI x x = 0 := by unfold cmpI; split <;> (try split) <;> omega
theorem cmpS_self (x : ByteArray) : cmpS x x = 0 := by unfold cmpS; rw [if_pos rfl]
theorem cmpS_ne {x y : ByteArray} (h : ¬ x = y) : cmpS x y = (if Op.bytesLess x.toList y.toList = true then -1 else 1) := by unfold cmpS; rw [if_neg h]
theorem pm_ne {b : Bool} : ¬ (if b = true then (-1 : Int) else 1) = 0 := by cases b <;> simp
theorem cmp_by_kind {a b : Tm} (h : ¬ a.kind = b.kind) : a.cmp b = (if decide (a.kind < b.kind) = true then -1 else 1) := by
  have e : cmpN a b = (if decide (a.kind < b.kind) = true then -1 else 1) := by unfold cmpN or3; rw [cmpI_ne h, if_pos pm_ne]
  rw [cmp_of_num (by rw [e]; exact pm_ne), e]
theorem cmp_by_num {a b : Tm} (h0 : a.kind = b.kind) (h : ¬ a.num = b.num) : a.cmp b = (if decide (a.num < b.num) = true then -1 else 1) := by
  have e : cmpN a b = (if decide (a.num < b.num) = true then -1 else 1) := by unfold cmpN or3; rw [h0, cmpI_self, if_neg (by simp), cmpI_ne h, if_pos pm_ne]
  rw [cmp_of_num (by rw [e]; exact pm_ne), e]
theorem cmp_by_name {a b : Tm} (h0 : a.kind = b.kind) (h1 : a.num = b.num) (h : ¬ a.name = b.name) : a.cmp b = (if Op.bytesLess a.name.toList b.name.toList = true then -1 else 1) := by
  have e : cmpN a b = (if Op.bytesLess a.name.toList b.name.toList = true then -1 else 1) := by unfold cmpN or3; rw [h0, h1, cmpI_self, if_neg (by simp), cmpI_self, if_neg (by simp), cmpS_ne h]
  rw [cmp_of_num (by rw [e]; exact pm_ne), e]
theorem cmp_by_args {a b : Tm} (h0 : a.kind = b.kind) (h1 : a.num = b.num) (h2 : a.name = b.name) : a.cmp b = cmpL a.args b.args :=
  cmp_of_args (by unfold cmpN or3; rw [h0, h1, h2, cmpI_self, if_neg (by simp), cmpI_self, if_neg (by simp), cmpS_self])
theorem cmpL_drop {l m : List Tm} {k : Nat} {x y : Tm} (hx : l[k]? = some x) (hy : m[k]? = some y) : cmpL (l.drop k) (m.drop k) = if ¬ x.cmp y = 0 then x.cmp y else cmpL (l.drop (k + 1)) (m.drop (k + 1)) := by
  obtain ⟨h1, rfl⟩ := List.getElem?_eq_some_iff.1 hx
  obtain ⟨h2, rfl⟩ := List.getElem?_eq_some_iff.1 hy
  rw [List.drop_eq_getElem_cons h1, List.drop_eq_getElem_cons h2, cmpL]
theorem cmpL_end {l m : List Tm} {k : Nat} (h : l.length ≤ k ∨ m.length ≤ k) : cmpL (l.drop k) (m.drop k) = 0 := by
  rcases h with h | h
  · rw [List.drop_of_length_le h, cmpL]
  · rw [List.drop_of_length_le h]
    cases l.drop k with
    | nil => rw [cmpL]
    | cons x l => rw [cmpL]

set_option maxRecDepth 100000 in
set_option maxHeartbeats 4000000 in
theorem specCmp_any (N : Nat) : ∀ (a b : Tm) (Va Vb : Value) (w : World), a.nodes < N → ArgsAt w Va a.args → ArgsAt w Vb b.args → a.sz ≤ 1048576 → b.sz ≤ 1048576 →
    Calls Try.prog 67 #[.agg #[.int .i64 a.kind, .int .i64 a.num, .string a.name, Va], .agg #[.int .i64 b.kind, .int .i64 b.num, .string b.name, Vb]] w fun e w' => e = .returned (.int .i64 (a.cmp b)) ∧ Below w.heap.size w w' := by
  induction N with
  | zero => intro a b Va Vb w hN; omega
  | succ N ih =>
    intro a b Va Vb w hN hA hB hZa hZb
    obtain ⟨aa, ca, rfl⟩ := hA.slice
    obtain ⟨ab, cb, rfl⟩ := hB.slice
    have HI := Lib.hid ih
    have HSa := Lib.hid (sz_eq a)
    have HSb := Lib.hid (sz_eq b)
    have HNE := Lib.hid (nodes_eq a)
    have hLa : a.args.length ≤ 1048576 := by have := length_szL a.args; have := HSa.out; omega
    have hLb : b.args.length ≤ 1048576 := by have := length_szL b.args; have := HSb.out; omega
    have HA := Lib.hid (at_args hA)
    have HB := Lib.hid (at_args hB)
    clear hA hB ih
    have HW : Hid (Below w.heap.size w w) := Lib.hid (Below.refl _ _)
    have hal : Below w.heap.size w (w.alloc (.cells #[.int .i64 a.kind, .int .i64 a.num, .string a.name, .slice aa a.args.length ca] 25)) := (Below.refl _ _).alloc (Nat.le_refl _) _
    replace HA := Lib.hid (HA.out.read hal)
    replace HB := Lib.hid (HB.out.read hal)
    replace HW := Lib.hid (belowOn HW.out (Nat.le_refl _) hal)
    have HX := Lib.hid (at_box_of w #[.int .i64 a.kind, .int .i64 a.num, .string a.name, .slice aa a.args.length ca] 25 (w.heap.size) rfl)
    have hal2 := (Below.refl (w.alloc (.cells #[.int .i64 a.kind, .int .i64 a.num, .string a.name, .slice aa a.args.length ca] 25)).heap.size (w.alloc (.cells #[.int .i64 a.kind, .int .i64 a.num, .string a.name, .slice aa a.args.length ca] 25))).alloc (Nat.le_refl _) (.cells #[.int .i64 b.kind, .int .i64 b.num, .string b.name, .slice ab b.args.length cb] 25)
    replace HA := Lib.hid (HA.out.read hal2)
    replace HB := Lib.hid (HB.out.read hal2)
    replace HX := Lib.hid (HX.out.read hal2)
    replace HW := Lib.hid (belowOn HW.out (Nat.le_refl _) hal2)
    have HY := Lib.hid (at_box_of (w.alloc (.cells #[.int .i64 a.kind, .int .i64 a.num, .string a.name, .slice aa a.args.length ca] 25)) #[.int .i64 b.kind, .int .i64 b.num, .string b.name, .slice ab b.args.length cb] 25 (w.heap.size + 1) (by simp))
    clear hal hal2
    go_enter Try.func67, Try.ntmps67
    go_upto_region 1 with (fail)
    generalize hw0 : (w.alloc (.cells #[.int .i64 a.kind, .int .i64 a.num, .string a.name, .slice aa a.args.length ca] 25)).alloc (.cells #[.int .i64 b.kind, .int .i64 b.num, .string b.name, .slice ab b.args.length cb] 25) = w0 at HA HB HX HY HW ⊢
    clear hw0
    obtain ⟨c0a, c0b, c0c, c0d⟩ := HX.out.cells
    obtain ⟨c1a, c1b, c1c, c1d⟩ := HY.out.cells
    have z0 := HX.out.le
    have z1 := HY.out.le
    by_cases h1 : a.kind = b.kind
    · by_cases h2 : a.num = b.num
      · by_cases h3 : a.name = b.name
        · have HCA := Lib.hid (cmp_by_args h1 h2 h3)
          rw [← h1] at c1a
          rw [← h2] at c1b
          rw [← h3] at c1c
          clear h1 h2 h3
          go_wp2
          clear c0a c0b c0c c0d c1a c1b c1c c1d z0 z1
          go_loopw [5] (fun i wr => ∃ k : Nat, k ≤ a.args.length ∧ k ≤ b.args.length ∧ i = .int .i64 k ∧ Hid (a.cmp b = cmpL (a.args.drop k) (b.args.drop k)) ∧ Below w0.heap.size w0 wr)
              (fun i _ => a.args.length - (intOf i).toNat)
          case atStart => exact ⟨0, Nat.zero_le _, Nat.zero_le _, rfl, Lib.hid (by rw [HCA.out]; rfl), Below.refl _ _⟩
          case round =>
            obtain ⟨k, hka, hkb, rfl, HC, hq⟩ := hrel
            have HAr := Lib.hid (HA.out.read hq)
            have HBr := Lib.hid (HB.out.read hq)
            have HXr := Lib.hid (HX.out.read hq)
            have HYr := Lib.hid (HY.out.read hq)
            have HQ := Lib.hid hq
            have HWr := Lib.hid (belowOn HW.out (Nat.le_refl _) hq)
            clear hq
            obtain ⟨c0a, c0b, c0c, c0d⟩ := HXr.out.cells
            obtain ⟨c1a, c1b, c1c, c1d⟩ := HYr.out.cells
            have z0 := HXr.out.le
            have z1 := HYr.out.le
            by_cases hlt : k < a.args.length
            · by_cases hlt2 : k < b.args.length
              · obtain ⟨x, hx⟩ : ∃ x, a.args[k]? = some x := ⟨_, List.getElem?_eq_getElem hlt⟩
                obtain ⟨y, hy⟩ : ∃ y, b.args[k]? = some y := ⟨_, List.getElem?_eq_getElem hlt2⟩
                obtain ⟨ga, offa, u1, u2, rfl, hga, _, hcx, hax⟩ := HAr.out.argsAt.elem hx
                obtain ⟨gb, offb, v1, v2, rfl, hgb, _, hcy, hay⟩ := HBr.out.argsAt.elem hy
                have HD := Lib.hid (cmpL_drop hx hy)
                have HAX := Lib.hid hax
                have HAY := Lib.hid hay
                have HCX := Lib.hid hcx
                have HCY := Lib.hid hcy
                have HN' : Hid (x.nodes < N ∧ x.sz ≤ 1048576 ∧ y.sz ≤ 1048576) := Lib.hid (by have := nodes_at hx; have := HNE.out; have := sz_at hx; have := sz_at hy; have := HSa.out; have := HSb.out; omega)
                clear hx hy hax hay hcx hcy
                go_upto_region 10 with (fail)
                go_cut [6] from 40 to 67 (fun c wx => c = .int .i64 (x.cmp y) ∧ Below wr.heap.size wr wx)
                case first =>
                  have hself : Below wr.heap.size wr wr := Below.refl _ _
                  have hdrew : Below wr.heap.size wr wr.drew := hself.drew
                  obtain ⟨d0, d1, d2, d3⟩ := HCX.out wr hself
                  obtain ⟨e0, e1, e2, e3⟩ := HCY.out wr hself
                  have HCE : Hid (∀ W, Below wr.heap.size wr W → W.cell? ⟨w.heap.size, 3, none⟩ = some (.slice (some ⟨ga, offa, none⟩) a.args.length ca) ∧ W.cell? ⟨w.heap.size + 1, 3, none⟩ = some (.slice (some ⟨gb, offb, none⟩) b.args.length cb) ∧ W.cell? ⟨ga, offa + k * 4, none⟩ = some (.int .i64 x.kind) ∧ W.cell? ⟨ga, offa + k * 4 + 1, none⟩ = some (.int .i64 x.num) ∧ W.cell? ⟨ga, offa + k * 4 + 2, none⟩ = some (.string x.name) ∧ W.cell? ⟨ga, offa + k * 4 + 3, none⟩ = some (.slice u1 x.args.length u2) ∧ W.cell? ⟨gb, offb + k * 4, none⟩ = some (.int .i64 y.kind) ∧ W.cell? ⟨gb, offb + k * 4 + 1, none⟩ = some (.int .i64 y.num) ∧ W.cell? ⟨gb, offb + k * 4 + 2, none⟩ = some (.string y.name) ∧ W.cell? ⟨gb, offb + k * 4 + 3, none⟩ = some (.slice v1 y.args.length v2)) := Lib.hid fun W hW => by
                    obtain ⟨y0a, y0b, y0c, y0d⟩ := (HXr.out.read hW).cells
                    obtain ⟨y1a, y1b, y1c, y1d⟩ := (HYr.out.read hW).cells
                    obtain ⟨d0, d1, d2, d3⟩ := HCX.out W hW
                    obtain ⟨e0, e1, e2, e3⟩ := HCY.out W hW
                    exact ⟨y0d, y1d, d0, d1, d2, d3, e0, e1, e2, e3⟩
                  have HTR : Hid (∀ a b, Below wr.heap.size wr a → Below a.heap.size a b → Below wr.heap.size wr b) := Lib.hid fun a b h1 h2 => belowOn h1 (Nat.le_refl _) h2
                  have HCM : Hid (∀ W, Below wr.heap.size wr W → Calls Try.prog 67 #[.agg #[.int .i64 x.kind, .int .i64 x.num, .string x.name, .slice u1 x.args.length u2], .agg #[.int .i64 y.kind, .int .i64 y.num, .string y.name, .slice v1 y.args.length v2]] W fun e w' => e = .returned (.int .i64 (x.cmp y)) ∧ Below W.heap.size W w') := Lib.hid fun W hW =>
                    HI.out x y _ _ W HN'.out.1 (HAX.out.kept hW) (HAY.out.kept hW) HN'.out.2.1 HN'.out.2.2
                  have hi0 : (0 : Int) ≤ (k : Int) := by omega
                  have hi1 : (k : Int) < (a.args.length : Int) := by omega
                  have hi2 : (k : Int) < (b.args.length : Int) := by omega
                  clear HA HB HX HY HW HI HAr HBr HXr HYr HCX HCY c0a c0b c0c c1a c1b c1c
                  go_region_held3 (fun w' => Below wr.heap.size wr w' ∧ w'.cell? ⟨w.heap.size, 3, none⟩ = some (.slice (some ⟨ga, offa, none⟩) a.args.length ca) ∧ w'.cell? ⟨w.heap.size + 1, 3, none⟩ = some (.slice (some ⟨gb, offb, none⟩) b.args.length cb) ∧ w'.cell? ⟨ga, offa + k * 4, none⟩ = some (.int .i64 x.kind) ∧ w'.cell? ⟨ga, offa + k * 4 + 1, none⟩ = some (.int .i64 x.num) ∧ w'.cell? ⟨ga, offa + k * 4 + 2, none⟩ = some (.string x.name) ∧ w'.cell? ⟨ga, offa + k * 4 + 3, none⟩ = some (.slice u1 x.args.length u2) ∧ w'.cell? ⟨gb, offb + k * 4, none⟩ = some (.int .i64 y.kind) ∧ w'.cell? ⟨gb, offb + k * 4 + 1, none⟩ = some (.int .i64 y.num) ∧ w'.cell? ⟨gb, offb + k * 4 + 2, none⟩ = some (.string y.name) ∧ w'.cell? ⟨gb, offb + k * 4 + 3, none⟩ = some (.slice v1 y.args.length v2)) (go_keep)
                    (first
                      | (go_at_call 67; refine Calls.mono (HCM.out _ ?_) ?_; (assumption); rintro e w' ⟨rfl, hb⟩; have hB' := HTR.out _ _ (by assumption) hb; obtain ⟨k0, k1, k2, k3, k4, k5, k6, k7, k8, k9⟩ := HCE.out _ hB'))
                  all_goals (go_wp2_with fail; go_meet; exact ⟨rfl, by assumption⟩)
                case rest =>
                  obtain ⟨rfl, hb⟩ := hcut
                  obtain ⟨w2, rfl⟩ : ∃ x : World, x = wc := ⟨_, rfl⟩
                  have HW2 := Lib.hid (belowOn HWr.out (Nat.le_refl _) hb)
                  have HQ2 := Lib.hid (belowOn HQ.out (Nat.le_refl _) hb)
                  clear hb c0a c0b c0c c0d c1a c1b c1c c1d z0 z1
                  by_cases hz : x.cmp y = 0
                  · rw [hz]
                    have HZ := Lib.hid hz
                    clear hz
                    go_wp2
                    go_roundw
                    case rel => exact ⟨k + 1, by omega, by omega, by go_num, Lib.hid (by rw [HC.out, HD.out, if_neg (by have := HZ.out; omega)]), HQ2.out⟩
                    case measure => simp [intOf]; omega
                  · have HZ := Lib.hid hz
                    go_wp2
                    go_ret
                    exact ⟨by rw [HC.out, HD.out, if_pos HZ.out]; rfl, HW2.out⟩
              · go_wp2
                go_ret
                exact ⟨by rw [HC.out, cmpL_end (.inr (by omega))]; rfl, HWr.out⟩
            · go_wp2
              go_ret
              exact ⟨by rw [HC.out, cmpL_end (.inl (by omega))]; rfl, HWr.out⟩
        · have h4 : (a.name.toList == b.name.toList) = false := by rw [beq_eq_false_iff_ne]; exact fun h => h3 (toList_inj h)
          cases hl : Op.bytesLess a.name.toList b.name.toList
          all_goals
            have HC := Lib.hid (cmp_by_name h1 h2 h3)
            rw [hl] at HC
            have c1a' := c1a
            have c1b' := c1b
            rw [← h1] at c1a'
            rw [← h2] at c1b'
            clear c1a c1b h1 h2 h3
            go_wp2_with fail
            refine (sign_any _ _).mono ?_
            rintro e w' ⟨rfl, rfl⟩
            go_wp2
            go_ret
            exact ⟨by rw [HC.out]; rfl, HW.out⟩
      · by_cases hl : a.num < b.num
        · have HC : Hid (a.cmp b = -1) := Lib.hid (by rw [cmp_by_num h1 h2]; simp [hl])
          rw [← h1] at c1a
          clear h1
          go_wp2_with fail
          refine (sign_any _ _).mono ?_
          rintro e w' ⟨rfl, rfl⟩
          go_wp2
          go_ret
          exact ⟨by rw [HC.out]; rfl, HW.out⟩
        · have HC : Hid (a.cmp b = 1) := Lib.hid (by rw [cmp_by_num h1 h2]; simp [hl])
          rw [← h1] at c1a
          clear h1
          go_wp2_with fail
          refine (sign_any _ _).mono ?_
          rintro e w' ⟨rfl, rfl⟩
          go_wp2
          go_ret
          exact ⟨by rw [HC.out]; rfl, HW.out⟩
    · by_cases hl : a.kind < b.kind
      · have HC : Hid (a.cmp b = -1) := Lib.hid (by rw [cmp_by_kind h1]; simp [hl])
        go_wp2_with fail
        refine (sign_any _ _).mono ?_
        rintro e w' ⟨rfl, rfl⟩
        go_wp2
        go_ret
        exact ⟨by rw [HC.out]; rfl, HW.out⟩
      · have HC : Hid (a.cmp b = 1) := Lib.hid (by rw [cmp_by_kind h1]; simp [hl])
        go_wp2_with fail
        refine (sign_any _ _).mono ?_
        rintro e w' ⟨rfl, rfl⟩
        go_wp2
        go_ret
        exact ⟨by rw [HC.out]; rfl, HW.out⟩

noncomputable def cmpOf (a b : Tm) : Int := if (okB a && okB b) = true then a.cmp b else 2

set_option maxRecDepth 100000 in
set_option maxHeartbeats 1600000 in
theorem specCompareTerms_any (a : Tm) (Va : Value) (b : Tm) (Vb : Value) (w : World) (hA : ArgsAt w Va a.args) (hZa : a.sz ≤ 1048576) (hB : ArgsAt w Vb b.args) (hZb : b.sz ≤ 1048576) :
    Calls Try.prog 37 #[.agg #[.int .i64 a.kind, .int .i64 a.num, .string a.name, Va], .agg #[.int .i64 b.kind, .int .i64 b.num, .string b.name, Vb]] w fun e w' => e = .returned (.int .i64 (cmpOf a b)) ∧ Below w.heap.size w w' := by
    obtain ⟨aa, ca, rfl⟩ := hA.slice
    obtain ⟨ab, cb, rfl⟩ := hB.slice
    have HA := Lib.hid (at_args hA)
    have HB := Lib.hid (at_args hB)
    clear hA hB
    have HW : Hid (Below w.heap.size w w) := Lib.hid (Below.refl _ _)
    have hal : Below w.heap.size w (w.alloc (.cells #[.int .i64 a.kind, .int .i64 a.num, .string a.name, .slice aa a.args.length ca] 25)) := (Below.refl _ _).alloc (Nat.le_refl _) _
    replace HA := Lib.hid (HA.out.read hal)
    replace HB := Lib.hid (HB.out.read hal)
    replace HW := Lib.hid (belowOn HW.out (Nat.le_refl _) hal)
    have HX := Lib.hid (at_box_of w #[.int .i64 a.kind, .int .i64 a.num, .string a.name, .slice aa a.args.length ca] 25 (w.heap.size) rfl)
    have hal2 := (Below.refl (w.alloc (.cells #[.int .i64 a.kind, .int .i64 a.num, .string a.name, .slice aa a.args.length ca] 25)).heap.size (w.alloc (.cells #[.int .i64 a.kind, .int .i64 a.num, .string a.name, .slice aa a.args.length ca] 25))).alloc (Nat.le_refl _) (.cells #[.int .i64 b.kind, .int .i64 b.num, .string b.name, .slice ab b.args.length cb] 25)
    replace HA := Lib.hid (HA.out.read hal2)
    replace HB := Lib.hid (HB.out.read hal2)
    replace HX := Lib.hid (HX.out.read hal2)
    replace HW := Lib.hid (belowOn HW.out (Nat.le_refl _) hal2)
    have HY := Lib.hid (at_box_of (w.alloc (.cells #[.int .i64 a.kind, .int .i64 a.num, .string a.name, .slice aa a.args.length ca] 25)) #[.int .i64 b.kind, .int .i64 b.num, .string b.name, .slice ab b.args.length cb] 25 (w.heap.size + 1) (by simp))
    clear hal hal2
    go_enter Try.func37, Try.ntmps37
    go_upto_region 1 with (fail)
    generalize hw0 : (w.alloc (.cells #[.int .i64 a.kind, .int .i64 a.num, .string a.name, .slice aa a.args.length ca] 25)).alloc (.cells #[.int .i64 b.kind, .int .i64 b.num, .string b.name, .slice ab b.args.length cb] 25) = w0 at HA HB HX HY HW ⊢
    clear hw0
    obtain ⟨c0a, c0b, c0c, c0d⟩ := HX.out.cells
    obtain ⟨c1a, c1b, c1c, c1d⟩ := HY.out.cells
    have z0 := HX.out.le
    have z1 := HY.out.le
    have HO := Lib.hid (specTermOk_any a _ w0 HA.out.argsAt hZa)
    go_wp2_with fail
    refine HO.out.mono ?_
    rintro e w1 ⟨rfl, hb⟩
    replace HA := Lib.hid (HA.out.read hb)
    replace HB := Lib.hid (HB.out.read hb)
    replace HX := Lib.hid (HX.out.read hb)
    replace HY := Lib.hid (HY.out.read hb)
    replace HW := Lib.hid (belowOn HW.out (Nat.le_refl _) hb)
    clear hb c0a c0b c0c c0d c1a c1b c1c c1d z0 z1
    clear HO
    cases hoa : okB a with
    | false =>
      have HE : Hid (cmpOf a b = 2) := Lib.hid (by rw [cmpOf, hoa]; rfl)
      clear hoa
      go_wp2
      go_ret
      exact ⟨by rw [HE.out]; rfl, HW.out⟩
    | true =>
      have HOA := Lib.hid hoa
      clear hoa
      obtain ⟨c0a, c0b, c0c, c0d⟩ := HX.out.cells
      obtain ⟨c1a, c1b, c1c, c1d⟩ := HY.out.cells
      have z0 := HX.out.le
      have z1 := HY.out.le
      have HO := Lib.hid (specTermOk_any b _ w1 HB.out.argsAt hZb)
      go_wp2_with fail
      refine HO.out.mono ?_
      rintro e w2 ⟨rfl, hb⟩
      replace HA := Lib.hid (HA.out.read hb)
      replace HB := Lib.hid (HB.out.read hb)
      replace HX := Lib.hid (HX.out.read hb)
      replace HY := Lib.hid (HY.out.read hb)
      replace HW := Lib.hid (belowOn HW.out (Nat.le_refl _) hb)
      clear hb c0a c0b c0c c0d c1a c1b c1c c1d z0 z1
      clear HO
      cases hob : okB b with
      | false =>
        have HE : Hid (cmpOf a b = 2) := Lib.hid (by rw [cmpOf, hob, Bool.and_false]; rfl)
        clear hob
        go_wp2
        go_ret
        exact ⟨by rw [HE.out]; rfl, HW.out⟩
      | true =>
        have HOB := Lib.hid hob
        have HE : Hid (cmpOf a b = a.cmp b) := Lib.hid (by rw [cmpOf, HOA.out, hob]; rfl)
        clear hob
        have HC := Lib.hid (specCmp_any (a.nodes + 1) a b _ _ w2 (by omega) HA.out.argsAt HB.out.argsAt hZa hZb)
        obtain ⟨c0a, c0b, c0c, c0d⟩ := HX.out.cells
        obtain ⟨c1a, c1b, c1c, c1d⟩ := HY.out.cells
        have z0 := HX.out.le
        have z1 := HY.out.le
        go_wp2_with fail
        refine HC.out.mono ?_
        rintro e w3 ⟨rfl, hb⟩
        replace HW := Lib.hid (belowOn HW.out (Nat.le_refl _) hb)
        clear hb c0a c0b c0c c0d c1a c1b c1c c1d z0 z1 HC
        go_wp2
        go_ret
        exact ⟨by rw [HE.out]; rfl, HW.out⟩

set_option maxRecDepth 100000 in
set_option maxHeartbeats 1600000 in
theorem implCompareTerms_any (a : Tm) (Va : Value) (b : Tm) (Vb : Value) (w : World) (hA : ArgsAt w Va a.args) (hZa : a.sz ≤ 1048576) (hB : ArgsAt w Vb b.args) (hZb : b.sz ≤ 1048576) :
    Calls Try.prog 24 #[.agg #[.int .i64 a.kind, .int .i64 a.num, .string a.name, Va], .agg #[.int .i64 b.kind, .int .i64 b.num, .string b.name, Vb]] w fun e w' => e = .returned (.int .i64 (cmpOf a b)) ∧ Below w.heap.size w w' := by
    obtain ⟨aa, ca, rfl⟩ := hA.slice
    obtain ⟨ab, cb, rfl⟩ := hB.slice
    have HA := Lib.hid (at_args hA)
    have HB := Lib.hid (at_args hB)
    clear hA hB
    have HW : Hid (Below w.heap.size w w) := Lib.hid (Below.refl _ _)
    have hal : Below w.heap.size w (w.alloc (.cells #[.int .i64 a.kind, .int .i64 a.num, .string a.name, .slice aa a.args.length ca] 25)) := (Below.refl _ _).alloc (Nat.le_refl _) _
    replace HA := Lib.hid (HA.out.read hal)
    replace HB := Lib.hid (HB.out.read hal)
    replace HW := Lib.hid (belowOn HW.out (Nat.le_refl _) hal)
    have HX := Lib.hid (at_box_of w #[.int .i64 a.kind, .int .i64 a.num, .string a.name, .slice aa a.args.length ca] 25 (w.heap.size) rfl)
    have hal2 := (Below.refl (w.alloc (.cells #[.int .i64 a.kind, .int .i64 a.num, .string a.name, .slice aa a.args.length ca] 25)).heap.size (w.alloc (.cells #[.int .i64 a.kind, .int .i64 a.num, .string a.name, .slice aa a.args.length ca] 25))).alloc (Nat.le_refl _) (.cells #[.int .i64 b.kind, .int .i64 b.num, .string b.name, .slice ab b.args.length cb] 25)
    replace HA := Lib.hid (HA.out.read hal2)
    replace HB := Lib.hid (HB.out.read hal2)
    replace HX := Lib.hid (HX.out.read hal2)
    replace HW := Lib.hid (belowOn HW.out (Nat.le_refl _) hal2)
    have HY := Lib.hid (at_box_of (w.alloc (.cells #[.int .i64 a.kind, .int .i64 a.num, .string a.name, .slice aa a.args.length ca] 25)) #[.int .i64 b.kind, .int .i64 b.num, .string b.name, .slice ab b.args.length cb] 25 (w.heap.size + 1) (by simp))
    clear hal hal2
    go_enter Try.func24, Try.ntmps24
    go_upto_region 1 with (fail)
    generalize hw0 : (w.alloc (.cells #[.int .i64 a.kind, .int .i64 a.num, .string a.name, .slice aa a.args.length ca] 25)).alloc (.cells #[.int .i64 b.kind, .int .i64 b.num, .string b.name, .slice ab b.args.length cb] 25) = w0 at HA HB HX HY HW ⊢
    clear hw0
    obtain ⟨c0a, c0b, c0c, c0d⟩ := HX.out.cells
    obtain ⟨c1a, c1b, c1c, c1d⟩ := HY.out.cells
    have z0 := HX.out.le
    have z1 := HY.out.le
    have HO := Lib.hid (implTermOk_any a _ w0 HA.out.argsAt hZa)
    go_wp2_with fail
    refine HO.out.mono ?_
    rintro e w1 ⟨rfl, hb⟩
    replace HA := Lib.hid (HA.out.read hb)
    replace HB := Lib.hid (HB.out.read hb)
    replace HX := Lib.hid (HX.out.read hb)
    replace HY := Lib.hid (HY.out.read hb)
    replace HW := Lib.hid (belowOn HW.out (Nat.le_refl _) hb)
    clear hb c0a c0b c0c c0d c1a c1b c1c c1d z0 z1
    clear HO
    cases hoa : okB a with
    | false =>
      have HE : Hid (cmpOf a b = 2) := Lib.hid (by rw [cmpOf, hoa]; rfl)
      clear hoa
      go_wp2
      go_ret
      exact ⟨by rw [HE.out]; rfl, HW.out⟩
    | true =>
      have HOA := Lib.hid hoa
      clear hoa
      obtain ⟨c0a, c0b, c0c, c0d⟩ := HX.out.cells
      obtain ⟨c1a, c1b, c1c, c1d⟩ := HY.out.cells
      have z0 := HX.out.le
      have z1 := HY.out.le
      have HO := Lib.hid (implTermOk_any b _ w1 HB.out.argsAt hZb)
      go_wp2_with fail
      refine HO.out.mono ?_
      rintro e w2 ⟨rfl, hb⟩
      replace HA := Lib.hid (HA.out.read hb)
      replace HB := Lib.hid (HB.out.read hb)
      replace HX := Lib.hid (HX.out.read hb)
      replace HY := Lib.hid (HY.out.read hb)
      replace HW := Lib.hid (belowOn HW.out (Nat.le_refl _) hb)
      clear hb c0a c0b c0c c0d c1a c1b c1c c1d z0 z1
      clear HO
      cases hob : okB b with
      | false =>
        have HE : Hid (cmpOf a b = 2) := Lib.hid (by rw [cmpOf, hob, Bool.and_false]; rfl)
        clear hob
        go_wp2
        go_ret
        exact ⟨by rw [HE.out]; rfl, HW.out⟩
      | true =>
        have HOB := Lib.hid hob
        have HE : Hid (cmpOf a b = a.cmp b) := Lib.hid (by rw [cmpOf, HOA.out, hob]; rfl)
        clear hob
        have HC := Lib.hid (compare_any (a.nodes + 1) a b _ _ w2 (by omega) HA.out.argsAt HB.out.argsAt hZa hZb (okB_true.1 HOA.out).2 (okB_true.1 HOB.out).2)
        obtain ⟨c0a, c0b, c0c, c0d⟩ := HX.out.cells
        obtain ⟨c1a, c1b, c1c, c1d⟩ := HY.out.cells
        have z0 := HX.out.le
        have z1 := HY.out.le
        go_wp2_with fail
        refine HC.out.mono ?_
        rintro e w3 ⟨rfl, hb⟩
        replace HW := Lib.hid (belowOn HW.out (Nat.le_refl _) hb)
        clear hb c0a c0b c0c c0d c1a c1b c1c c1d z0 z1 HC
        go_wp2
        go_ret
        exact ⟨by rw [HE.out]; rfl, HW.out⟩
end Go.Proofs.Ytodldillpoajfaa
