/-
  The laws' list: two lists of terms compared.
-/
import Derived.Test.YtoihimdfmncdoaaSame
import Derived.Test.YtoihimdfmncdoaaEachT
import Derived.Deep.RegionWith
namespace Go.Proofs.Ytoihimdfmncdoaa
open Go.RowKit
set_option linter.unusedVariables false
set_option linter.unusedSimpArgs false

open Classical in
noncomputable def listB (l m : List Tm) : Bool := decide (l = m)
open Classical in
theorem listB_self (l : List Tm) : listB l l = true := by unfold listB; simp
open Classical in
theorem listB_ne {l m : List Tm} (h : ¬ l = m) : listB l m = false := by unfold listB; simp [h]

set_option maxHeartbeats 4000000 in
set_option maxRecDepth 100000 in
theorem listD_any (l m : List Tm) (Va Vb : Value) (w : World) (hA : ArgsAt w Va l) (hB : ArgsAt w Vb m) (hG : ∀ x ∈ l, Good x) (hH : ∀ x ∈ m, Good x) (hE : EachT l) (hF : EachT m) :
    Calls Try.prog 17 #[Va, Vb] w fun e w' => e = .returned (.bool (listB l m)) ∧ Below w.heap.size w w' := by
  obtain ⟨aa, ca, rfl⟩ := hA.slice
  obtain ⟨ab, cb, rfl⟩ := hB.slice
  have HA := Lib.hid hA
  have HB := Lib.hid hB
  have HG := Lib.hid (And.intro hG hH)
  have HE := Lib.hid (And.intro hE hF)
  have HNE := Lib.hid (fun h => listB_ne (l := l) (m := m) h)
  have HEQ : Hid (l = m → listB l m = true) := Lib.hid fun h => by rw [h]; exact listB_self m
  generalize listB l m = r at HNE HEQ ⊢
  have hla := hE.1
  have hlb := hF.1
  have HW : Hid (Below w.heap.size w w) := Lib.hid (Below.refl _ _)
  clear hA hB hG hH hE hF
  go_enter Try.func17, Try.ntmps17
  by_cases hlm : l.length = m.length
  · have hl1 : (((l.length : Nat) : Int) != ((m.length : Nat) : Int)) = false := by rw [hlm]; simp
    have HLM := Lib.hid hlm
    have hmI : (m.length : Int) = (l.length : Int) := by omega
    clear hlm hmI
    go_wp2
    clear hl1
    go_loopw [14] (fun iv wr => ∃ (k : Nat), iv = .int .i64 k ∧ k ≤ l.length ∧ Hid (l.take k = m.take k) ∧ Hid (Below w.heap.size w wr)) (fun iv _ => l.length - (intOf iv).toNat)
    case atStart => exact ⟨0, rfl, Nat.zero_le _, Lib.hid rfl, HW⟩
    case round =>
      obtain ⟨k, rfl, hk, HT, HWr⟩ := hrel
      clear HW
      by_cases hlt : k < l.length
      · have hltI : (k : Int) < (l.length : Int) := by omega
        have hltm : k < m.length := by have := HLM.out; omega
        have hltmI : (k : Int) < (m.length : Int) := by omega
        obtain ⟨x, hx⟩ : ∃ x, l[k]? = some x := ⟨_, List.getElem?_eq_getElem hlt⟩
        obtain ⟨y, hy⟩ : ∃ y, m[k]? = some y := ⟨_, List.getElem?_eq_getElem hltm⟩
        obtain ⟨ga, offa, u1, u2, hva, hga, hna', hcx, hax⟩ := HA.out.elem hx
        obtain ⟨gb, offb, v1, v2, hvb, hgb, hnb', hcy, hay⟩ := HB.out.elem hy
        cases hva
        cases hvb
        have HGX := Lib.hid (And.intro (HG.out.1 x (List.mem_of_getElem? hx)) (HG.out.2 y (List.mem_of_getElem? hy)))
        have HNX := Lib.hid (And.intro (HE.out.1.at hx) (HE.out.2.at hy))
        have HCY := Lib.hid (And.intro hcy (And.intro hax (And.intro hay (And.intro hga hgb))))
        have HXY := Lib.hid (And.intro hx hy)
        obtain ⟨d0, d1, d2, d3⟩ := hcx wr HWr.out
        clear hx hy hna' hnb' hcx hcy hax hay hga hgb
        go_upto_region 6 with (fail)
        have HX1 := Lib.hid (at_box wr #[.int .i64 x.kind, .int .i64 x.num, .string x.name, .slice u1 x.args.length u2] 25)
        have hal : Below wr.heap.size wr (wr.alloc (.cells #[.int .i64 x.kind, .int .i64 x.num, .string x.name, .slice u1 x.args.length u2] 25)) := belowAlloc (Below.refl _ _) _
        have HW1 := Lib.hid (belowOn HWr.out (Nat.le_refl _) hal)
        clear hal d0 d1 d2 d3 HWr
        generalize hw1 : wr.alloc (.cells #[.int .i64 x.kind, .int .i64 x.num, .string x.name, .slice u1 x.args.length u2] 25) = W1 at HX1 HW1 ⊢
        clear hw1
        obtain ⟨e0, e1, e2, e3⟩ := HX1.out.cells
        have ze := HX1.out.le
        obtain ⟨d0, d1, d2, d3⟩ := HCY.out.1 W1 HW1.out
        have hself : Below W1.heap.size W1 W1 := Below.refl _ _
        obtain ⟨q, hq⟩ : ∃ q, (x.cmp y == 0) = q := ⟨_, rfl⟩
        have HQ := Lib.hid hq
        clear hq
        have HS : Hid (∀ W, Below W1.heap.size W1 W → Calls Try.prog 14 #[.agg #[.int .i64 x.kind, .int .i64 x.num, .string x.name, .slice u1 x.args.length u2], .agg #[.int .i64 y.kind, .int .i64 y.num, .string y.name, .slice v1 y.args.length v2]] W fun e w' => e = .returned (.bool q) ∧ Below W1.heap.size W1 w') := Lib.hid fun W hW => by
          have hbw := belowOn HW1.out (Nat.le_refl _) hW
          have hc := same_any (x.nodes + 1) x y _ _ W (Nat.lt_succ_self _) (HCY.out.2.1.kept hbw) (HCY.out.2.2.1.kept hbw) HNX.out.1 HNX.out.2 HGX.out.1 HGX.out.2
          rw [HQ.out] at hc
          refine hc.mono ?_
          rintro e w' ⟨rfl, hb⟩
          exact ⟨rfl, belowOn hW (Nat.le_refl _) hb⟩
        cases q with
        | true =>
          have HT2 : Hid (l.take (k + 1) = m.take (k + 1)) := Lib.hid (by
            have e : x = y := cmp_zero _ x y (Nat.le_refl _) HGX.out.1 HGX.out.2 (by simpa using HQ.out)
            rw [List.take_add_one, List.take_add_one, HT.out, HXY.out.1, HXY.out.2, e])
          go_region_with (go_at_call 14; (with_reducible refine Calls.mono (HS.out _ ?_) ?_); (first | exact hself | exact hself.drew | exact hself.drew.drew); rintro e w2 ⟨rfl, hb⟩)
          all_goals
            have HW2 := Lib.hid (belowOn HW1.out (Nat.le_refl _) hb)
            clear hb e0 e1 e2 e3 ze d0 d1 d2 d3 hself
            go_wp2
            go_roundw
            case rel => exact ⟨k + 1, by go_num, by omega, HT2, HW2⟩
            case measure => simp [intOf]; omega
        | false =>
          obtain rfl := HNE.out fun h => by
            have h1 := HXY.out.1
            rw [h, HXY.out.2] at h1
            cases h1
            have h2 := HQ.out
            rw [cmp_self] at h2
            cases h2
          go_region_with (go_at_call 14; (with_reducible refine Calls.mono (HS.out _ ?_) ?_); (first | exact hself | exact hself.drew | exact hself.drew.drew); rintro e w2 ⟨rfl, hb⟩)
          all_goals
            have HW2 := Lib.hid (belowOn HW1.out (Nat.le_refl _) hb)
            clear hb e0 e1 e2 e3 ze d0 d1 d2 d3 hself
            go_wp2
            go_ret
            exact ⟨rfl, HW2.out⟩
      · obtain rfl := HEQ.out (by
          have h := HT.out
          have h1 := HLM.out
          rwa [List.take_of_length_le (by omega), List.take_of_length_le (by omega)] at h)
        go_wp2
        go_ret
        exact ⟨rfl, HWr.out⟩
  · have hl1 : (((l.length : Nat) : Int) != ((m.length : Nat) : Int)) = true := by simp; omega
    obtain rfl := HNE.out fun h => hlm (by rw [h])
    clear hlm
    go_wp2
    go_ret
    exact ⟨rfl, HW.out⟩
end Go.Proofs.Ytoihimdfmncdoaa

