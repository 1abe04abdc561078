/-
  The model's DisequalityHolds.
-/
import Derived.Test.YtjpkkhhcpcokaaaDisH
import Derived.Test.YtjpkkhhcpcokaaaSpecIT
import Derived.Test.YtjpkkhhcpcokaaaSpecComp
namespace Go.Proofs.Ytjpkkhhcpcokaaa
open Go.RowKit
set_option linter.unusedVariables false
set_option linter.unusedSimpArgs false

set_option maxRecDepth 100000 in
set_option maxHeartbeats 8000000 in
theorem specDisequalityHolds_any (d : List Bd) (Vd : Value) (l : List Bd) (Vl : Value) (w : World) (hA : ListS bdE w Any Vd d) (hZ : szB d ≤ 1048576) (hB : ListS bdE w Any Vl l) (hZl : szB l ≤ 1048576) :
    Calls Try.prog 32 #[Vd, Vl] w fun r w' => r = .returned (.bool (dhB d l)) ∧ Below w.heap.size w w' := by
  obtain ⟨c0, hc0⟩ : ∃ c, dhB d l = c := ⟨_, rfl⟩
  rw [hc0]
  have HNO : Hid (¬ SubstP d → c0 = false) := Lib.hid fun h => hc0.symm.trans (dh_bad h)
  have HYES : Hid (SubstP d → c0 = d.any (dhSpec l)) := Lib.hid fun h => hc0.symm.trans (dh_spec h)
  clear hc0
  obtain ⟨aa, ca, rfl⟩ := hA.slice
  obtain ⟨ab, cb, rfl⟩ := hB.slice
  have HE := Lib.hid (eachB_of hZ)
  have hLd : d.length ≤ 1048576 := HE.out.1
  have HA := Lib.hid hA
  have HB := Lib.hid hB
  have HC := Lib.hid (specSubstOk_any d _ w hA HE.out)
  clear hA hB
  go_enter Try.func32, Try.ntmps32
  go_wp2_with fail
  refine HC.out.mono ?_
  rintro r w1 ⟨rfl, hb⟩
  have HW1 := Lib.hid hb
  clear hb HC
  cases hs : substB d with
  | false =>
    obtain rfl := HNO.out (substB_false.1 hs)
    clear hs
    go_wp2
    go_ret
    exact ⟨rfl, HW1.out⟩
  | true =>
  have HS := Lib.hid (substB_true.1 hs)
  have HEQ := Lib.hid (HYES.out HS.out)
  clear hs HNO HYES
  go_wp2
  go_loopw [16] (fun iv wr => ∃ k : Nat, k ≤ d.length ∧ iv = .int .i64 k ∧ Hid ((d.take k).any (dhSpec l) = false) ∧ Hid (Below w.heap.size w wr)) (fun iv _ => d.length - (intOf iv).toNat)
  case atStart => exact ⟨0, Nat.zero_le _, rfl, Lib.hid (by simp), HW1⟩
  case round =>
    obtain ⟨k, hka, rfl, HNY, HQ⟩ := hrel
    clear HW1
    by_cases hlt : k < d.length
    · have hltI : (k : Int) < (d.length : Int) := by omega
      obtain ⟨x, hx⟩ : ∃ x, d[k]? = some x := ⟨_, List.getElem?_eq_getElem hlt⟩
      obtain ⟨ga, offa, u1, u2, hva, hga, _, hcx, hax⟩ := (HA.out.kept HQ.out).bd hx
      cases hva
      have HXE := Lib.hid hx
      obtain ⟨d0, d1, d2, d3, d4⟩ := hcx wr (Below.refl _ _)
      have HAX := Lib.hid hax.at
      clear hx hcx hax
      go_upto_region 6 with (fail)
      have hal : Below wr.heap.size wr (wr.alloc (.cells #[.int .i64 x.v, .int .i64 x.t.kind, .int .i64 x.t.num, .string x.t.name, .slice u1 x.t.args.length u2] 62)) := belowAlloc (Below.refl _ _) _
      have HX1 := Lib.hid (at_box_of wr #[.int .i64 x.v, .int .i64 x.t.kind, .int .i64 x.t.num, .string x.t.name, .slice u1 x.t.args.length u2] 62 wr.heap.size rfl)
      have HQ1 := Lib.hid (belowOn HQ.out (Nat.le_refl _) hal)
      replace HAX := Lib.hid (HAX.out.kept hal)
      clear d0 d1 d2 d3 d4 hal HQ hga
      generalize hw1 : wr.alloc (.cells #[.int .i64 x.v, .int .i64 x.t.kind, .int .i64 x.t.num, .string x.t.name, .slice u1 x.t.args.length u2] 62) = w2 at HX1 HQ1 HAX ⊢
      clear hw1
      generalize wr.heap.size = nb at HX1 ⊢
      have HVA := Lib.hid (var_any x.v w2)
      obtain ⟨e0, e1, e2, e3, e4, ef⟩ := box_cells5 HX1.out.now
      have ze := HX1.out.le
      go_wp2_with fail
      refine HVA.out.mono ?_
      rintro r w3 ⟨rfl, hb⟩
      have HQ3 := Lib.hid (belowOn HQ1.out (Nat.le_refl _) hb)
      have HX3 := Lib.hid (HX1.out.read hb)
      replace HAX := Lib.hid (HAX.out.kept hb)
      have HSP : Hid (dhSpec l x = (instB l (varTm x.v) && (instB l x.t && !((instT l (varTm x.v)).cmp (instT l x.t) == 0)))) := Lib.hid rfl
      have HZZ : Hid ((instT l (varTm x.v)).sz ≤ 1048576 ∧ (instT l x.t).sz ≤ 1048576) := Lib.hid ⟨inst_sz _ _, inst_sz _ _⟩
      have HC1 : Hid (Calls Try.prog 90 #[.agg #[.int .i64 1, .int .i64 x.v, .string ⟨#[]⟩, .slice none 0 0], .slice ab l.length cb] w3 (OldTm2 (instT l (varTm x.v)) (instB l (varTm x.v)) w3)) := Lib.hid (specInstantiate_any (varTm x.v) (.slice none 0 0) l _ w3 (ArgsAt.nil none 0) (varTm_szR (HS.out.1.1 k x HXE.out).1) (HB.out.kept HQ3.out) hZl)
      have HC2 : Hid (∀ W, Below w3.heap.size w3 W → Calls Try.prog 90 #[.agg #[.int .i64 x.t.kind, .int .i64 x.t.num, .string x.t.name, .slice u1 x.t.args.length u2], .slice ab l.length cb] W (OldTm2 (instT l x.t) (instB l x.t) W)) := Lib.hid fun W hW => specInstantiate_any x.t _ l _ W (HAX.out.kept hW) (Nat.le_succ_of_le (HE.out.2 x (List.mem_of_getElem? HXE.out))) (HB.out.kept (belowOn HQ3.out (Nat.le_refl _) hW)) hZl
      generalize instT l (varTm x.v) = a1 at HC1 HSP HZZ ⊢
      generalize instB l (varTm x.v) = o1 at HC1 HSP ⊢
      generalize instT l x.t = a2 at HC2 HSP HZZ ⊢
      generalize instB l x.t = o2 at HC2 HSP ⊢
      clear hb HX1 HVA HQ1 e0 e1 e2 e3 e4 ef ze
      go_wp2_with fail
      refine HC1.out.mono ?_
      rintro r w4 ⟨v1, rfl, hv1, hb⟩
      obtain ⟨p1, q1, rfl⟩ := hv1.at.slice
      have HQ4 := Lib.hid (belowOn HQ3.out (Nat.le_refl _) hb)
      have HX4 := Lib.hid (HX3.out.read hb)
      have HA1 := Lib.hid hv1.at
      have HB34 := Lib.hid hb
      clear hb hv1 HC1
      go_upto_region 7 with (fail)
      have hal : Below w4.heap.size w4 (w4.alloc (.cells #[.int .i64 a1.kind, .int .i64 a1.num, .string a1.name, .slice p1 a1.args.length q1] 46)) := belowAlloc (Below.refl _ _) _
      have HY := Lib.hid (at_box_of w4 #[.int .i64 a1.kind, .int .i64 a1.num, .string a1.name, .slice p1 a1.args.length q1] 46 w4.heap.size rfl)
      have HQ5 := Lib.hid (belowOn HQ4.out (Nat.le_refl _) hal)
      have HX5 := Lib.hid (HX4.out.read hal)
      replace HA1 := Lib.hid (HA1.out.kept hal)
      have HB35 := Lib.hid (belowOn HB34.out (Nat.le_refl _) hal)
      clear hal HQ4 HX4 HB34 HX3
      generalize hw5 : w4.alloc (.cells #[.int .i64 a1.kind, .int .i64 a1.num, .string a1.name, .slice p1 a1.args.length q1] 46) = w5 at HY HQ5 HX5 HA1 HB35 ⊢
      clear hw5
      generalize w4.heap.size = nc at HY ⊢
      obtain ⟨e0, e1, e2, e3, e4, ef⟩ := box_cells5 HX5.out.now
      have ze := HX5.out.le
      have HC3 := Lib.hid (HC2.out w5 HB35.out)
      go_wp2_with fail
      refine HC3.out.mono ?_
      rintro r w6 ⟨v2, rfl, hv2, hb⟩
      obtain ⟨p2, q2, rfl⟩ := hv2.at.slice
      have HQ6 := Lib.hid (belowOn HQ5.out (Nat.le_refl _) hb)
      have HY6 := Lib.hid (HY.out.read hb)
      replace HA1 := Lib.hid (HA1.out.kept hb)
      have HA2 := Lib.hid hv2.at
      clear hb hv2 HC3 HC2 HY HX5 HB35 HQ5 e0 e1 e2 e3 e4 ef ze
      go_upto_region 8 with (fail)
      have hal : Below w6.heap.size w6 (w6.alloc (.cells #[.int .i64 a2.kind, .int .i64 a2.num, .string a2.name, .slice p2 a2.args.length q2] 46)) := belowAlloc (Below.refl _ _) _
      have HZ7 := Lib.hid (at_box_of w6 #[.int .i64 a2.kind, .int .i64 a2.num, .string a2.name, .slice p2 a2.args.length q2] 46 w6.heap.size rfl)
      have HQ7 := Lib.hid (belowOn HQ6.out (Nat.le_refl _) hal)
      have HY7 := Lib.hid (HY6.out.read hal)
      replace HA1 := Lib.hid (HA1.out.kept hal)
      replace HA2 := Lib.hid (HA2.out.kept hal)
      clear hal HQ6 HY6
      generalize hw7 : w6.alloc (.cells #[.int .i64 a2.kind, .int .i64 a2.num, .string a2.name, .slice p2 a2.args.length q2] 46) = w7 at HZ7 HQ7 HY7 HA1 HA2 ⊢
      clear hw7
      generalize w6.heap.size = nd at HZ7 ⊢
      have HKL := Lib.hid hlt
      have NEXT : Hid (dhSpec l x = false → (d.take (k + 1)).any (dhSpec l) = false) := Lib.hid fun h => any_snoc HXE.out HNY.out h
      cases o1 with
      | false =>
        have HN := Lib.hid (NEXT.out (by rw [HSP.out]; rfl))
        clear NEXT
        go_wp2
        go_roundw
        case rel => exact ⟨k + 1, by have := HKL.out; omega, by go_num, HN, HQ7⟩
        case measure => have := HKL.out; simp [intOf]; omega
      | true =>
      cases o2 with
      | false =>
        have HN := Lib.hid (NEXT.out (by rw [HSP.out]; rfl))
        clear NEXT
        go_wp2
        go_roundw
        case rel => exact ⟨k + 1, by have := HKL.out; omega, by go_num, HN, HQ7⟩
        case measure => have := HKL.out; simp [intOf]; omega
      | true =>
        obtain ⟨c0a, c0b, c0c, c0d⟩ := HY7.out.cells
        obtain ⟨c1a, c1b, c1c, c1d⟩ := HZ7.out.cells
        have z0 := HY7.out.le
        have z1 := HZ7.out.le
        have HSM := Lib.hid (specSame_any a1 a2 _ _ w7 HA1.out HA2.out HZZ.out.1 HZZ.out.2)
        cases hm : (a1.cmp a2 == 0) with
        | true =>
          have HN := Lib.hid (NEXT.out (by rw [HSP.out, hm]; rfl))
          rw [hm] at HSM
          clear NEXT hm
          go_wp2_with fail
          refine HSM.out.mono ?_
          rintro r w8 ⟨rfl, hb⟩
          have HQ8 := Lib.hid (belowOn HQ7.out (Nat.le_refl _) hb)
          clear hb HSM c0a c0b c0c c0d c1a c1b c1c c1d z0 z1
          go_wp2
          go_roundw
          case rel => exact ⟨k + 1, by have := HKL.out; omega, by go_num, HN, HQ8⟩
          case measure => have := HKL.out; simp [intOf]; omega
        | false =>
          obtain rfl : c0 = true := by rw [HEQ.out]; exact any_hit HXE.out (by rw [HSP.out, hm]; rfl)
          rw [hm] at HSM
          clear NEXT hm
          go_wp2_with fail
          refine HSM.out.mono ?_
          rintro r w8 ⟨rfl, hb⟩
          have HQ8 := Lib.hid (belowOn HQ7.out (Nat.le_refl _) hb)
          clear hb HSM c0a c0b c0c c0d c1a c1b c1c c1d z0 z1
          go_wp2
          go_ret
          exact ⟨rfl, HQ8.out⟩
    · obtain rfl : c0 = false := by rw [HEQ.out]; have := HNY.out; rwa [List.take_of_length_le (by omega)] at this
      have hkI : ¬ ((k : Int) < (d.length : Int)) := by omega
      go_wp2
      go_ret
      exact ⟨rfl, HQ.out⟩
end Go.Proofs.Ytjpkkhhcpcokaaa

