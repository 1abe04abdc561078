/-
  The model's l09Cmp and CompareDisequalities.
-/
import Derived.Test.YtjpkkhhcpcokaaaDisC
import Derived.Test.YtjpkkhhcpcokaaaSpecSubs
namespace Go.Proofs.Ytjpkkhhcpcokaaa
open Go.RowKit
set_option linter.unusedVariables false
set_option linter.unusedSimpArgs false

set_option maxRecDepth 100000 in
set_option maxHeartbeats 4000000 in
theorem specDsCmp_any (d : List Bd) (Vd : Value) (e : List Bd) (Ve : Value) (w : World) (hA : ListS bdE w Any Vd d) (hB : ListS bdE w Any Ve e) (hd : EachB d) (he : EachB e) :
    Calls Try.prog 87 #[Vd, Ve] w fun r w' => r = .returned (.int .i64 (dsCmp d e)) ∧ Below w.heap.size w w' := by
  obtain ⟨c0, hc0⟩ : ∃ c, dsCmp d e = c := ⟨_, rfl⟩
  rw [hc0]
  have HC0 : Hid (c0 = dsCmp (d.drop 0) (e.drop 0)) := Lib.hid hc0.symm
  clear hc0
  obtain ⟨aa, ca, rfl⟩ := hA.slice
  obtain ⟨ab, cb, rfl⟩ := hB.slice
  have hLa : d.length ≤ 1048576 := hd.1
  have hLb : e.length ≤ 1048576 := he.1
  have HA := Lib.hid hA
  have HB := Lib.hid hB
  have HE := Lib.hid hd
  have HF := Lib.hid he
  clear hA hB hd he
  go_enter Try.func87, Try.ntmps87
  go_wp2
  go_loopw [5] (fun i wr => ∃ k : Nat, k ≤ d.length ∧ k ≤ e.length ∧ i = .int .i64 k ∧ Hid (c0 = dsCmp (d.drop k) (e.drop k)) ∧ Hid (Below w.heap.size w wr)) (fun i _ => d.length - (intOf i).toNat)
  case atStart => exact ⟨0, Nat.zero_le _, Nat.zero_le _, rfl, HC0, Lib.hid (Below.refl _ _)⟩
  case round =>
    obtain ⟨k, hka, hkb, rfl, HDS, HQ⟩ := hrel
    by_cases hlt : k < d.length
    · by_cases hlt2 : k < e.length
      · obtain ⟨x, hx⟩ : ∃ x, d[k]? = some x := ⟨_, List.getElem?_eq_getElem hlt⟩
        obtain ⟨y, hy⟩ : ∃ y, e[k]? = some y := ⟨_, List.getElem?_eq_getElem hlt2⟩
        obtain ⟨ga, offa, u1, u2, hva, hga, _, hcx, hax⟩ := (HA.out.kept HQ.out).bd hx
        obtain ⟨gb, offb, v1, v2, hvb, hgb, _, hcy, hay⟩ := (HB.out.kept HQ.out).bd hy
        cases hva
        cases hvb
        have HAX := Lib.hid hax.at
        have HAY := Lib.hid hay.at
        have HCX := Lib.hid hcx
        have HCY := Lib.hid hcy
        have HST := Lib.hid (ds_drop hx hy)
        have HXZ : Hid (x.t.sz ≤ 1048576 ∧ y.t.sz ≤ 1048576) := Lib.hid ⟨Nat.le_succ_of_le (HE.out.2 x (List.mem_of_getElem? hx)), Nat.le_succ_of_le (HF.out.2 y (List.mem_of_getElem? hy))⟩
        have HKL : Hid (k < d.length ∧ k < e.length) := Lib.hid ⟨hlt, hlt2⟩
        clear hx hy hax hay hcx hcy
        have hi0 : (0 : Int) ≤ (k : Int) := by omega
        have hi1 : (k : Int) < (d.length : Int) := by have := HKL.out.1; omega
        have hi2 : (k : Int) < (e.length : Int) := by have := HKL.out.2; omega
        by_cases hv : x.v = y.v
        · have HV := Lib.hid hv
          have q0 : (x.v != y.v) = false := by simp [hv]
          clear hv
          go_upto_region 4 with (fail)
          go_cut [29] from 7 to 55 (fun b wx => b = .bool false ∧ Below wr.heap.size wr wx)
          case first =>
            have hself : Below wr.heap.size wr wr := Below.refl _ _
            have hdrew : Below wr.heap.size wr wr.drew := hself.drew
            obtain ⟨d0, d1, d2, d3, d4⟩ := HCX.out wr hself
            obtain ⟨e0, e1, e2, e3, e4⟩ := HCY.out wr hself
            have HCE : Hid (∀ W, Below wr.heap.size wr W → W.cell? ⟨ga, offa + k * 5, none⟩ = some (.int .i64 x.v) ∧ W.cell? ⟨ga, offa + k * 5 + 1, none⟩ = some (.int .i64 x.t.kind) ∧ W.cell? ⟨ga, offa + k * 5 + 2, none⟩ = some (.int .i64 x.t.num) ∧ W.cell? ⟨ga, offa + k * 5 + 3, none⟩ = some (.string x.t.name) ∧ W.cell? ⟨ga, offa + k * 5 + 4, none⟩ = some (.slice u1 x.t.args.length u2) ∧ W.cell? ⟨gb, offb + k * 5, none⟩ = some (.int .i64 y.v) ∧ W.cell? ⟨gb, offb + k * 5 + 1, none⟩ = some (.int .i64 y.t.kind) ∧ W.cell? ⟨gb, offb + k * 5 + 2, none⟩ = some (.int .i64 y.t.num) ∧ W.cell? ⟨gb, offb + k * 5 + 3, none⟩ = some (.string y.t.name) ∧ W.cell? ⟨gb, offb + k * 5 + 4, none⟩ = some (.slice v1 y.t.args.length v2)) := Lib.hid fun W hW => by
              obtain ⟨d0, d1, d2, d3, d4⟩ := HCX.out W hW
              obtain ⟨e0, e1, e2, e3, e4⟩ := HCY.out W hW
              exact ⟨d0, d1, d2, d3, d4, e0, e1, e2, e3, e4⟩
            have HTR : Hid (∀ a b, Below wr.heap.size wr a → Below a.heap.size a b → Below wr.heap.size wr b) := Lib.hid fun a b h1 h2 => belowOn h1 (Nat.le_refl _) h2
            clear HA HB HCX HCY HDS HQ HE HF HST hlt hlt2 hka hkb
            go_region_held3 (fun w' => Below wr.heap.size wr w' ∧ w'.cell? ⟨ga, offa + k * 5, none⟩ = some (.int .i64 x.v) ∧ w'.cell? ⟨ga, offa + k * 5 + 1, none⟩ = some (.int .i64 x.t.kind) ∧ w'.cell? ⟨ga, offa + k * 5 + 2, none⟩ = some (.int .i64 x.t.num) ∧ w'.cell? ⟨ga, offa + k * 5 + 3, none⟩ = some (.string x.t.name) ∧ w'.cell? ⟨ga, offa + k * 5 + 4, none⟩ = some (.slice u1 x.t.args.length u2) ∧ w'.cell? ⟨gb, offb + k * 5, none⟩ = some (.int .i64 y.v) ∧ w'.cell? ⟨gb, offb + k * 5 + 1, none⟩ = some (.int .i64 y.t.kind) ∧ w'.cell? ⟨gb, offb + k * 5 + 2, none⟩ = some (.int .i64 y.t.num) ∧ w'.cell? ⟨gb, offb + k * 5 + 3, none⟩ = some (.string y.t.name) ∧ w'.cell? ⟨gb, offb + k * 5 + 4, none⟩ = some (.slice v1 y.t.args.length v2)) (go_keep)
              (fail)
            all_goals (go_wp2_with fail; go_meet; exact ⟨rfl, by assumption⟩)
          case rest =>
            obtain ⟨rfl, hb⟩ := hcut
            obtain ⟨w2, rfl⟩ : ∃ x : World, x = wc := ⟨_, rfl⟩
            replace HQ := Lib.hid (belowOn HQ.out (Nat.le_refl _) hb)
            replace HCX : Hid (∀ W, Below w2.heap.size w2 W → _) := Lib.hid fun W hW => HCX.out W (belowOn hb (Nat.le_refl _) hW)
            replace HCY : Hid (∀ W, Below w2.heap.size w2 W → _) := Lib.hid fun W hW => HCY.out W (belowOn hb (Nat.le_refl _) hW)
            replace HAX := Lib.hid (HAX.out.kept hb)
            replace HAY := Lib.hid (HAY.out.kept hb)
            replace hga := Nat.lt_of_lt_of_le hga hb.size
            replace hgb := Nat.lt_of_lt_of_le hgb hb.size
            have HQ0 := Lib.hid q0
            clear hb q0
            clear wr
            obtain ⟨wr, rfl⟩ : ∃ x : World, x = w2 := ⟨_, rfl⟩
            go_upto_region 6 with (fail)
            go_cut [6] from 7 to 55 (fun c wx => c = .int .i64 (x.t.cmp y.t) ∧ Below wr.heap.size wr wx)
            case first =>
              have hself : Below wr.heap.size wr wr := Below.refl _ _
              have hdrew : Below wr.heap.size wr wr.drew := hself.drew
              obtain ⟨d0, d1, d2, d3, d4⟩ := HCX.out wr hself
              obtain ⟨e0, e1, e2, e3, e4⟩ := HCY.out wr hself
              have HCE : Hid (∀ W, Below wr.heap.size wr W → W.cell? ⟨ga, offa + k * 5, none⟩ = some (.int .i64 x.v) ∧ W.cell? ⟨ga, offa + k * 5 + 1, none⟩ = some (.int .i64 x.t.kind) ∧ W.cell? ⟨ga, offa + k * 5 + 2, none⟩ = some (.int .i64 x.t.num) ∧ W.cell? ⟨ga, offa + k * 5 + 3, none⟩ = some (.string x.t.name) ∧ W.cell? ⟨ga, offa + k * 5 + 4, none⟩ = some (.slice u1 x.t.args.length u2) ∧ W.cell? ⟨gb, offb + k * 5, none⟩ = some (.int .i64 y.v) ∧ W.cell? ⟨gb, offb + k * 5 + 1, none⟩ = some (.int .i64 y.t.kind) ∧ W.cell? ⟨gb, offb + k * 5 + 2, none⟩ = some (.int .i64 y.t.num) ∧ W.cell? ⟨gb, offb + k * 5 + 3, none⟩ = some (.string y.t.name) ∧ W.cell? ⟨gb, offb + k * 5 + 4, none⟩ = some (.slice v1 y.t.args.length v2)) := Lib.hid fun W hW => by
                obtain ⟨d0, d1, d2, d3, d4⟩ := HCX.out W hW
                obtain ⟨e0, e1, e2, e3, e4⟩ := HCY.out W hW
                exact ⟨d0, d1, d2, d3, d4, e0, e1, e2, e3, e4⟩
              have HTR : Hid (∀ a b, Below wr.heap.size wr a → Below a.heap.size a b → Below wr.heap.size wr b) := Lib.hid fun a b h1 h2 => belowOn h1 (Nat.le_refl _) h2
              have HCM : Hid (∀ W, Below wr.heap.size wr W → Calls Try.prog 127 #[.agg #[.int .i64 x.t.kind, .int .i64 x.t.num, .string x.t.name, .slice u1 x.t.args.length u2], .agg #[.int .i64 y.t.kind, .int .i64 y.t.num, .string y.t.name, .slice v1 y.t.args.length v2]] W fun e w' => e = .returned (.int .i64 (x.t.cmp y.t)) ∧ Below W.heap.size W w') := Lib.hid fun W hW =>
                specCmp_any (x.t.nodes + 1) x.t y.t _ _ W (Nat.lt_succ_self _) (HAX.out.kept hW) (HAY.out.kept hW) HXZ.out.1 HXZ.out.2
              clear HA HB HCX HCY HDS HQ HE HF HST hlt hlt2 hka hkb
              go_region_held3 (fun w' => Below wr.heap.size wr w' ∧ w'.cell? ⟨ga, offa + k * 5, none⟩ = some (.int .i64 x.v) ∧ w'.cell? ⟨ga, offa + k * 5 + 1, none⟩ = some (.int .i64 x.t.kind) ∧ w'.cell? ⟨ga, offa + k * 5 + 2, none⟩ = some (.int .i64 x.t.num) ∧ w'.cell? ⟨ga, offa + k * 5 + 3, none⟩ = some (.string x.t.name) ∧ w'.cell? ⟨ga, offa + k * 5 + 4, none⟩ = some (.slice u1 x.t.args.length u2) ∧ w'.cell? ⟨gb, offb + k * 5, none⟩ = some (.int .i64 y.v) ∧ w'.cell? ⟨gb, offb + k * 5 + 1, none⟩ = some (.int .i64 y.t.kind) ∧ w'.cell? ⟨gb, offb + k * 5 + 2, none⟩ = some (.int .i64 y.t.num) ∧ w'.cell? ⟨gb, offb + k * 5 + 3, none⟩ = some (.string y.t.name) ∧ w'.cell? ⟨gb, offb + k * 5 + 4, none⟩ = some (.slice v1 y.t.args.length v2)) (go_keep)
                (first | (go_at_call 127; refine Calls.mono (HCM.out _ ?_) ?_; (assumption); rintro r w' ⟨rfl, hb⟩; have hB' := HTR.out _ _ (by assumption) hb; obtain ⟨k0, k1, k2, k3, k4, k5, k6, k7, k8, k9⟩ := HCE.out _ hB'))
              all_goals (go_wp2_with fail; go_meet; exact ⟨rfl, by assumption⟩)
            case rest =>
              obtain ⟨rfl, hb⟩ := hcut
              obtain ⟨w3, rfl⟩ : ∃ x : World, x = wc := ⟨_, rfl⟩
              have HQ2 := Lib.hid (belowOn HQ.out (Nat.le_refl _) hb)
              have HBC := Lib.hid (bdCmp_same HV.out)
              clear hb HCX HCY
              by_cases hz : x.t.cmp y.t = 0
              · rw [hz]
                have HZ := Lib.hid hz
                clear hz
                go_wp2
                go_roundw
                case rel => exact ⟨k + 1, by have := HKL.out.1; omega, by have := HKL.out.2; omega, by go_num, Lib.hid (by rw [HDS.out, HST.out, HBC.out, HZ.out, if_pos rfl]), HQ2⟩
                case measure => have := HKL.out.1; simp [intOf]; omega
              · obtain rfl : c0 = x.t.cmp y.t := by rw [HDS.out, HST.out, HBC.out, if_neg hz]
                go_wp2
                go_ret
                exact ⟨rfl, HQ2.out⟩
        · have HV := Lib.hid hv
          have q0 : (x.v != y.v) = true := by simp [hv]
          clear hv
          go_upto_region 4 with (fail)
          go_cut [29] from 7 to 55 (fun b wx => b = .bool true ∧ Below wr.heap.size wr wx)
          case first =>
            have hself : Below wr.heap.size wr wr := Below.refl _ _
            have hdrew : Below wr.heap.size wr wr.drew := hself.drew
            obtain ⟨d0, d1, d2, d3, d4⟩ := HCX.out wr hself
            obtain ⟨e0, e1, e2, e3, e4⟩ := HCY.out wr hself
            have HCE : Hid (∀ W, Below wr.heap.size wr W → W.cell? ⟨ga, offa + k * 5, none⟩ = some (.int .i64 x.v) ∧ W.cell? ⟨ga, offa + k * 5 + 1, none⟩ = some (.int .i64 x.t.kind) ∧ W.cell? ⟨ga, offa + k * 5 + 2, none⟩ = some (.int .i64 x.t.num) ∧ W.cell? ⟨ga, offa + k * 5 + 3, none⟩ = some (.string x.t.name) ∧ W.cell? ⟨ga, offa + k * 5 + 4, none⟩ = some (.slice u1 x.t.args.length u2) ∧ W.cell? ⟨gb, offb + k * 5, none⟩ = some (.int .i64 y.v) ∧ W.cell? ⟨gb, offb + k * 5 + 1, none⟩ = some (.int .i64 y.t.kind) ∧ W.cell? ⟨gb, offb + k * 5 + 2, none⟩ = some (.int .i64 y.t.num) ∧ W.cell? ⟨gb, offb + k * 5 + 3, none⟩ = some (.string y.t.name) ∧ W.cell? ⟨gb, offb + k * 5 + 4, none⟩ = some (.slice v1 y.t.args.length v2)) := Lib.hid fun W hW => by
              obtain ⟨d0, d1, d2, d3, d4⟩ := HCX.out W hW
              obtain ⟨e0, e1, e2, e3, e4⟩ := HCY.out W hW
              exact ⟨d0, d1, d2, d3, d4, e0, e1, e2, e3, e4⟩
            have HTR : Hid (∀ a b, Below wr.heap.size wr a → Below a.heap.size a b → Below wr.heap.size wr b) := Lib.hid fun a b h1 h2 => belowOn h1 (Nat.le_refl _) h2
            clear HA HB HCX HCY HDS HQ HE HF HST hlt hlt2 hka hkb
            go_region_held3 (fun w' => Below wr.heap.size wr w' ∧ w'.cell? ⟨ga, offa + k * 5, none⟩ = some (.int .i64 x.v) ∧ w'.cell? ⟨ga, offa + k * 5 + 1, none⟩ = some (.int .i64 x.t.kind) ∧ w'.cell? ⟨ga, offa + k * 5 + 2, none⟩ = some (.int .i64 x.t.num) ∧ w'.cell? ⟨ga, offa + k * 5 + 3, none⟩ = some (.string x.t.name) ∧ w'.cell? ⟨ga, offa + k * 5 + 4, none⟩ = some (.slice u1 x.t.args.length u2) ∧ w'.cell? ⟨gb, offb + k * 5, none⟩ = some (.int .i64 y.v) ∧ w'.cell? ⟨gb, offb + k * 5 + 1, none⟩ = some (.int .i64 y.t.kind) ∧ w'.cell? ⟨gb, offb + k * 5 + 2, none⟩ = some (.int .i64 y.t.num) ∧ w'.cell? ⟨gb, offb + k * 5 + 3, none⟩ = some (.string y.t.name) ∧ w'.cell? ⟨gb, offb + k * 5 + 4, none⟩ = some (.slice v1 y.t.args.length v2)) (go_keep)
              (fail)
            all_goals (go_wp2_with fail; go_meet; exact ⟨rfl, by assumption⟩)
          case rest =>
            obtain ⟨rfl, hb⟩ := hcut
            obtain ⟨w2, rfl⟩ : ∃ x : World, x = wc := ⟨_, rfl⟩
            replace HQ := Lib.hid (belowOn HQ.out (Nat.le_refl _) hb)
            replace HCX : Hid (∀ W, Below w2.heap.size w2 W → _) := Lib.hid fun W hW => HCX.out W (belowOn hb (Nat.le_refl _) hW)
            replace HCY : Hid (∀ W, Below w2.heap.size w2 W → _) := Lib.hid fun W hW => HCY.out W (belowOn hb (Nat.le_refl _) hW)
            replace hga := Nat.lt_of_lt_of_le hga hb.size
            replace hgb := Nat.lt_of_lt_of_le hgb hb.size
            have HCZ : Hid (c0 = if decide (x.v < y.v) = true then -1 else 1) := Lib.hid (by
              rw [HDS.out, HST.out, if_neg, bdCmp_var HV.out]
              rw [bdCmp_var HV.out]
              exact pm_ne)
            have HSG : Hid (∀ W, Calls Try.prog 137 #[.bool (decide (x.v < y.v))] W fun r w' => r = .returned (.int .i64 c0) ∧ W = w') := Lib.hid fun W => by
              have h := sign_any (decide (x.v < y.v)) W
              rw [← HCZ.out] at h
              exact h
            clear HAX HAY hb q0
            clear wr
            obtain ⟨wr, rfl⟩ : ∃ x : World, x = w2 := ⟨_, rfl⟩
            go_upto_region 5 with (fail)
            go_cut [4] from 7 to 55 (fun c wx => c = .int .i64 c0 ∧ Below wr.heap.size wr wx)
            case first =>
              have hself : Below wr.heap.size wr wr := Below.refl _ _
              have hdrew : Below wr.heap.size wr wr.drew := hself.drew
              obtain ⟨d0, d1, d2, d3, d4⟩ := HCX.out wr hself
              obtain ⟨e0, e1, e2, e3, e4⟩ := HCY.out wr hself
              have HCE : Hid (∀ W, Below wr.heap.size wr W → W.cell? ⟨ga, offa + k * 5, none⟩ = some (.int .i64 x.v) ∧ W.cell? ⟨ga, offa + k * 5 + 1, none⟩ = some (.int .i64 x.t.kind) ∧ W.cell? ⟨ga, offa + k * 5 + 2, none⟩ = some (.int .i64 x.t.num) ∧ W.cell? ⟨ga, offa + k * 5 + 3, none⟩ = some (.string x.t.name) ∧ W.cell? ⟨ga, offa + k * 5 + 4, none⟩ = some (.slice u1 x.t.args.length u2) ∧ W.cell? ⟨gb, offb + k * 5, none⟩ = some (.int .i64 y.v) ∧ W.cell? ⟨gb, offb + k * 5 + 1, none⟩ = some (.int .i64 y.t.kind) ∧ W.cell? ⟨gb, offb + k * 5 + 2, none⟩ = some (.int .i64 y.t.num) ∧ W.cell? ⟨gb, offb + k * 5 + 3, none⟩ = some (.string y.t.name) ∧ W.cell? ⟨gb, offb + k * 5 + 4, none⟩ = some (.slice v1 y.t.args.length v2)) := Lib.hid fun W hW => by
                obtain ⟨d0, d1, d2, d3, d4⟩ := HCX.out W hW
                obtain ⟨e0, e1, e2, e3, e4⟩ := HCY.out W hW
                exact ⟨d0, d1, d2, d3, d4, e0, e1, e2, e3, e4⟩
              have HTR : Hid (∀ a b, Below wr.heap.size wr a → Below a.heap.size a b → Below wr.heap.size wr b) := Lib.hid fun a b h1 h2 => belowOn h1 (Nat.le_refl _) h2
              clear HA HB HCX HCY HDS HQ HE HF HST hlt hlt2 hka hkb
              go_region_held3 (fun w' => Below wr.heap.size wr w' ∧ w'.cell? ⟨ga, offa + k * 5, none⟩ = some (.int .i64 x.v) ∧ w'.cell? ⟨ga, offa + k * 5 + 1, none⟩ = some (.int .i64 x.t.kind) ∧ w'.cell? ⟨ga, offa + k * 5 + 2, none⟩ = some (.int .i64 x.t.num) ∧ w'.cell? ⟨ga, offa + k * 5 + 3, none⟩ = some (.string x.t.name) ∧ w'.cell? ⟨ga, offa + k * 5 + 4, none⟩ = some (.slice u1 x.t.args.length u2) ∧ w'.cell? ⟨gb, offb + k * 5, none⟩ = some (.int .i64 y.v) ∧ w'.cell? ⟨gb, offb + k * 5 + 1, none⟩ = some (.int .i64 y.t.kind) ∧ w'.cell? ⟨gb, offb + k * 5 + 2, none⟩ = some (.int .i64 y.t.num) ∧ w'.cell? ⟨gb, offb + k * 5 + 3, none⟩ = some (.string y.t.name) ∧ w'.cell? ⟨gb, offb + k * 5 + 4, none⟩ = some (.slice v1 y.t.args.length v2)) (go_keep)
                (first | (go_at_call 137; refine (HSG.out _).mono ?_; rintro r w' ⟨rfl, rfl⟩))
              all_goals (go_wp2_with fail; go_meet; exact ⟨rfl, by assumption⟩)
            case rest =>
              obtain ⟨rfl, hb⟩ := hcut
              obtain ⟨w3, rfl⟩ : ∃ x : World, x = wc := ⟨_, rfl⟩
              have HQ2 := Lib.hid (belowOn HQ.out (Nat.le_refl _) hb)
              clear hb HCX HCY
              go_wp2
              go_ret
              exact ⟨rfl, HQ2.out⟩
      · have hke : e.length = k := by omega
        obtain rfl : c0 = 1 := by rw [HDS.out]; exact ds_long hke hlt
        have hne : ((d.length : Int) != (e.length : Int)) = true := by simp; omega
        have hlf : decide ((d.length : Int) < (e.length : Int)) = false := by simp; omega
        have HS : Hid (Calls Try.prog 137 #[.bool (decide (d.length < e.length))] wr fun r w' => r = .returned (.int .i64 (1)) ∧ wr = w') := Lib.hid (by have h := sign_any (decide (d.length < e.length)) wr; rw [if_neg (by simp; omega)] at h; exact h)
        have hkI : ¬ ((k : Int) < (e.length : Int)) := by omega
        have hkJ : ((k : Int) < (d.length : Int)) := by omega
        clear hke
        go_wp2_with fail
        refine HS.out.mono ?_
        rintro r w' ⟨rfl, rfl⟩
        go_wp2
        go_ret
        exact ⟨rfl, HQ.out⟩
    · have hkd : d.length = k := by omega
      have hkJ : ¬ ((k : Int) < (d.length : Int)) := by omega
      by_cases hq : e.length = k
      · obtain rfl : c0 = 0 := by rw [HDS.out]; exact ds_both hkd hq
        have hne : ((d.length : Int) != (e.length : Int)) = false := by simp; omega
        clear hkd hq
        go_wp2
        go_ret
        exact ⟨rfl, HQ.out⟩
      · obtain rfl : c0 = -1 := by rw [HDS.out]; exact ds_short hkd (by omega)
        have hne : ((d.length : Int) != (e.length : Int)) = true := by simp; omega
        have hlf : decide ((d.length : Int) < (e.length : Int)) = true := by simp; omega
        have HS : Hid (Calls Try.prog 137 #[.bool (decide (d.length < e.length))] wr fun r w' => r = .returned (.int .i64 (-1)) ∧ wr = w') := Lib.hid (by have h := sign_any (decide (d.length < e.length)) wr; rw [if_pos (decide_eq_true (by omega))] at h; exact h)
        clear hkd hq
        go_wp2_with fail
        refine HS.out.mono ?_
        rintro r w' ⟨rfl, rfl⟩
        go_wp2
        go_ret
        exact ⟨rfl, HQ.out⟩

set_option maxRecDepth 100000 in
set_option maxHeartbeats 2000000 in
theorem specCompareDisequalities_any (d : List Bd) (Vd : Value) (e : List Bd) (Ve : Value) (w : World) (hA : ListS bdE w Any Vd d) (hZ : szB d ≤ 1048576) (hB : ListS bdE w Any Ve e) (hZe : szB e ≤ 1048576) :
    Calls Try.prog 29 #[Vd, Ve] w fun r w' => r = .returned (.int .i64 (cdI d e)) ∧ Below w.heap.size w w' := by
  obtain ⟨c0, hc0⟩ : ∃ c, cdI d e = c := ⟨_, rfl⟩
  rw [hc0]
  have HNO : Hid (substB d = false ∨ substB e = false → c0 = 2) := Lib.hid fun h => hc0.symm.trans (cd_no h)
  have HYES : Hid (SubstP d → SubstP e → c0 = dsCmp d e) := Lib.hid fun h1 h2 => hc0.symm.trans (cd_yes h1 h2)
  clear hc0
  obtain ⟨aa, ca, rfl⟩ := hA.slice
  obtain ⟨ab, cb, rfl⟩ := hB.slice
  have HE := Lib.hid (And.intro (eachB_of hZ) (eachB_of hZe))
  have HA := Lib.hid hA
  have HB := Lib.hid hB
  have HC := Lib.hid (specSubstOk_any d _ w hA HE.out.1)
  clear hA hB
  go_enter Try.func29, Try.ntmps29
  go_wp2_with fail
  refine HC.out.mono ?_
  rintro r w1 ⟨rfl, hb⟩
  have HW1 := Lib.hid hb
  clear hb HC
  cases hs : substB d with
  | false =>
    obtain rfl := HNO.out (.inl hs)
    clear hs
    go_wp2
    go_ret
    exact ⟨rfl, HW1.out⟩
  | true =>
  have HS := Lib.hid (substB_true.1 hs)
  have HC := Lib.hid (specSubstOk_any e _ w1 (HB.out.kept HW1.out) HE.out.2)
  clear hs
  go_wp2_with fail
  refine HC.out.mono ?_
  rintro r w2 ⟨rfl, hb⟩
  have HW2 := Lib.hid (belowOn HW1.out (Nat.le_refl _) hb)
  clear hb HC HW1
  cases hs : substB e with
  | false =>
    obtain rfl := HNO.out (.inr hs)
    clear hs
    go_wp2
    go_ret
    exact ⟨rfl, HW2.out⟩
  | true =>
  obtain rfl := HYES.out HS.out (substB_true.1 hs)
  have HC := Lib.hid (specDsCmp_any d _ e _ w2 (HA.out.kept HW2.out) (HB.out.kept HW2.out) HE.out.1 HE.out.2)
  clear hs
  go_wp2_with fail
  refine HC.out.mono ?_
  rintro r w3 ⟨rfl, hb⟩
  have HW3 := Lib.hid (belowOn HW2.out (Nat.le_refl _) hb)
  clear hb HC
  go_wp2
  go_ret
  exact ⟨rfl, HW3.out⟩
end Go.Proofs.Ytjpkkhhcpcokaaa

