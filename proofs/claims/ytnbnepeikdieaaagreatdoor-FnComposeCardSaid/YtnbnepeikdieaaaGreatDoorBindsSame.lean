/-
  The laws' own test whether two lists of bindings are the same: a list and itself, read at two places.
-/
import Derived.Test.YtnbnepeikdieaaaGreatDoorSame
import Derived.Test.YtnbnepeikdieaaaGreatDoorRows3
import Derived.Deep.RegionWith
namespace Go.Proofs.YtnbnepeikdieaaaGreatDoor
open Go.RowKit
set_option linter.unusedVariables false
set_option linter.unusedSimpArgs false

set_option maxHeartbeats 4000000 in
set_option maxRecDepth 100000 in
theorem binds_any (l : List Bd) (Va Vb : Value) (w : World) (hA : ListS bdE w Any Va l) (hB : ListS bdE w Any Vb l) (hG : ∀ b ∈ l, Good b.t ∧ b.t.sz ≤ 1048576) (hL : l.length ≤ 1048576) :
    Calls Tryz.prog 14 #[Va, Vb] w fun e w' => e = .returned (.bool true) ∧ Below w.heap.size w w' := by
  obtain ⟨aa, ca, rfl⟩ := hA.slice
  obtain ⟨ab, cb, rfl⟩ := hB.slice
  have HA := Lib.hid hA
  have HB := Lib.hid hB
  have HG := Lib.hid hG
  have HW : Hid (Below w.heap.size w w) := Lib.hid (Below.refl _ _)
  have hl1 : (((l.length : Nat) : Int) == ((l.length : Nat) : Int)) = true := by simp
  have hl2 : (((l.length : Nat) : Int) != ((l.length : Nat) : Int)) = false := by simp
  clear hA hB hG
  go_enter Tryz.func14, Tryz.ntmps14
  go_wp2
  clear hl1 hl2
  go_loopw [14] (fun iv wr => ∃ (k : Nat), iv = .int .i64 k ∧ k ≤ l.length ∧ Hid (Below w.heap.size w wr)) (fun iv _ => l.length - (intOf iv).toNat)
  case atStart => exact ⟨0, rfl, Nat.zero_le _, HW⟩
  case round =>
    obtain ⟨k, rfl, hk, HWr⟩ := hrel
    clear HW
    by_cases hlt : k < l.length
    · have hltI : (k : Int) < (l.length : Int) := by omega
      obtain ⟨x, hx⟩ : ∃ x, l[k]? = some x := ⟨_, List.getElem?_eq_getElem hlt⟩
      obtain ⟨ga, offa, u1, u2, hva, hga, hna', hcx, hax⟩ := HA.out.bd hx
      obtain ⟨gb, offb, v1, v2, hvb, hgb, hnb', hcy, hay⟩ := HB.out.bd hx
      cases hva
      cases hvb
      have HGX := Lib.hid (HG.out _ (List.mem_of_getElem? hx))
      have HCY := Lib.hid (And.intro hcy (And.intro hax.at (And.intro hay.at (And.intro hga hgb))))
      obtain ⟨d0, d1, d2, d3, d4⟩ := hcx wr HWr.out
      clear hx hna' hnb' hcx hcy hax hay hga hgb
      go_upto_region 6 with (fail)
      have HX1 := Lib.hid (at_box_of wr #[.int .i64 x.v, .int .i64 x.t.kind, .int .i64 x.t.num, .string x.t.name, .slice u1 x.t.args.length u2] 47 wr.heap.size rfl)
      have hal : Below wr.heap.size wr (wr.alloc (.cells #[.int .i64 x.v, .int .i64 x.t.kind, .int .i64 x.t.num, .string x.t.name, .slice u1 x.t.args.length u2] 47)) := belowAlloc (Below.refl _ _) _
      have HW1 := Lib.hid (belowOn HWr.out (Nat.le_refl _) hal)
      clear hal d0 d1 d2 d3 d4 HWr
      generalize hw1 : wr.alloc (.cells #[.int .i64 x.v, .int .i64 x.t.kind, .int .i64 x.t.num, .string x.t.name, .slice u1 x.t.args.length u2] 47) = W1 at HX1 HW1 ⊢
      clear hw1
      generalize wr.heap.size = nb at HX1 ⊢
      obtain ⟨e0, e1, e2, e3, e4, ef⟩ := box_cells5 HX1.out.now
      have ze := HX1.out.le
      obtain ⟨d0, d1, d2, d3, d4⟩ := HCY.out.1 W1 HW1.out
      have hself : Below W1.heap.size W1 W1 := Below.refl _ _
      have hvv : (x.v != x.v) = false := by simp
      have HS : Hid (∀ W, Below W1.heap.size W1 W → Calls Tryz.prog 13 #[.agg #[.int .i64 x.t.kind, .int .i64 x.t.num, .string x.t.name, .slice u1 x.t.args.length u2], .agg #[.int .i64 x.t.kind, .int .i64 x.t.num, .string x.t.name, .slice v1 x.t.args.length v2]] W fun e w' => e = .returned (.bool true) ∧ Below W1.heap.size W1 w') := Lib.hid fun W hW => by
        have hbw := belowOn HW1.out (Nat.le_refl _) hW
        have hc := same_any (x.t.nodes + 1) x.t x.t _ _ W (Nat.lt_succ_self _) (HCY.out.2.1.kept hbw) (HCY.out.2.2.1.kept hbw) HGX.out.2 HGX.out.2 HGX.out.1 HGX.out.1
        rw [show (x.t.cmp x.t == 0) = true from by rw [cmp_self]; rfl] at hc
        refine hc.mono ?_
        rintro e w' ⟨rfl, hb⟩
        exact ⟨rfl, belowOn hW (Nat.le_refl _) hb⟩
      go_region_with (go_at_call 13; (with_reducible refine Calls.mono (HS.out _ ?_) ?_); (first | exact hself | exact hself.drew | exact hself.drew.drew); rintro e w2 ⟨rfl, hb⟩)
      all_goals
        have HW2 := Lib.hid (belowOn HW1.out (Nat.le_refl _) hb)
        clear hb e0 e1 e2 e3 e4 ef ze d0 d1 d2 d3 d4 hself
        go_wp2
        go_roundw
        case rel => exact ⟨k + 1, by go_num, by omega, HW2⟩
        case measure => simp [intOf]; omega
    · go_wp2
      go_ret
      exact ⟨rfl, HWr.out⟩
end Go.Proofs.YtnbnepeikdieaaaGreatDoor

