/-
  The contracts of the program's own size of a term: sizeWithin, TermSize, TermOk.
-/
import Derived.Test.YtokndpmoamjbfaaFit
namespace Go.Proofs.Ytokndpmoamjbfaa
open Go.RowKit

/-- The size of a term that is of the right form and within a room, -1 for all else. -/
def SizeP (t : Tm) (room : Int) (w : World) (e : Ending) (w' : World) : Prop :=
  ∃ r : Int, e = .returned (.int .i64 r) ∧ (Good t → (t.nodes : Int) ≤ room → r = t.nodes) ∧ (¬ (Good t ∧ (t.nodes : Int) ≤ room) → r = -1) ∧ Below w.heap.size w w'
theorem SizeP.cases {t : Tm} {room : Int} {w w' : World} {e : Ending} (h : SizeP t room w e w') : (e = .returned (.int .i64 t.nodes) ∧ Good t ∧ (t.nodes : Int) ≤ room ∧ Below w.heap.size w w') ∨ (e = .returned (.int .i64 (-1)) ∧ ¬ (Good t ∧ (t.nodes : Int) ≤ room) ∧ Below w.heap.size w w') := by
  obtain ⟨r, rfl, h1, h2, h3⟩ := h
  by_cases hg : Good t ∧ (t.nodes : Int) ≤ room
  · exact .inl ⟨by rw [h1 hg.1 hg.2], hg.1, hg.2, h3⟩
  · exact .inr ⟨by rw [h2 hg], hg, h3⟩

set_option maxHeartbeats 1600000 in
theorem sizeWithin_any (N : Nat) : ∀ (t : Tm) (V : Value) (room : Int) (w : World), t.nodes < N → ArgsAt w V t.args → t.sz ≤ 1048576 → 0 ≤ room → room ≤ 5000 →
    Calls Try.prog 22 #[.agg #[.int .i64 t.kind, .int .i64 t.num, .string t.name, V], .int .i64 room] w (SizeP t room w) := by
  induction N with
  | zero => intro t V room w hN; omega
  | succ N ih =>
    intro t V room w hN hA hZ hr0 hr1
    obtain ⟨a, cap, rfl⟩ := hA.slice
    have HA := Lib.hid hA
    have HI := Lib.hid ih
    have HSE := Lib.hid (sz_eq t)
    have hL : t.args.length ≤ 1048576 := by have := length_szL t.args; have := HSE.out; omega
    have hsn : t.name.size ≤ maxLen := by unfold maxLen; have := HSE.out; omega
    have HNE := Lib.hid (nodes_eq t)
    clear hA ih
    have B0 := Lib.hid ((Below.refl w.heap.size w).alloc (Nat.le_refl _) (.cells #[.int .i64 t.kind, .int .i64 t.num, .string t.name, .slice a t.args.length cap] 25))
    by_cases hroom : room < 1
    · go_enter Try.func22, Try.ntmps22
      go_wp2
      go_ret
      exact ⟨-1, rfl, fun _ h => by have := nodes_pos t; omega, fun _ => rfl, B0.out⟩
    · go_enter Try.func22, Try.ntmps22
      have hfit := fieldsFit_any t.kind t.num t.name a cap t.args (w.alloc (.cells #[.int .i64 t.kind, .int .i64 t.num, .string t.name, .slice a t.args.length cap] 25)) hsn hL
      rw [t.eta] at hfit
      have HFIT := Lib.hid hfit
      clear hfit
      go_wp2_with fail
      refine HFIT.out.mono ?_
      rintro e w1 ⟨b, rfl, hbf, hb⟩
      have h1 := (hb.block w.heap.size (by simp)).trans (heap_new w _)
      obtain ⟨b0, b1, b2, b3, bf⟩ := box_cells h1
      have HB1 := Lib.hid (B0.out.trans (hb.mono (by simp)))
      have HBF := Lib.hid hbf
      clear hb h1 hbf HFIT
      cases b with
      | false =>
        go_wp2
        go_ret
        exact ⟨-1, rfl, fun hg _ => absurd (HBF.out.2 hg.fit) (by simp), fun _ => rfl, HB1.out⟩
      | true =>
        have HF := Lib.hid (HBF.out.1 rfl)
        clear HBF
        go_wp2
        go_loopw [5, 19] (fun sv i wr => ∃ k n : Nat, k ≤ t.args.length ∧ i = .int .i64 k ∧ sv = .int .i64 n ∧ n = 1 + nodesL (t.args.take k) ∧ (n : Int) ≤ room ∧ (∀ i x, i < k → t.args[i]? = some x → Good x) ∧ Below w.heap.size w wr)
            (fun _ i _ => t.args.length - (intOf i).toNat)
        case atStart => exact ⟨0, 1, Nat.zero_le _, rfl, rfl, by simp [nodesL_nil], by omega, fun i x hi => absurd hi (Nat.not_lt_zero _), HB1.out⟩
        case round =>
          obtain ⟨k, n, hk, rfl, rfl, hn, hnr, hgood, hb⟩ := hrel
          have HNN := Lib.hid hn
          have HG := Lib.hid hgood
          have HB := Lib.hid hb
          clear hn hgood hb b0 b1 b2 b3 bf
          by_cases hlt : k < t.args.length
          · obtain ⟨x, hx⟩ : ∃ x, t.args[k]? = some x := ⟨_, List.getElem?_eq_getElem hlt⟩
            obtain ⟨g, off, cap1, V, hv, hg, hc, hch⟩ := HA.out.parts (by intro e; rw [e] at hlt; simp at hlt)
            simp only [Value.slice.injEq, true_and] at hv
            obtain ⟨rfl, rfl⟩ := hv
            obtain ⟨c0, c1, c2, c3⟩ := hc k x hx
            have d0 := (HB.out.cell (p := ⟨g, off + k * 4, none⟩) hg).trans c0
            have d1 := (HB.out.cell (p := ⟨g, off + k * 4 + 1, none⟩) hg).trans c1
            have d2 := (HB.out.cell (p := ⟨g, off + k * 4 + 2, none⟩) hg).trans c2
            have d3 := (HB.out.cell (p := ⟨g, off + k * 4 + 3, none⟩) hg).trans c3
            obtain ⟨u1, u2, hV⟩ := (hch k x hx).slice
            rw [hV] at d3
            have HC := Lib.hid (hch k x hx)
            rw [hV] at HC
            have HX := Lib.hid hx
            have HNA := Lib.hid (nodes_take_at hx)
            have HNT := Lib.hid (nodes_take hx)
            have hN' : x.nodes < N := by have := nodes_at hx; have := HNE.out; omega
            have hZ' : x.sz ≤ 1048576 := by have h1 := sz_at hx; have := HSE.out; omega
            clear hc hch c0 c1 c2 c3 hx hV
            have hbx : Below w.heap.size w (wr.alloc (.cells #[.int .i64 x.kind, .int .i64 x.num, .string x.name, .slice u1 x.args.length u2] 25)) := HB.out.alloc HB.out.size _
            have HBX := Lib.hid hbx
            have HCALL := Lib.hid (HI.out x _ (room - n) _ hN' (HC.out.kept hbx) hZ' (by omega) (by omega))
            clear hbx
            go_wp2_with fail
            refine HCALL.out.mono ?_
            rintro e w2 hP
            rcases hP.cases with ⟨rfl, hg2, hn2, hb2⟩ | ⟨rfl, hng, hb2⟩
            · have HB2 := Lib.hid (HBX.out.trans (hb2.mono HBX.out.size))
              have HG2 := Lib.hid hg2
              clear hb2 hP hg2 HCALL
              go_wp2
              go_roundw
              case rel =>
                refine ⟨k + 1, n + x.nodes, by omega, by go_num, by go_num, ?_, by omega, ?_, HB2.out⟩
                · have := HNN.out
                  have := HNT.out
                  omega
                · intro i y hi hy
                  by_cases e : i = k
                  · subst e
                    have h3 := HX.out
                    rw [h3] at hy
                    cases hy
                    exact HG2.out
                  · exact HG.out i y (by omega) hy
              case measure => simp [intOf]; omega
            · have HB2 := Lib.hid (HBX.out.trans (hb2.mono HBX.out.size))
              have HNG := Lib.hid hng
              clear hb2 hP hng HCALL
              go_wp2
              go_ret
              refine ⟨-1, rfl, fun hg hr => absurd ⟨hg.each HX.out, ?_⟩ HNG.out, fun _ => rfl, HB2.out⟩
              have := HNA.out
              have := HNE.out
              have := HNN.out
              omega
          · go_wp2
            go_ret
            obtain rfl : k = t.args.length := by omega
            have h1 := HNN.out
            rw [List.take_length] at h1
            have h2 := HNE.out
            have hg : Good t := good_of HF.out fun j x hj => HG.out j x (by have := (List.getElem?_eq_some_iff.1 hj).1; exact this) hj
            exact ⟨n, rfl, fun _ _ => by omega, fun h => absurd ⟨hg, by omega⟩ h, HB.out⟩
end Go.Proofs.Ytokndpmoamjbfaa

