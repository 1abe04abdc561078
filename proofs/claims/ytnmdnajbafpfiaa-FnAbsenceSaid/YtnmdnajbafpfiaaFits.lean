/-
  The contracts of the program's own test of a node's form and of the size of a term: fieldsFit, sizeWithin, TermSize, TermOk.
  The contracts of the program's own size of a term: sizeWithin, TermSize, TermOk.
  The contract of the model's count of nodes, l02Count.
  The contract of the model's test of a term's form, l02Shape.
  The contracts of the model's test of a term, over all terms: l02Shape, TermOk, TermSize; and of the program's: TermSize, TermOk.
  The laws' helpers over one term: szTerm, toTerm, eqTerm; the boxes in which terms lie.
  What holds of blocks from one number to another, and stays as long as these blocks do. Over whatever program.
-/
import Derived.Test.YtnmdnajbafpfiaaTrees
import Derived.Test.YtnmdnajbafpfiaaName
import Derived.Deep.Cut
import Derived.Deep.CutRange
namespace Go.Proofs.Ytnmdnajbafpfiaa
open Go.RowKit

theorem kind_cases (k : Int) : k = 0 ∨ k = 1 ∨ k = 2 ∨ k = 3 ∨ k = 4 ∨ (¬ k = 0 ∧ ¬ k = 1 ∧ ¬ k = 2 ∧ ¬ k = 3 ∧ ¬ k = 4) := by omega

theorem not_empty {s : ByteArray} (h : ¬ s = ⟨#[]⟩) : s.toList.isEmpty = false := by
  rw [Lib.toList_data]
  cases hs : s.data.toList with
  | nil => exact absurd (ByteArray.ext (Array.toList_inj.1 (by rw [hs]))) h
  | cons a b => rfl
def FitP (t : Tm) (w : World) (e : Ending) (w' : World) : Prop := ∃ b, e = .returned (.bool b) ∧ (b = true ↔ Fit t) ∧ Below w.heap.size w w'

set_option maxHeartbeats 1600000 in
theorem fieldsFit_any (k i : Int) (s : ByteArray) (a : Option Addr) (cap : Nat) (l : List Tm) (w : World) (hs : s.size ≤ maxLen) (hl : l.length ≤ 1048576) :
    Calls Try.prog 103 #[.agg #[.int .i64 k, .int .i64 i, .string s, .slice a l.length cap]] w (FitP (.mk k i s l) w) := by
  have hl0 : l = [] ↔ l.length = 0 := List.length_eq_zero_iff.symm
  have HL := Lib.hid hl0
  clear hl0
  have HE : Hid ((⟨#[]⟩ : ByteArray) = ByteArray.empty) := Lib.hid rfl
  generalize hn : l.length = n at hl HL ⊢
  have HN := Lib.hid hn
  rcases kind_cases k with rfl | rfl | rfl | rfl | rfl | ⟨k0, k1, k2, k3, k4⟩
  · by_cases h0 : n = 0
    · subst h0
      by_cases h1 : i = 0
      · subst h1
        by_cases h2 : s = ⟨#[]⟩
        · subst h2
          go_enter Try.func103, Try.ntmps103
          go_wp2
          go_ret
          refine ⟨_, rfl, ?_, ?_⟩
          · have := HL.out; have hE := HE.out; simp [Fit, Tm.kind, Tm.num, Tm.name, Tm.args, *] <;> (try (intros; omega))
          · exact ((Below.refl _ _).alloc (Nat.le_refl _) _).alloc (by simp) _
        · have h2x := not_empty h2; have h2y : ¬ s = ByteArray.empty := h2
          go_enter Try.func103, Try.ntmps103
          go_wp2
          go_ret
          refine ⟨_, rfl, ?_, ?_⟩
          · have := HL.out; have hE := HE.out; simp [Fit, Tm.kind, Tm.num, Tm.name, Tm.args, *] <;> (try (intros; omega))
          · exact ((Below.refl _ _).alloc (Nat.le_refl _) _).alloc (by simp) _
      · go_enter Try.func103, Try.ntmps103
        go_wp2
        go_ret
        refine ⟨_, rfl, ?_, ?_⟩
        · have := HL.out; have hE := HE.out; simp [Fit, Tm.kind, Tm.num, Tm.name, Tm.args, *] <;> (try (intros; omega))
        · exact ((Below.refl _ _).alloc (Nat.le_refl _) _).alloc (by simp) _
    · have h0' : 0 < (n : Int) := by omega
      go_enter Try.func103, Try.ntmps103
      go_wp2
      go_ret
      refine ⟨_, rfl, ?_, ?_⟩
      · have := HL.out; have hE := HE.out; simp [Fit, Tm.kind, Tm.num, Tm.name, Tm.args, *] <;> (try (intros; omega))
      · exact ((Below.refl _ _).alloc (Nat.le_refl _) _).alloc (by simp) _
  · by_cases h0 : n = 0
    · subst h0
      by_cases h3 : 0 ≤ i
      · by_cases h4 : i ≤ 100000
        · by_cases h2 : s = ⟨#[]⟩
          · subst h2
            go_enter Try.func103, Try.ntmps103
            go_wp2
            go_ret
            refine ⟨_, rfl, ?_, ?_⟩
            · have := HL.out; have hE := HE.out; simp [Fit, Tm.kind, Tm.num, Tm.name, Tm.args, *] <;> (try (intros; omega))
            · exact ((Below.refl _ _).alloc (Nat.le_refl _) _).alloc (by simp) _
          · have h2x := not_empty h2; have h2y : ¬ s = ByteArray.empty := h2
            go_enter Try.func103, Try.ntmps103
            go_wp2
            go_ret
            refine ⟨_, rfl, ?_, ?_⟩
            · have := HL.out; have hE := HE.out; simp [Fit, Tm.kind, Tm.num, Tm.name, Tm.args, *] <;> (try (intros; omega))
            · exact ((Below.refl _ _).alloc (Nat.le_refl _) _).alloc (by simp) _
        · go_enter Try.func103, Try.ntmps103
          go_wp2
          go_ret
          refine ⟨_, rfl, ?_, ?_⟩
          · have := HL.out; have hE := HE.out; simp [Fit, Tm.kind, Tm.num, Tm.name, Tm.args, *] <;> (try (intros; omega))
          · exact ((Below.refl _ _).alloc (Nat.le_refl _) _).alloc (by simp) _
      · go_enter Try.func103, Try.ntmps103
        go_wp2
        go_ret
        refine ⟨_, rfl, ?_, ?_⟩
        · have := HL.out; have hE := HE.out; simp [Fit, Tm.kind, Tm.num, Tm.name, Tm.args, *] <;> (try (intros; omega))
        · exact ((Below.refl _ _).alloc (Nat.le_refl _) _).alloc (by simp) _
    · have h0' : 0 < (n : Int) := by omega
      go_enter Try.func103, Try.ntmps103
      go_wp2
      go_ret
      refine ⟨_, rfl, ?_, ?_⟩
      · have := HL.out; have hE := HE.out; simp [Fit, Tm.kind, Tm.num, Tm.name, Tm.args, *] <;> (try (intros; omega))
      · exact ((Below.refl _ _).alloc (Nat.le_refl _) _).alloc (by simp) _
  · by_cases h0 : n = 0
    · subst h0
      by_cases h1 : i = 0
      · subst h1
        go_enter Try.func103, Try.ntmps103
        go_wp2_with (first | (go_at_call 107; refine (implIsName_any _ _ hs).mono ?_; rintro e w' ⟨rfl, hb⟩) | go_in)
        go_ret
        refine ⟨_, rfl, ?_, ?_⟩
        · have := HL.out; have hE := HE.out; simp [Fit, Tm.kind, Tm.num, Tm.name, Tm.args, *] <;> (try (intros; omega))
        · exact (((Below.refl _ _).alloc (Nat.le_refl _) _).alloc (by simp) _).trans (hb.mono (by simp; omega))
      · go_enter Try.func103, Try.ntmps103
        go_wp2
        go_ret
        refine ⟨_, rfl, ?_, ?_⟩
        · have := HL.out; have hE := HE.out; simp [Fit, Tm.kind, Tm.num, Tm.name, Tm.args, *] <;> (try (intros; omega))
        · exact ((Below.refl _ _).alloc (Nat.le_refl _) _).alloc (by simp) _
    · have h0' : 0 < (n : Int) := by omega
      go_enter Try.func103, Try.ntmps103
      go_wp2
      go_ret
      refine ⟨_, rfl, ?_, ?_⟩
      · have := HL.out; have hE := HE.out; simp [Fit, Tm.kind, Tm.num, Tm.name, Tm.args, *] <;> (try (intros; omega))
      · exact ((Below.refl _ _).alloc (Nat.le_refl _) _).alloc (by simp) _
  · by_cases h0 : n = 0
    · subst h0
      by_cases h3 : -1000000000 ≤ i
      · by_cases h4 : i ≤ 1000000000
        · by_cases h2 : s = ⟨#[]⟩
          · subst h2
            go_enter Try.func103, Try.ntmps103
            go_wp2
            go_ret
            refine ⟨_, rfl, ?_, ?_⟩
            · have := HL.out; have hE := HE.out; simp [Fit, Tm.kind, Tm.num, Tm.name, Tm.args, *] <;> (try (intros; omega))
            · exact ((Below.refl _ _).alloc (Nat.le_refl _) _).alloc (by simp) _
          · have h2x := not_empty h2; have h2y : ¬ s = ByteArray.empty := h2
            go_enter Try.func103, Try.ntmps103
            go_wp2
            go_ret
            refine ⟨_, rfl, ?_, ?_⟩
            · have := HL.out; have hE := HE.out; simp [Fit, Tm.kind, Tm.num, Tm.name, Tm.args, *] <;> (try (intros; omega))
            · exact ((Below.refl _ _).alloc (Nat.le_refl _) _).alloc (by simp) _
        · go_enter Try.func103, Try.ntmps103
          go_wp2
          go_ret
          refine ⟨_, rfl, ?_, ?_⟩
          · have := HL.out; have hE := HE.out; simp [Fit, Tm.kind, Tm.num, Tm.name, Tm.args, *] <;> (try (intros; omega))
          · exact ((Below.refl _ _).alloc (Nat.le_refl _) _).alloc (by simp) _
      · go_enter Try.func103, Try.ntmps103
        go_wp2
        go_ret
        refine ⟨_, rfl, ?_, ?_⟩
        · have := HL.out; have hE := HE.out; simp [Fit, Tm.kind, Tm.num, Tm.name, Tm.args, *] <;> (try (intros; omega))
        · exact ((Below.refl _ _).alloc (Nat.le_refl _) _).alloc (by simp) _
    · have h0' : 0 < (n : Int) := by omega
      go_enter Try.func103, Try.ntmps103
      go_wp2
      go_ret
      refine ⟨_, rfl, ?_, ?_⟩
      · have := HL.out; have hE := HE.out; simp [Fit, Tm.kind, Tm.num, Tm.name, Tm.args, *] <;> (try (intros; omega))
      · exact ((Below.refl _ _).alloc (Nat.le_refl _) _).alloc (by simp) _
  · by_cases h1 : i = 0
    · subst h1
      by_cases h2 : s = ⟨#[]⟩
      · subst h2
        by_cases h5 : n = 2
        · subst h5
          go_enter Try.func103, Try.ntmps103
          go_wp2
          go_ret
          refine ⟨_, rfl, ?_, ?_⟩
          · have := HL.out; have hE := HE.out; simp [Fit, Tm.kind, Tm.num, Tm.name, Tm.args, *] <;> (try (intros; omega))
          · exact ((Below.refl _ _).alloc (Nat.le_refl _) _).alloc (by simp) _
        · have h5' : ¬ (n : Int) = 2 := by omega
          go_enter Try.func103, Try.ntmps103
          go_wp2
          go_ret
          refine ⟨_, rfl, ?_, ?_⟩
          · have := HL.out; have hE := HE.out; simp [Fit, Tm.kind, Tm.num, Tm.name, Tm.args, *] <;> (try (intros; omega))
          · exact ((Below.refl _ _).alloc (Nat.le_refl _) _).alloc (by simp) _
      · have h2x := not_empty h2; have h2y : ¬ s = ByteArray.empty := h2
        go_enter Try.func103, Try.ntmps103
        go_wp2
        go_ret
        refine ⟨_, rfl, ?_, ?_⟩
        · have := HL.out; have hE := HE.out; simp [Fit, Tm.kind, Tm.num, Tm.name, Tm.args, *] <;> (try (intros; omega))
        · exact ((Below.refl _ _).alloc (Nat.le_refl _) _).alloc (by simp) _
    · go_enter Try.func103, Try.ntmps103
      go_wp2
      go_ret
      refine ⟨_, rfl, ?_, ?_⟩
      · have := HL.out; have hE := HE.out; simp [Fit, Tm.kind, Tm.num, Tm.name, Tm.args, *] <;> (try (intros; omega))
      · exact ((Below.refl _ _).alloc (Nat.le_refl _) _).alloc (by simp) _
  · by_cases h0 : n = 0
    · subst h0
      go_enter Try.func103, Try.ntmps103
      go_wp2
      go_ret
      refine ⟨_, rfl, ?_, ?_⟩
      · have := HL.out; have hE := HE.out; simp [Fit, Tm.kind, Tm.num, Tm.name, Tm.args, *] <;> (try (intros; omega))
      · exact ((Below.refl _ _).alloc (Nat.le_refl _) _).alloc (by simp) _
    · have h0' : 0 < (n : Int) := by omega
      go_enter Try.func103, Try.ntmps103
      go_wp2
      go_ret
      refine ⟨_, rfl, ?_, ?_⟩
      · have := HL.out; have hE := HE.out; simp [Fit, Tm.kind, Tm.num, Tm.name, Tm.args, *] <;> (try (intros; omega))
      · exact ((Below.refl _ _).alloc (Nat.le_refl _) _).alloc (by simp) _
end Go.Proofs.Ytnmdnajbafpfiaa

namespace Go.Proofs.Ytnmdnajbafpfiaa
open Go.RowKit

/-- The size of a term that is of the right form and within a room, -1 for all else. -/
def SizeP (t : Tm) (room : Int) (w : World) (e : Ending) (w' : World) : Prop :=
  ∃ r : Int, e = .returned (.int .i64 r) ∧ (Good t → (t.nodes : Int) ≤ room → r = t.nodes) ∧ (¬ (Good t ∧ (t.nodes : Int) ≤ room) → r = -1) ∧ Below w.heap.size w w'
theorem SizeP.cases {t : Tm} {room : Int} {w w' : World} {e : Ending} (h : SizeP t room w e w') : (e = .returned (.int .i64 t.nodes) ∧ Good t ∧ (t.nodes : Int) ≤ room ∧ Below w.heap.size w w') ∨ (e = .returned (.int .i64 (-1)) ∧ ¬ (Good t ∧ (t.nodes : Int) ≤ room) ∧ Below w.heap.size w w') := by
  obtain ⟨r, rfl, h1, h2, h3⟩ := h
  by_cases hg : Good t ∧ (t.nodes : Int) ≤ room
  · exact .inl ⟨by rw [h1 hg.1 hg.2], hg.1, hg.2, h3⟩
  · exact .inr ⟨by rw [h2 hg], hg, h3⟩

set_option maxHeartbeats 1600000 in
theorem sizeWithin_any (N : Nat) : ∀ (t : Tm) (V : Value) (room : Int) (w : World), t.nodes < N → ArgsAt w V t.args → t.sz ≤ 1048576 → 0 ≤ room → room ≤ 5000 →
    Calls Try.prog 96 #[.agg #[.int .i64 t.kind, .int .i64 t.num, .string t.name, V], .int .i64 room] w (SizeP t room w) := by
  induction N with
  | zero => intro t V room w hN; omega
  | succ N ih =>
    intro t V room w hN hA hZ hr0 hr1
    obtain ⟨a, cap, rfl⟩ := hA.slice
    have HA := Lib.hid hA
    have HI := Lib.hid ih
    have HSE := Lib.hid (sz_eq t)
    have hL : t.args.length ≤ 1048576 := by have := length_szL t.args; have := HSE.out; omega
    have hsn : t.name.size ≤ maxLen := by unfold maxLen; have := HSE.out; omega
    have HNE := Lib.hid (nodes_eq t)
    clear hA ih
    have B0 := Lib.hid ((Below.refl w.heap.size w).alloc (Nat.le_refl _) (.cells #[.int .i64 t.kind, .int .i64 t.num, .string t.name, .slice a t.args.length cap] 28))
    by_cases hroom : room < 1
    · go_enter Try.func96, Try.ntmps96
      go_wp2
      go_ret
      exact ⟨-1, rfl, fun _ h => by have := nodes_pos t; omega, fun _ => rfl, B0.out⟩
    · go_enter Try.func96, Try.ntmps96
      have hfit := fieldsFit_any t.kind t.num t.name a cap t.args (w.alloc (.cells #[.int .i64 t.kind, .int .i64 t.num, .string t.name, .slice a t.args.length cap] 28)) hsn hL
      rw [t.eta] at hfit
      have HFIT := Lib.hid hfit
      clear hfit
      go_wp2_with fail
      refine HFIT.out.mono ?_
      rintro e w1 ⟨b, rfl, hbf, hb⟩
      have h1 := (hb.block w.heap.size (by simp)).trans (heap_new w _)
      obtain ⟨b0, b1, b2, b3, bf⟩ := box_cells h1
      have HB1 := Lib.hid (B0.out.trans (hb.mono (by simp)))
      have HBF := Lib.hid hbf
      clear hb h1 hbf HFIT
      cases b with
      | false =>
        go_wp2
        go_ret
        exact ⟨-1, rfl, fun hg _ => absurd (HBF.out.2 hg.fit) (by simp), fun _ => rfl, HB1.out⟩
      | true =>
        have HF := Lib.hid (HBF.out.1 rfl)
        clear HBF
        go_wp2
        go_loopw [5, 19] (fun sv i wr => ∃ k n : Nat, k ≤ t.args.length ∧ i = .int .i64 k ∧ sv = .int .i64 n ∧ n = 1 + nodesL (t.args.take k) ∧ (n : Int) ≤ room ∧ (∀ i x, i < k → t.args[i]? = some x → Good x) ∧ Below w.heap.size w wr)
            (fun _ i _ => t.args.length - (intOf i).toNat)
        case atStart => exact ⟨0, 1, Nat.zero_le _, rfl, rfl, by simp [nodesL_nil], by omega, fun i x hi => absurd hi (Nat.not_lt_zero _), HB1.out⟩
        case round =>
          obtain ⟨k, n, hk, rfl, rfl, hn, hnr, hgood, hb⟩ := hrel
          have HNN := Lib.hid hn
          have HG := Lib.hid hgood
          have HB := Lib.hid hb
          clear hn hgood hb b0 b1 b2 b3 bf
          by_cases hlt : k < t.args.length
          · obtain ⟨x, hx⟩ : ∃ x, t.args[k]? = some x := ⟨_, List.getElem?_eq_getElem hlt⟩
            obtain ⟨g, off, cap1, V, hv, hg, hc, hch⟩ := HA.out.parts (by intro e; rw [e] at hlt; simp at hlt)
            simp only [Value.slice.injEq, true_and] at hv
            obtain ⟨rfl, rfl⟩ := hv
            obtain ⟨c0, c1, c2, c3⟩ := hc k x hx
            have d0 := (HB.out.cell (p := ⟨g, off + k * 4, none⟩) hg).trans c0
            have d1 := (HB.out.cell (p := ⟨g, off + k * 4 + 1, none⟩) hg).trans c1
            have d2 := (HB.out.cell (p := ⟨g, off + k * 4 + 2, none⟩) hg).trans c2
            have d3 := (HB.out.cell (p := ⟨g, off + k * 4 + 3, none⟩) hg).trans c3
            obtain ⟨u1, u2, hV⟩ := (hch k x hx).slice
            rw [hV] at d3
            have HC := Lib.hid (hch k x hx)
            rw [hV] at HC
            have HX := Lib.hid hx
            have HNA := Lib.hid (nodes_take_at hx)
            have HNT := Lib.hid (nodes_take hx)
            have hN' : x.nodes < N := by have := nodes_at hx; have := HNE.out; omega
            have hZ' : x.sz ≤ 1048576 := by have h1 := sz_at hx; have := HSE.out; omega
            clear hc hch c0 c1 c2 c3 hx hV
            have hbx : Below w.heap.size w (wr.alloc (.cells #[.int .i64 x.kind, .int .i64 x.num, .string x.name, .slice u1 x.args.length u2] 28)) := HB.out.alloc HB.out.size _
            have HBX := Lib.hid hbx
            have HCALL := Lib.hid (HI.out x _ (room - n) _ hN' (HC.out.kept hbx) hZ' (by omega) (by omega))
            clear hbx
            go_wp2_with fail
            refine HCALL.out.mono ?_
            rintro e w2 hP
            rcases hP.cases with ⟨rfl, hg2, hn2, hb2⟩ | ⟨rfl, hng, hb2⟩
            · have HB2 := Lib.hid (HBX.out.trans (hb2.mono HBX.out.size))
              have HG2 := Lib.hid hg2
              clear hb2 hP hg2 HCALL
              go_wp2
              go_roundw
              case rel =>
                refine ⟨k + 1, n + x.nodes, by omega, by go_num, by go_num, ?_, by omega, ?_, HB2.out⟩
                · have := HNN.out
                  have := HNT.out
                  omega
                · intro i y hi hy
                  by_cases e : i = k
                  · subst e
                    have h3 := HX.out
                    rw [h3] at hy
                    cases hy
                    exact HG2.out
                  · exact HG.out i y (by omega) hy
              case measure => simp [intOf]; omega
            · have HB2 := Lib.hid (HBX.out.trans (hb2.mono HBX.out.size))
              have HNG := Lib.hid hng
              clear hb2 hP hng HCALL
              go_wp2
              go_ret
              refine ⟨-1, rfl, fun hg hr => absurd ⟨hg.each HX.out, ?_⟩ HNG.out, fun _ => rfl, HB2.out⟩
              have := HNA.out
              have := HNE.out
              have := HNN.out
              omega
          · go_wp2
            go_ret
            obtain rfl : k = t.args.length := by omega
            have h1 := HNN.out
            rw [List.take_length] at h1
            have h2 := HNE.out
            have hg : Good t := good_of HF.out fun j x hj => HG.out j x (by have := (List.getElem?_eq_some_iff.1 hj).1; exact this) hj
            exact ⟨n, rfl, fun _ _ => by omega, fun h => absurd ⟨hg, by omega⟩ h, HB.out⟩
end Go.Proofs.Ytnmdnajbafpfiaa

namespace Go.Proofs.Ytnmdnajbafpfiaa
open Go.RowKit

/-- The number of nodes, or some number above the most if it is above the most. -/
def CountP (t : Tm) (most : Int) (w : World) (e : Ending) (w' : World) : Prop :=
  ∃ c : Nat, e = .returned (.int .i64 c) ∧ 1 ≤ c ∧ c ≤ t.nodes ∧ ((t.nodes : Int) ≤ most → c = t.nodes) ∧ (most < t.nodes → most < c) ∧ Below w.heap.size w w'

set_option maxHeartbeats 1600000 in
theorem count_any (N : Nat) : ∀ (t : Tm) (V : Value) (most : Int) (w : World), t.nodes < N → ArgsAt w V t.args → t.sz ≤ 1099511627776 → 0 ≤ most → most ≤ 5000 →
    Calls Try.prog 79 #[.agg #[.int .i64 t.kind, .int .i64 t.num, .string t.name, V], .int .i64 most] w (CountP t most w) := by
  induction N with
  | zero => intro t V most w hN; omega
  | succ N ih =>
    intro t V most w hN hA hZ hr0 hr1
    obtain ⟨a, cap, rfl⟩ := hA.slice
    have HA := Lib.hid hA
    have HI := Lib.hid ih
    have HSE := Lib.hid (sz_eq t)
    have hL : t.args.length ≤ 1099511627776 := by have := length_szL t.args; have := HSE.out; omega
    have HNE := Lib.hid (nodes_eq t)
    have hnz : t.nodes ≤ 1099511627777 := by have := nodes_sz t; omega
    clear hA ih
    have B0 := Lib.hid ((Below.refl w.heap.size w).alloc (Nat.le_refl _) (.cells #[.int .i64 t.kind, .int .i64 t.num, .string t.name, .slice a t.args.length cap] 28))
    go_enter Try.func79, Try.ntmps79
    go_wp2
    go_loopw [5, 11] (fun sv i wr => ∃ k n : Nat, k ≤ t.args.length ∧ i = .int .i64 k ∧ sv = .int .i64 n ∧ 1 ≤ n ∧ n ≤ 1 + nodesL (t.args.take k) ∧ ((1 + nodesL (t.args.take k) : Int) ≤ most → n = 1 + nodesL (t.args.take k)) ∧ (most < (1 + nodesL (t.args.take k) : Int) → most < n) ∧ Below w.heap.size w wr)
        (fun _ i _ => t.args.length - (intOf i).toNat)
    case atStart => exact ⟨0, 1, Nat.zero_le _, rfl, rfl, by omega, by simp [nodesL_nil], fun _ => by simp [nodesL_nil], fun h => by simp [nodesL_nil] at h; omega, B0.out⟩
    case round =>
      obtain ⟨k, n, hk, rfl, rfl, hn1, hn2, hn3, hn4, hb⟩ := hrel
      have hn5 : n ≤ t.nodes := by have := nodes_take_le t.args k; have := HNE.out; omega
      have H3 := Lib.hid hn3
      have H4 := Lib.hid hn4
      have HB := Lib.hid hb
      have H2 := Lib.hid hn2
      clear hn2 hn3 hn4 hb
      by_cases hlt : k < t.args.length
      · obtain ⟨x, hx⟩ : ∃ x, t.args[k]? = some x := ⟨_, List.getElem?_eq_getElem hlt⟩
        obtain ⟨g, off, cap1, V, hv, hg, hc, hch⟩ := HA.out.parts (by intro e; rw [e] at hlt; simp at hlt)
        simp only [Value.slice.injEq, true_and] at hv
        obtain ⟨rfl, rfl⟩ := hv
        obtain ⟨c0, c1, c2, c3⟩ := hc k x hx
        have d0 := (HB.out.cell (p := ⟨g, off + k * 4, none⟩) hg).trans c0
        have d1 := (HB.out.cell (p := ⟨g, off + k * 4 + 1, none⟩) hg).trans c1
        have d2 := (HB.out.cell (p := ⟨g, off + k * 4 + 2, none⟩) hg).trans c2
        have d3 := (HB.out.cell (p := ⟨g, off + k * 4 + 3, none⟩) hg).trans c3
        obtain ⟨u1, u2, hV⟩ := (hch k x hx).slice
        rw [hV] at d3
        have HC := Lib.hid (hch k x hx)
        rw [hV] at HC
        have HX := Lib.hid hx
        have HNA := Lib.hid (nodes_take_at hx)
        have HNT := Lib.hid (nodes_take hx)
        have hN' : x.nodes < N := by have := nodes_at hx; have := HNE.out; omega
        have hxn : x.nodes ≤ 1099511627777 := by have := nodes_at hx; have := HNE.out; omega
        have hZ' : x.sz ≤ 1099511627776 := by have h1 := sz_at hx; have := HSE.out; omega
        clear hc hch c0 c1 c2 c3 hx hV
        have hbx : Below w.heap.size w (wr.alloc (.cells #[.int .i64 x.kind, .int .i64 x.num, .string x.name, .slice u1 x.args.length u2] 28)) := HB.out.alloc HB.out.size _
        have HBX := Lib.hid hbx
        by_cases hgt : most < (n : Int)
        · go_wp2
          go_ret
          refine ⟨n, rfl, hn1, hn5, fun h => ?_, fun _ => hgt, HBX.out⟩
          have := H2.out
          have := HNE.out
          have := HNA.out
          omega
        · have HCALL := Lib.hid (HI.out x _ (most - n) _ hN' (HC.out.kept hbx) hZ' (by omega) (by omega))
          clear hbx
          go_wp2_with fail
          refine HCALL.out.mono ?_
          rintro e w2 ⟨c, rfl, hc1, hc2, hc3, hc4, hb2⟩
          have HB2 := Lib.hid (HBX.out.trans (hb2.mono HBX.out.size))
          have HC3 := Lib.hid hc3
          have HC4 := Lib.hid hc4
          clear hb2 HCALL hc3 hc4
          go_wp2
          go_roundw
          case rel =>
            have h3 := HC3.out
            have h4 := HC4.out
            have h5 := HNT.out
            have h6 := H2.out
            have h7 := H3.out
            have h8 := H4.out
            exact ⟨k + 1, n + c, by omega, by go_num, by go_num, by omega, by omega, by omega, by omega, HB2.out⟩
          case measure => simp [intOf]; omega
      · go_wp2
        go_ret
        obtain rfl : k = t.args.length := by omega
        have h2 := H2.out
        have h3 := H3.out
        have h4 := H4.out
        rw [List.take_length] at h2 h3 h4
        have h5 := HNE.out
        exact ⟨n, rfl, hn1, hn5, by omega, by omega, HB.out⟩
end Go.Proofs.Ytnmdnajbafpfiaa

namespace Go.Proofs.Ytnmdnajbafpfiaa
open Go.RowKit

def ShapeP (t : Tm) (w : World) (e : Ending) (w' : World) : Prop := ∃ b, e = .returned (.bool b) ∧ (b = true ↔ Good t) ∧ Below w.heap.size w w'

set_option maxHeartbeats 1600000 in
/-- One node, its two parts (if it has the form of a pair) tested by what is known of them. -/
theorem shape_of (k i : Int) (s : ByteArray) (a : Option Addr) (cap : Nat) (l : List Tm) (w : World) (hs : s.size ≤ maxLen) (hl : l.length ≤ 1048576)
    (HP : Hid (k = 4 → i = 0 → s = ⟨#[]⟩ → l.length = 2 → Calls Try.prog 80 #[.agg #[.int .i64 k, .int .i64 i, .string s, .slice a l.length cap]] w (ShapeP (.mk k i s l) w))) :
    Calls Try.prog 80 #[.agg #[.int .i64 k, .int .i64 i, .string s, .slice a l.length cap]] w (ShapeP (.mk k i s l) w) := by
  have hl0 : l = [] ↔ l.length = 0 := List.length_eq_zero_iff.symm
  have HL := Lib.hid hl0
  clear hl0
  have HE : Hid ((⟨#[]⟩ : ByteArray) = ByteArray.empty) := Lib.hid rfl
  generalize hn : l.length = n at hl HL HP ⊢
  have HN := Lib.hid hn
  rcases kind_cases k with rfl | rfl | rfl | rfl | rfl | ⟨k0, k1, k2, k3, k4⟩
  · by_cases h1 : i = 0
    · subst h1
      by_cases h2 : s = ⟨#[]⟩
      · subst h2
        by_cases h0 : n = 0
        · subst h0
          go_enter Try.func80, Try.ntmps80
          go_wp2
          go_ret
          refine ⟨_, rfl, ?_, ?_⟩
          · rw [good_none (t := .mk _ _ _ l) (List.length_eq_zero_iff.1 HN.out)]; have := HL.out; have hE := HE.out; simp [Fit, Tm.kind, Tm.num, Tm.name, Tm.args, *] <;> (try (intros; omega))
          · exact (Below.refl _ _).alloc (Nat.le_refl _) _
        · have h0' : 0 < (n : Int) := by omega
          go_enter Try.func80, Try.ntmps80
          go_wp2
          go_ret
          refine ⟨_, rfl, ?_, ?_⟩
          · refine iff_of_false (by simp) fun hg => ?_; have hf := hg.fit; have := HL.out; have hE := HE.out; simp [Fit, Tm.kind, Tm.num, Tm.name, Tm.args, *] at hf <;> (try omega)
          · exact (Below.refl _ _).alloc (Nat.le_refl _) _
      · have h2x := not_empty h2; have h2y : ¬ s = ByteArray.empty := h2
        go_enter Try.func80, Try.ntmps80
        go_wp2
        go_ret
        refine ⟨_, rfl, ?_, ?_⟩
        · refine iff_of_false (by simp) fun hg => ?_; have hf := hg.fit; have := HL.out; have hE := HE.out; simp [Fit, Tm.kind, Tm.num, Tm.name, Tm.args, *] at hf <;> (try omega)
        · exact (Below.refl _ _).alloc (Nat.le_refl _) _
    · go_enter Try.func80, Try.ntmps80
      go_wp2
      go_ret
      refine ⟨_, rfl, ?_, ?_⟩
      · refine iff_of_false (by simp) fun hg => ?_; have hf := hg.fit; have := HL.out; have hE := HE.out; simp [Fit, Tm.kind, Tm.num, Tm.name, Tm.args, *] at hf <;> (try omega)
      · exact (Below.refl _ _).alloc (Nat.le_refl _) _
  · by_cases h2 : s = ⟨#[]⟩
    · subst h2
      by_cases h0 : n = 0
      · subst h0
        by_cases h3 : 0 ≤ i
        · by_cases h4 : i ≤ 100000
          · go_enter Try.func80, Try.ntmps80
            go_wp2
            go_ret
            refine ⟨_, rfl, ?_, ?_⟩
            · rw [good_none (t := .mk _ _ _ l) (List.length_eq_zero_iff.1 HN.out)]; have := HL.out; have hE := HE.out; simp [Fit, Tm.kind, Tm.num, Tm.name, Tm.args, *] <;> (try (intros; omega))
            · exact (Below.refl _ _).alloc (Nat.le_refl _) _
          · go_enter Try.func80, Try.ntmps80
            go_wp2
            go_ret
            refine ⟨_, rfl, ?_, ?_⟩
            · refine iff_of_false (by simp) fun hg => ?_; have hf := hg.fit; have := HL.out; have hE := HE.out; simp [Fit, Tm.kind, Tm.num, Tm.name, Tm.args, *] at hf <;> (try omega)
            · exact (Below.refl _ _).alloc (Nat.le_refl _) _
        · go_enter Try.func80, Try.ntmps80
          go_wp2
          go_ret
          refine ⟨_, rfl, ?_, ?_⟩
          · refine iff_of_false (by simp) fun hg => ?_; have hf := hg.fit; have := HL.out; have hE := HE.out; simp [Fit, Tm.kind, Tm.num, Tm.name, Tm.args, *] at hf <;> (try omega)
          · exact (Below.refl _ _).alloc (Nat.le_refl _) _
      · have h0' : 0 < (n : Int) := by omega
        go_enter Try.func80, Try.ntmps80
        go_wp2
        go_ret
        refine ⟨_, rfl, ?_, ?_⟩
        · refine iff_of_false (by simp) fun hg => ?_; have hf := hg.fit; have := HL.out; have hE := HE.out; simp [Fit, Tm.kind, Tm.num, Tm.name, Tm.args, *] at hf <;> (try omega)
        · exact (Below.refl _ _).alloc (Nat.le_refl _) _
    · have h2x := not_empty h2; have h2y : ¬ s = ByteArray.empty := h2
      go_enter Try.func80, Try.ntmps80
      go_wp2
      go_ret
      refine ⟨_, rfl, ?_, ?_⟩
      · refine iff_of_false (by simp) fun hg => ?_; have hf := hg.fit; have := HL.out; have hE := HE.out; simp [Fit, Tm.kind, Tm.num, Tm.name, Tm.args, *] at hf <;> (try omega)
      · exact (Below.refl _ _).alloc (Nat.le_refl _) _
  · by_cases h1 : i = 0
    · subst h1
      by_cases h0 : n = 0
      · subst h0
        go_enter Try.func80, Try.ntmps80
        go_wp2_with (first | (go_at_call 56; refine (specIsName_any _ _ hs).mono ?_; rintro e w' ⟨rfl, rfl⟩) | go_in)
        go_ret
        refine ⟨_, rfl, ?_, ?_⟩
        · rw [good_none (t := .mk _ _ _ l) (List.length_eq_zero_iff.1 HN.out)]; have := HL.out; have hE := HE.out; simp [Fit, Tm.kind, Tm.num, Tm.name, Tm.args, *] <;> (try (intros; omega))
        · exact (Below.refl _ _).alloc (Nat.le_refl _) _
      · have h0' : 0 < (n : Int) := by omega
        go_enter Try.func80, Try.ntmps80
        go_wp2
        go_ret
        refine ⟨_, rfl, ?_, ?_⟩
        · refine iff_of_false (by simp) fun hg => ?_; have hf := hg.fit; have := HL.out; have hE := HE.out; simp [Fit, Tm.kind, Tm.num, Tm.name, Tm.args, *] at hf <;> (try omega)
        · exact (Below.refl _ _).alloc (Nat.le_refl _) _
    · go_enter Try.func80, Try.ntmps80
      go_wp2
      go_ret
      refine ⟨_, rfl, ?_, ?_⟩
      · refine iff_of_false (by simp) fun hg => ?_; have hf := hg.fit; have := HL.out; have hE := HE.out; simp [Fit, Tm.kind, Tm.num, Tm.name, Tm.args, *] at hf <;> (try omega)
      · exact (Below.refl _ _).alloc (Nat.le_refl _) _
  · by_cases h2 : s = ⟨#[]⟩
    · subst h2
      by_cases h0 : n = 0
      · subst h0
        by_cases h3 : -1000000000 ≤ i
        · by_cases h4 : i ≤ 1000000000
          · go_enter Try.func80, Try.ntmps80
            go_wp2
            go_ret
            refine ⟨_, rfl, ?_, ?_⟩
            · rw [good_none (t := .mk _ _ _ l) (List.length_eq_zero_iff.1 HN.out)]; have := HL.out; have hE := HE.out; simp [Fit, Tm.kind, Tm.num, Tm.name, Tm.args, *] <;> (try (intros; omega))
            · exact (Below.refl _ _).alloc (Nat.le_refl _) _
          · go_enter Try.func80, Try.ntmps80
            go_wp2
            go_ret
            refine ⟨_, rfl, ?_, ?_⟩
            · refine iff_of_false (by simp) fun hg => ?_; have hf := hg.fit; have := HL.out; have hE := HE.out; simp [Fit, Tm.kind, Tm.num, Tm.name, Tm.args, *] at hf <;> (try omega)
            · exact (Below.refl _ _).alloc (Nat.le_refl _) _
        · go_enter Try.func80, Try.ntmps80
          go_wp2
          go_ret
          refine ⟨_, rfl, ?_, ?_⟩
          · refine iff_of_false (by simp) fun hg => ?_; have hf := hg.fit; have := HL.out; have hE := HE.out; simp [Fit, Tm.kind, Tm.num, Tm.name, Tm.args, *] at hf <;> (try omega)
          · exact (Below.refl _ _).alloc (Nat.le_refl _) _
      · have h0' : 0 < (n : Int) := by omega
        go_enter Try.func80, Try.ntmps80
        go_wp2
        go_ret
        refine ⟨_, rfl, ?_, ?_⟩
        · refine iff_of_false (by simp) fun hg => ?_; have hf := hg.fit; have := HL.out; have hE := HE.out; simp [Fit, Tm.kind, Tm.num, Tm.name, Tm.args, *] at hf <;> (try omega)
        · exact (Below.refl _ _).alloc (Nat.le_refl _) _
    · have h2x := not_empty h2; have h2y : ¬ s = ByteArray.empty := h2
      go_enter Try.func80, Try.ntmps80
      go_wp2
      go_ret
      refine ⟨_, rfl, ?_, ?_⟩
      · refine iff_of_false (by simp) fun hg => ?_; have hf := hg.fit; have := HL.out; have hE := HE.out; simp [Fit, Tm.kind, Tm.num, Tm.name, Tm.args, *] at hf <;> (try omega)
      · exact (Below.refl _ _).alloc (Nat.le_refl _) _
  · by_cases h1 : i = 0
    · subst h1
      by_cases h2 : s = ⟨#[]⟩
      · subst h2
        by_cases h5 : n = 2
        · rw [h5] at HN HP ⊢
          exact HP.out rfl rfl rfl rfl
        · have h5' : ¬ (n : Int) = 2 := by omega
          go_enter Try.func80, Try.ntmps80
          go_wp2
          go_ret
          refine ⟨_, rfl, ?_, ?_⟩
          · refine iff_of_false (by simp) fun hg => ?_; have hf := hg.fit; have := HL.out; have hE := HE.out; simp [Fit, Tm.kind, Tm.num, Tm.name, Tm.args, *] at hf <;> (try omega)
          · exact (Below.refl _ _).alloc (Nat.le_refl _) _
      · have h2x := not_empty h2; have h2y : ¬ s = ByteArray.empty := h2
        go_enter Try.func80, Try.ntmps80
        go_wp2
        go_ret
        refine ⟨_, rfl, ?_, ?_⟩
        · refine iff_of_false (by simp) fun hg => ?_; have hf := hg.fit; have := HL.out; have hE := HE.out; simp [Fit, Tm.kind, Tm.num, Tm.name, Tm.args, *] at hf <;> (try omega)
        · exact (Below.refl _ _).alloc (Nat.le_refl _) _
    · go_enter Try.func80, Try.ntmps80
      go_wp2
      go_ret
      refine ⟨_, rfl, ?_, ?_⟩
      · refine iff_of_false (by simp) fun hg => ?_; have hf := hg.fit; have := HL.out; have hE := HE.out; simp [Fit, Tm.kind, Tm.num, Tm.name, Tm.args, *] at hf <;> (try omega)
      · exact (Below.refl _ _).alloc (Nat.le_refl _) _
  · by_cases h1 : i = 0
    · subst h1
      by_cases h2 : s = ⟨#[]⟩
      · subst h2
        go_enter Try.func80, Try.ntmps80
        go_wp2
        all_goals go_ret
        all_goals exact ⟨_, rfl, iff_of_false (by simp) (fun hg => by have hf := hg.fit; simp [Fit, Tm.kind, Tm.num, Tm.name, Tm.args, *] at hf), (Below.refl _ _).alloc (Nat.le_refl _) _⟩
      · have h2x := not_empty h2; have h2y : ¬ s = ByteArray.empty := h2
        go_enter Try.func80, Try.ntmps80
        go_wp2
        go_ret
        refine ⟨_, rfl, ?_, ?_⟩
        · refine iff_of_false (by simp) fun hg => ?_; have hf := hg.fit; have := HL.out; have hE := HE.out; simp [Fit, Tm.kind, Tm.num, Tm.name, Tm.args, *] at hf <;> (try omega)
        · exact (Below.refl _ _).alloc (Nat.le_refl _) _
    · go_enter Try.func80, Try.ntmps80
      go_wp2
      go_ret
      refine ⟨_, rfl, ?_, ?_⟩
      · refine iff_of_false (by simp) fun hg => ?_; have hf := hg.fit; have := HL.out; have hE := HE.out; simp [Fit, Tm.kind, Tm.num, Tm.name, Tm.args, *] at hf <;> (try omega)
      · exact (Below.refl _ _).alloc (Nat.le_refl _) _
end Go.Proofs.Ytnmdnajbafpfiaa

namespace Go.Proofs.Ytnmdnajbafpfiaa
open Go.RowKit

theorem two_of {l : List Tm} (h : l.length = 2) : ∃ a b, l = [a, b] := by
  match l, h with
  | [a, b], _ => exact ⟨a, b, rfl⟩

set_option maxHeartbeats 1600000 in
theorem shape_any (N : Nat) : ∀ (t : Tm) (V : Value) (w : World), t.nodes < N → ArgsAt w V t.args → t.sz ≤ 1048576 →
    Calls Try.prog 80 #[.agg #[.int .i64 t.kind, .int .i64 t.num, .string t.name, V]] w (ShapeP t w) := by
  induction N with
  | zero => intro t V w hN; omega
  | succ N ih =>
    intro t V w hN hA hZ
    obtain ⟨a, cap, rfl⟩ := hA.slice
    have HA := Lib.hid hA
    have HI := Lib.hid ih
    have HSE := Lib.hid (sz_eq t)
    have hL : t.args.length ≤ 1048576 := by have := length_szL t.args; have := HSE.out; omega
    have hsn : t.name.size ≤ maxLen := by unfold maxLen; have := HSE.out; omega
    have HNE := Lib.hid (nodes_eq t)
    clear hA ih
    have h := shape_of t.kind t.num t.name a cap t.args w hsn hL ?_
    · rw [t.eta] at h; exact h
    refine Lib.hid fun h1 h2 h3 h4 => ?_
    rw [t.eta]
    have hF : Fit t := .inr (.inr (.inr (.inr ⟨h1, h2, h3, h4⟩)))
    obtain ⟨xa, xb, hab⟩ := two_of h4
    have HTW := Lib.hid (good_two hF hab)
    obtain ⟨g, off, cap1, V, hv, hg, hc, hch⟩ := HA.out.parts (by rw [hab]; simp)
    simp only [Value.slice.injEq, true_and] at hv
    obtain ⟨rfl, rfl⟩ := hv
    have hx0 : t.args[0]? = some xa := by rw [hab]; rfl
    have hx1 : t.args[1]? = some xb := by rw [hab]; rfl
    obtain ⟨c0, c1, c2, c3⟩ := hc 0 xa hx0
    obtain ⟨e0, e1, e2, e3⟩ := hc 1 xb hx1
    simp only [Nat.zero_mul, Nat.one_mul, Nat.add_zero] at c0 c1 c2 c3 e0 e1 e2 e3
    obtain ⟨u1, u2, hV⟩ := (hch 0 xa hx0).slice
    obtain ⟨u3, u4, hV'⟩ := (hch 1 xb hx1).slice
    have HC0 := Lib.hid (hch 0 xa hx0)
    have HC1 := Lib.hid (hch 1 xb hx1)
    rw [hV] at c3 HC0
    rw [hV'] at e3 HC1
    have hNa : xa.nodes < N := by have := nodes_at hx0; have := HNE.out; omega
    have hNb : xb.nodes < N := by have := nodes_at hx1; have := HNE.out; omega
    have hZa : xa.sz ≤ 1048576 := by have h1 := sz_at hx0; have := HSE.out; omega
    have hZb : xb.sz ≤ 1048576 := by have h1 := sz_at hx1; have := HSE.out; omega
    rw [h1, h2, h3, h4]
    clear hc hch hV hV' hx0 hx1 hab hF h1 h2 h3 h4 hL hsn
    have B0 := Lib.hid ((Below.refl w.heap.size w).alloc (Nat.le_refl _) (.cells #[.int .i64 4, .int .i64 0, .string ⟨#[]⟩, .slice (some ⟨g, off, none⟩) 2 cap] 28))
    have HK : Hid (∀ W, Below (w.heap.size + 1) (w.alloc (.cells #[.int .i64 4, .int .i64 0, .string ⟨#[]⟩, .slice (some ⟨g, off, none⟩) 2 cap] 28)) W → Below w.heap.size w W ∧ W.heap[w.heap.size]? = some (.cells #[.int .i64 4, .int .i64 0, .string ⟨#[]⟩, .slice (some ⟨g, off, none⟩) 2 cap] 28) ∧
        (W.cell? ⟨g, off + 4, none⟩ = some (.int .i64 xb.kind) ∧ W.cell? ⟨g, off + 4 + 1, none⟩ = some (.int .i64 xb.num) ∧ W.cell? ⟨g, off + 4 + 2, none⟩ = some (.string xb.name) ∧ W.cell? ⟨g, off + 4 + 3, none⟩ = some (.slice u3 xb.args.length u4))) := Lib.hid fun W bW => by
      have hb := B0.out.trans (bW.mono (by omega))
      exact ⟨hb, (bW.block w.heap.size (by omega)).trans (heap_new w _), (hb.cell (p := ⟨g, off + 4, none⟩) hg).trans e0, (hb.cell (p := ⟨g, off + 4 + 1, none⟩) hg).trans e1, (hb.cell (p := ⟨g, off + 4 + 2, none⟩) hg).trans e2, (hb.cell (p := ⟨g, off + 4 + 3, none⟩) hg).trans e3⟩
    have HCALL0 := Lib.hid (HI.out xa _ (w.alloc (.cells #[.int .i64 4, .int .i64 0, .string ⟨#[]⟩, .slice (some ⟨g, off, none⟩) 2 cap] 28)) hNa (HC0.out.kept B0.out) hZa)
    clear e0 e1 e2 e3
    go_enter Try.func80, Try.ntmps80
    go_wp2_with fail
    refine HCALL0.out.mono ?_
    rintro e w1 ⟨b, rfl, hbv, hb⟩
    obtain ⟨hb1, hbox, e0, e1, e2, e3⟩ := HK.out w1 (by simpa using hb)
    obtain ⟨x0, x1, x2, x3, _⟩ := box_cells hbox
    have HB1 := Lib.hid hb1
    have HBV := Lib.hid hbv
    clear hb hbv hbox HCALL0
    cases b with
    | false =>
      clear hb1
      go_wp2
      go_ret
      exact ⟨false, rfl, by rw [HTW.out]; simp; intro h; exact absurd (HBV.out.2 h) (by simp), HB1.out⟩
    | true =>
      have HGA := Lib.hid (HBV.out.1 rfl)
      have HCALL1 := Lib.hid (HI.out xb _ w1 hNb (HC1.out.kept hb1) hZb)
      clear hb1
      go_wp2_with fail
      refine HCALL1.out.mono ?_
      rintro e w2 ⟨b2, rfl, hbv2, hb2⟩
      have HB2 := Lib.hid (HB1.out.trans (hb2.mono HB1.out.size))
      have HBV2 := Lib.hid hbv2
      clear hb2 hbv2
      go_wp2
      go_ret
      exact ⟨b2, rfl, by rw [HTW.out, HBV2.out]; simp [HGA.out], HB2.out⟩

/-- The size of a term in the answers: its nodes if it is valid, else -1. -/
theorem size_ok {t : Tm} (h : Ok t) : sizeOf' t = t.nodes := by rw [sizeOf', if_pos h]
theorem size_not {t : Tm} (h : ¬ Ok t) : sizeOf' t = -1 := by rw [sizeOf', if_neg h]

set_option maxHeartbeats 400000 in
theorem specTermOk_any (t : Tm) (V : Value) (w : World) (hA : ArgsAt w V t.args) (hZ : t.sz ≤ 1048576) :
    Calls Try.prog 47 #[.agg #[.int .i64 t.kind, .int .i64 t.num, .string t.name, V]] w fun e w' => e = .returned (.bool (okB t)) ∧ Below w.heap.size w w' := by
  obtain ⟨a, cap, rfl⟩ := hA.slice
  have B0 := Lib.hid ((Below.refl w.heap.size w).alloc (Nat.le_refl _) (.cells #[.int .i64 t.kind, .int .i64 t.num, .string t.name, .slice a t.args.length cap] 28))
  have HC := Lib.hid (count_any (t.nodes + 1) t _ 5000 (w.alloc (.cells #[.int .i64 t.kind, .int .i64 t.num, .string t.name, .slice a t.args.length cap] 28)) (by omega) (hA.kept B0.out) (by omega) (by omega) (by omega))
  have HA := Lib.hid hA
  have hnz : t.nodes ≤ 1048577 := by have := nodes_sz t; omega
  clear hA
  go_enter Try.func47, Try.ntmps47
  go_wp2_with fail
  refine HC.out.mono ?_
  rintro e w1 ⟨c, rfl, hc1, hc2, hc3, hc4, hb⟩
  have hbox := (hb.block w.heap.size (by simp)).trans (heap_new w _)
  obtain ⟨x0, x1, x2, x3, _⟩ := box_cells hbox
  have HB := Lib.hid (B0.out.trans (hb.mono (by simp)))
  have H3 := Lib.hid hc3
  have H4 := Lib.hid hc4
  clear hb hbox hc3 hc4 HC
  by_cases hle : (c : Int) ≤ 5000
  · have HS := Lib.hid (shape_any (t.nodes + 1) t _ w1 (by omega) (HA.out.kept HB.out) hZ)
    go_wp2_with fail
    refine HS.out.mono ?_
    rintro e w2 ⟨b, rfl, hbv, hb2⟩
    have HB2 := Lib.hid (HB.out.trans (hb2.mono HB.out.size))
    have HBV := Lib.hid hbv
    clear hb2 hbv HS
    go_wp2
    go_ret
    refine ⟨?_, HB2.out⟩
    have h4 := H4.out
    have : b = okB t := by
      rw [Bool.eq_iff_iff, HBV.out, okB_true]
      exact ⟨fun h => ⟨by omega, h⟩, fun h => h.2⟩
    rw [this]
    rfl
  · go_wp2
    go_ret
    refine ⟨?_, HB.out⟩
    have h3 := H3.out
    have : okB t = false := by
      rw [okB_false]
      intro h
      have := h.1
      omega
    rw [this]
    rfl

set_option maxHeartbeats 400000 in
theorem implTermSize_any (t : Tm) (V : Value) (w : World) (hA : ArgsAt w V t.args) (hZ : t.sz ≤ 1048576) :
    Calls Try.prog 83 #[.agg #[.int .i64 t.kind, .int .i64 t.num, .string t.name, V]] w fun e w' => e = .returned (.int .i64 (sizeOf' t)) ∧ Below w.heap.size w w' := by
  obtain ⟨a, cap, rfl⟩ := hA.slice
  have B0 := Lib.hid ((Below.refl w.heap.size w).alloc (Nat.le_refl _) (.cells #[.int .i64 t.kind, .int .i64 t.num, .string t.name, .slice a t.args.length cap] 28))
  have HS := Lib.hid (sizeWithin_any (t.nodes + 1) t _ 5000 (w.alloc (.cells #[.int .i64 t.kind, .int .i64 t.num, .string t.name, .slice a t.args.length cap] 28)) (by omega) (hA.kept B0.out) (by omega) (by omega) (by omega))
  clear hA
  go_enter Try.func83, Try.ntmps83
  go_wp2_with fail
  refine HS.out.mono ?_
  rintro e w1 hP
  rcases hP.cases with ⟨rfl, hg, hn, hb⟩ | ⟨rfl, hg, hb⟩
  · have HB := Lib.hid (B0.out.trans (hb.mono (by simp)))
    have HG := Lib.hid hg
    clear hb hP hg HS
    go_wp2
    go_ret
    exact ⟨by rw [size_ok ⟨by omega, HG.out⟩]; rfl, HB.out⟩
  · have HB := Lib.hid (B0.out.trans (hb.mono (by simp)))
    have HG := Lib.hid hg
    clear hb hP hg HS
    go_wp2
    go_ret
    exact ⟨by rw [size_not (fun h => HG.out ⟨h.2, by have := h.1; omega⟩)]; rfl, HB.out⟩

set_option maxHeartbeats 400000 in
theorem implTermOk_any (t : Tm) (V : Value) (w : World) (hA : ArgsAt w V t.args) (hZ : t.sz ≤ 1048576) :
    Calls Try.prog 61 #[.agg #[.int .i64 t.kind, .int .i64 t.num, .string t.name, V]] w fun e w' => e = .returned (.bool (okB t)) ∧ Below w.heap.size w w' := by
  obtain ⟨a, cap, rfl⟩ := hA.slice
  have B0 := Lib.hid ((Below.refl w.heap.size w).alloc (Nat.le_refl _) (.cells #[.int .i64 t.kind, .int .i64 t.num, .string t.name, .slice a t.args.length cap] 28))
  have HS := Lib.hid (implTermSize_any t _ (w.alloc (.cells #[.int .i64 t.kind, .int .i64 t.num, .string t.name, .slice a t.args.length cap] 28)) (hA.kept B0.out) hZ)
  clear hA
  have hnp := nodes_pos t
  go_enter Try.func61, Try.ntmps61
  go_wp2_with fail
  refine HS.out.mono ?_
  rintro e w1 ⟨rfl, hb⟩
  have HB := Lib.hid (B0.out.trans (hb.mono (by simp)))
  clear hb HS
  cases hok : okB t with
  | false =>
    rw [size_not (okB_false.1 hok)]
    have HOK := Lib.hid hok
    clear hok
    go_wp2
    go_ret
    exact ⟨by rw [HOK.out]; rfl, HB.out⟩
  | true =>
    rw [size_ok (okB_true.1 hok)]
    have hn5 := (okB_true.1 hok).1
    have HOK := Lib.hid hok
    have he : decide (0 < t.nodes) = true := by simp; omega
    have HE := Lib.hid he
    clear hok he
    go_wp2
    go_ret
    exact ⟨by rw [HOK.out, HE.out]; rfl, HB.out⟩
end Go.Proofs.Ytnmdnajbafpfiaa

namespace Go.Proofs.Ytnmdnajbafpfiaa
open Go.RowKit

theorem szTerm_any (t : Tm) (V : Value) (left : Int) (w : World) (hA : ArgsAt w V t.args) (hf : t.fine) (h0 : 0 ≤ left) (h1 : left ≤ 1048576) :
    Calls Try.prog 30 #[.agg #[.int .i64 t.kind, .int .i64 t.num, .string t.name, V], .int .i64 left] w (SzP t.sz left w) := by
  rw [fine_eq] at hf
  rw [sz_eq]
  exact szTerm_of t.kind t.num t.name V (szL t.args) left w hf.1 h0 h1 (Lib.hid fun W L hW l0 l1 => szTerms_any (nodesL t.args) t.args V L W (Nat.le_refl _) (hA.kept hW) hf.2.2 hf.2.1 l0 l1)
theorem szTermL_any (l : List Tm) (V : Value) (left : Int) (w : World) (hA : ArgsAt w V l) (hf : fineL l) (hl : l.length ≤ maxLen) (h0 : 0 ≤ left) (h1 : left ≤ 1048576) :
    Calls Try.prog 59 #[V, .int .i64 left] w (SzP (szL l) left w) := szTerms_any (nodesL l) l V left w (Nat.le_refl _) hA hf hl h0 h1
theorem toTermL_any (l : List Tm) (V : Value) (w : World) (hA : ArgsAt w V l) (hZ : szL l ≤ 1048576) :
    Calls Try.prog 60 #[V] w fun e w' => ∃ u, e = .returned u ∧ NewTree l w u w' :=
  toTerms_any (nodesL l + 1) l V w (Nat.lt_succ_self _) hA (by have := length_szL l; omega) hZ
theorem toTerm_any (t : Tm) (V : Value) (w : World) (hA : ArgsAt w V t.args) (hZ : t.sz ≤ 1048576) :
    Calls Try.prog 31 #[.agg #[.int .i64 t.kind, .int .i64 t.num, .string t.name, V]] w fun e w' => ∃ u, e = .returned (.agg #[.int .i64 t.kind, .int .i64 t.num, .string t.name, u]) ∧ NewTree t.args w u w' :=
  toTerm_of t.kind t.num t.name V t.args w (Lib.hid fun W hW => toTermL_any t.args V W (hA.kept hW) (by have := sz_eq t; omega))
theorem eqTermL_any (l : List Tm) (V V' : Value) (w : World) (hA : ArgsAt w V l) (hA' : ArgsAt w V' l) (hZ : szL l ≤ 1048576) :
    Calls Try.prog 63 #[V, V'] w (Yes w) := eqTerms_any (nodesL l + 1) l V V' w (Nat.lt_succ_self _) hA hA' hZ
theorem eqTerm_any (t : Tm) (V V' : Value) (w : World) (hA : ArgsAt w V t.args) (hA' : ArgsAt w V' t.args) (hZ : t.sz ≤ 1048576) :
    Calls Try.prog 33 #[.agg #[.int .i64 t.kind, .int .i64 t.num, .string t.name, V], .agg #[.int .i64 t.kind, .int .i64 t.num, .string t.name, V']] w (Yes w) :=
  eqTerm_of t.kind t.num t.name V V' w (Lib.hid fun W hW => eqTermL_any t.args V V' W (hA.kept hW) (hA'.kept hW) (by have := sz_eq t; omega))

/-- What a box of four cells, laid in a world, holds in every world behind it. -/
def BoxIn (w : World) (x0 x1 x2 x3 : Value) (e : TypeId) : Prop := ∀ W, Below (w.heap.size + 1) (w.alloc (.cells #[x0, x1, x2, x3] e)) W →
  Below w.heap.size w W ∧ W.cell? ⟨w.heap.size, 0, none⟩ = some x0 ∧ W.cell? ⟨w.heap.size, 1, none⟩ = some x1 ∧ W.cell? ⟨w.heap.size, 2, none⟩ = some x2 ∧ W.cell? ⟨w.heap.size, 3, none⟩ = some x3 ∧ ∀ j, W.frozen? ⟨w.heap.size, j, none⟩ = false
theorem boxIn (w : World) (x0 x1 x2 x3 : Value) (e : TypeId) : BoxIn w x0 x1 x2 x3 e := fun W hW => by
  have h := (hW.block w.heap.size (by omega)).trans (heap_new w _)
  obtain ⟨c0, c1, c2, c3, f⟩ := box_cells h
  exact ⟨((Below.refl _ _).alloc (Nat.le_refl _) _).trans (hW.mono (by omega)), c0, c1, c2, c3, f⟩
end Go.Proofs.Ytnmdnajbafpfiaa

namespace Go.Proofs.Ytnmdnajbafpfiaa
open Go.RowKit
set_option linter.unusedVariables false

theorem belowOn {B : Nat} {w w1 w2 : World} (h : Below B w w1) (hB : B ≤ w.heap.size) (hb : Below w1.heap.size w1 w2) : Below B w w2 := h.trans (hb.mono (Nat.le_trans hB h.size))

def Stays (lo hi : Nat) (P : World → Prop) : Prop := ∀ W W', P W → hi ≤ W.heap.size → (∀ k, lo ≤ k → k < hi → W'.heap[k]? = W.heap[k]?) → W.heap.size ≤ W'.heap.size → P W'
structure At (w : World) (lo hi : Nat) (P : World → Prop) : Prop where
  now : P w
  stays : Stays lo hi P
  le : hi ≤ w.heap.size
theorem At.read {w w' : World} {lo hi : Nat} {P : World → Prop} (h : At w lo hi P) (hb : Below w.heap.size w w') : At w' lo hi P :=
  ⟨h.stays w w' h.now h.le (fun k _ hk => hb.block k (Nat.lt_of_lt_of_le hk h.le)) hb.size, h.stays, Nat.le_trans h.le hb.size⟩
theorem At.only {w w' : World} {lo hi a b : Nat} {P : World → Prop} (h : At w lo hi P) (ho : Only (iv a b) w w') (hd : hi ≤ a ∨ b ≤ lo) : At w' lo hi P :=
  ⟨h.stays w w' h.now h.le (fun k h1 h2 => ho.block k (Nat.lt_of_lt_of_le h2 h.le) fun hs => by have := hs.1; have := hs.2; omega) ho.size, h.stays, Nat.le_trans h.le ho.size⟩
theorem At.of_below {w w' : World} {B lo hi : Nat} {P : World → Prop} (h : At w lo hi P) (hb : Below B w w') (hB : hi ≤ B) : At w' lo hi P :=
  ⟨h.stays w w' h.now h.le (fun k _ h2 => hb.block k (by omega)) hb.size, h.stays, Nat.le_trans h.le hb.size⟩

def BoxP (b : Nat) (xs : Array Value) (e : TypeId) (W : World) : Prop := W.heap[b]? = some (.cells xs e)
theorem stays_box (b : Nat) (xs : Array Value) (e : TypeId) : Stays b (b + 1) (BoxP b xs e) := fun W W' h _ hk _ => (hk b (Nat.le_refl _) (Nat.lt_succ_self _)).trans h
theorem at_box (w : World) (xs : Array Value) (e : TypeId) : At (w.alloc (.cells xs e)) w.heap.size (w.heap.size + 1) (BoxP w.heap.size xs e) := ⟨heap_new w _, stays_box _ _ _, by simp⟩
theorem at_box_of (w : World) (xs : Array Value) (e : TypeId) (n : Nat) (hn : w.heap.size = n) : At (w.alloc (.cells xs e)) n (n + 1) (BoxP n xs e) := by subst hn; exact at_box w xs e
theorem At.cells {w : World} {lo hi b : Nat} {e : TypeId} {x0 x1 x2 x3 : Value} (h : At w lo hi (BoxP b #[x0, x1, x2, x3] e)) :
    w.cell? ⟨b, 0, none⟩ = some x0 ∧ w.cell? ⟨b, 1, none⟩ = some x1 ∧ w.cell? ⟨b, 2, none⟩ = some x2 ∧ w.cell? ⟨b, 3, none⟩ = some x3 := by
  obtain ⟨h0, h1, h2, h3, _⟩ := box_cells h.now
  exact ⟨h0, h1, h2, h3⟩

def ArgsP (V : Value) (l : List Tm) (W : World) : Prop := ArgsAt W V l
theorem argsAt_part {w : World} {v : Value} {l : List Tm} (h : ArgsAt w v l) : Stays 0 w.heap.size (ArgsP v l) → At w 0 w.heap.size (ArgsP v l) := fun hs => ⟨h, hs, Nat.le_refl _⟩
/-- A list of arguments, seen at the world in which it was read first, holds as long as that world's blocks stay. -/
def ArgsFrom (w : World) (V : Value) (l : List Tm) (W : World) : Prop := ArgsAt W V l ∧ ∀ k, k < w.heap.size → W.heap[k]? = w.heap[k]?
theorem at_args {w : World} {V : Value} {l : List Tm} (h : ArgsAt w V l) : At w 0 w.heap.size (ArgsFrom w V l) :=
  ⟨⟨h, fun _ _ => rfl⟩, fun W W' hP hle hk hs => by
    have e : ∀ k, k < w.heap.size → W'.heap[k]? = w.heap[k]? := fun k hlt => (hk k (Nat.zero_le _) hlt).trans (hP.2 k hlt)
    exact ⟨h.keep (Nat.le_trans hle hs) e, e⟩, Nat.le_refl _⟩
def OwnP (e : TypeId) (lo hi : Nat) (V : Value) (l : List Tm) (W : World) : Prop := Own W e (iv lo hi) V l
theorem stays_own (e : TypeId) (lo hi : Nat) (V : Value) (l : List Tm) : Stays lo hi (OwnP e lo hi V l) := fun _ _ h _ hk _ => Own.frame h fun k hs _ => hk k hs.1 hs.2
theorem at_own {w : World} {e : TypeId} {lo hi : Nat} {V : Value} {l : List Tm} (h : Own w e (iv lo hi) V l) (hl : hi ≤ w.heap.size) : At w lo hi (OwnP e lo hi V l) := ⟨h, stays_own e lo hi V l, hl⟩
theorem NewTree.at {l : List Tm} {w w' : World} {u : Value} (h : NewTree l w u w') : At w' w.heap.size w'.heap.size (OwnP 28 w.heap.size w'.heap.size u l) := at_own h.1 (Nat.le_refl _)
class HasArgs (P : World → Prop) (V : outParam Value) (l : outParam (List Tm)) : Prop where
  get : ∀ w, P w → ArgsAt w V l
instance (e : TypeId) (lo hi : Nat) (V : Value) (l : List Tm) : HasArgs (OwnP e lo hi V l) V l := ⟨fun _ h => Own.argsAt h⟩
instance (w0 : World) (V : Value) (l : List Tm) : HasArgs (ArgsFrom w0 V l) V l := ⟨fun _ h => h.1⟩
theorem At.argsAt {P : World → Prop} {V : Value} {l : List Tm} [c : HasArgs P V l] {w : World} {lo hi : Nat} (h : At w lo hi P) : ArgsAt w V l := c.get w h.now
/-- One element of a list of arguments: its cells in every later world, its own arguments. -/
theorem ArgsAt.elem {w : World} {a : Option Addr} {n cap : Nat} {l : List Tm} (h : ArgsAt w (.slice a n cap) l) {k : Nat} {x : Tm} (hx : l[k]? = some x) :
    ∃ g off u1 u2, a = some ⟨g, off, none⟩ ∧ g < w.heap.size ∧ n = l.length ∧
      (∀ W, Below w.heap.size w W → W.cell? ⟨g, off + k * 4, none⟩ = some (.int .i64 x.kind) ∧ W.cell? ⟨g, off + k * 4 + 1, none⟩ = some (.int .i64 x.num) ∧ W.cell? ⟨g, off + k * 4 + 2, none⟩ = some (.string x.name) ∧ W.cell? ⟨g, off + k * 4 + 3, none⟩ = some (.slice u1 x.args.length u2)) ∧
      ArgsAt w (.slice u1 x.args.length u2) x.args := by
  obtain ⟨g, off, cap1, V, hv, hg, hc, hch⟩ := h.parts (by intro e; rw [e] at hx; simp at hx)
  simp only [Value.slice.injEq] at hv
  obtain ⟨rfl, rfl, rfl⟩ := hv
  obtain ⟨c0, c1, c2, c3⟩ := hc k x hx
  obtain ⟨u1, u2, hV⟩ := (hch k x hx).slice
  refine ⟨g, off, u1, u2, rfl, hg, rfl, fun W hW => ⟨(hW.cell (p := ⟨g, off + k * 4, none⟩) hg).trans c0, (hW.cell (p := ⟨g, off + k * 4 + 1, none⟩) hg).trans c1, (hW.cell (p := ⟨g, off + k * 4 + 2, none⟩) hg).trans c2, ?_⟩, by have := hch k x hx; rwa [hV] at this⟩
  rw [← hV]
  exact (hW.cell (p := ⟨g, off + k * 4 + 3, none⟩) hg).trans c3

end Go.Proofs.Ytnmdnajbafpfiaa

