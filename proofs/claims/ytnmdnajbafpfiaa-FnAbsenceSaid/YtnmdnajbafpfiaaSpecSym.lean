/-
  Whether a symbol occurs in a term: plain; the model's l10Contains and ContainsSymbol. (Written by wip/tools/gen_sym.py.)
-/
import Derived.Test.YtnmdnajbafpfiaaCmps
namespace Go.Proofs.Ytnmdnajbafpfiaa
open Go.RowKit
set_option linter.unusedVariables false
set_option linter.unusedSimpArgs false

mutual
def Tm.sy (s : ByteArray) : Tm → Nat | .mk k _ n l => (if k = 2 ∧ n = s then 1 else 0) + syL s l
def syL (s : ByteArray) : List Tm → Nat | [] => 0 | t :: l => t.sy s + syL s l
end
theorem sy_eq (s : ByteArray) (t : Tm) : t.sy s = (if t.kind = 2 ∧ t.name = s then 1 else 0) + syL s t.args := by cases t; rw [Tm.sy]; rfl
theorem syL_nil (s : ByteArray) : syL s [] = 0 := by rw [syL]
theorem syL_cons (s : ByteArray) (t : Tm) (l : List Tm) : syL s (t :: l) = t.sy s + syL s l := by rw [syL]
theorem syL_append (s : ByteArray) (a b : List Tm) : syL s (a ++ b) = syL s a + syL s b := by
  induction a with
  | nil => simp [syL]
  | cons t l ih => simp only [List.cons_append, syL, ih]; omega
theorem sy_take (s : ByteArray) {l : List Tm} {j : Nat} {t : Tm} (h : l[j]? = some t) : syL s (l.take (j + 1)) = syL s (l.take j) + t.sy s := by
  rw [take_snoc h, syL_append]; simp [syL]
theorem sy_take_le (s : ByteArray) (l : List Tm) (j : Nat) : syL s (l.take j) ≤ syL s l := by
  conv => rhs; rw [← List.take_append_drop j l]
  rw [syL_append]; omega
/-- The symbol occurs in the term. -/
def syB (t : Tm) (s : ByteArray) : Bool := decide (0 < t.sy s)
noncomputable def csB (t : Tm) (s : ByteArray) : Bool := okB t && syB t s

set_option maxHeartbeats 1600000 in
theorem contains_any (N : Nat) : ∀ (t : Tm) (V : Value) (s : ByteArray) (w : World), t.nodes < N → ArgsAt w V t.args → t.sz ≤ 1048576 → s.size ≤ maxLen →
    Calls Try.prog 48 #[.agg #[.int .i64 t.kind, .int .i64 t.num, .string t.name, V], .string s] w fun e w' => e = .returned (.bool (syB t s)) ∧ Below w.heap.size w w' := by
  induction N with
  | zero => intro t V s w hN; omega
  | succ N ih =>
    intro t V s w hN hA hZ hS
    obtain ⟨a, cap, rfl⟩ := hA.slice
    have HA := Lib.hid hA
    have HI := Lib.hid ih
    have HS := Lib.hid hS
    have HSE := Lib.hid (sz_eq t)
    have hL : t.args.length ≤ 1048576 := by have := length_szL t.args; have := HSE.out; omega
    have HNE := Lib.hid (nodes_eq t)
    have HOE := Lib.hid (sy_eq s t)
    clear hA ih hS
    have B0 := Lib.hid ((Below.refl w.heap.size w).alloc (Nat.le_refl _) (.cells #[.int .i64 t.kind, .int .i64 t.num, .string t.name, .slice a t.args.length cap] 28))
    go_enter Try.func48, Try.ntmps48
    go_wp2
    go_loopw [10] (fun i wr => ∃ k : Nat, k ≤ t.args.length ∧ i = .int .i64 k ∧ Hid (syL s (t.args.take k) = 0) ∧ Below (w.heap.size + 1) (w.alloc (.cells #[.int .i64 t.kind, .int .i64 t.num, .string t.name, .slice a t.args.length cap] 28)) wr)
        (fun i _ => t.args.length - (intOf i).toNat)
    case atStart => exact ⟨0, Nat.zero_le _, rfl, Lib.hid (by simp [syL_nil]), Below.refl _ _⟩
    case round =>
      obtain ⟨k, hk, rfl, HNN, hq⟩ := hrel
      have h1 := (hq.block w.heap.size (by simp)).trans (heap_new w _)
      obtain ⟨b0, b1, b2, b3, bf⟩ := box_cells h1
      have HB := Lib.hid (B0.out.trans (hq.mono (by simp)))
      have HQ := Lib.hid hq
      clear hq h1
      by_cases hlt : k < t.args.length
      · obtain ⟨x, hx⟩ : ∃ x, t.args[k]? = some x := ⟨_, List.getElem?_eq_getElem hlt⟩
        obtain ⟨g, off, u1, u2, rfl, hg, _, hc, hch⟩ := HA.out.elem hx
        obtain ⟨d0, d1, d2, d3⟩ := hc _ HB.out
        have HC := Lib.hid hch
        have HOT := Lib.hid (sy_take s hx)
        have hN' : x.nodes < N := by have := nodes_at hx; have := HNE.out; omega
        have hZ' : x.sz ≤ 1048576 := by have h1 := sz_at hx; have := HSE.out; omega
        have HX := Lib.hid hx
        clear hc hch hx
        have hbx : Below w.heap.size w (wr.alloc (.cells #[.int .i64 x.kind, .int .i64 x.num, .string x.name, .slice u1 x.args.length u2] 28)) := HB.out.alloc HB.out.size _
        have HBX := Lib.hid hbx
        have HQX := Lib.hid (HQ.out.alloc (o := (.cells #[.int .i64 x.kind, .int .i64 x.num, .string x.name, .slice u1 x.args.length u2] 28)) (by have := HQ.out.size; simpa using this))
        have HCALL := Lib.hid (HI.out x _ s _ hN' (HC.out.kept hbx) hZ' HS.out)
        clear hbx b0 b1 b2 b3 bf
        go_wp2_with fail
        refine HCALL.out.mono ?_
        rintro e w2 ⟨rfl, hb2⟩
        have HB2 := Lib.hid (HBX.out.trans (hb2.mono HBX.out.size))
        have HQ2 := Lib.hid (belowOn HQX.out (by simp) hb2)
        clear hb2 HCALL
        cases hpos : syB x s with
        | true =>
          have HP := Lib.hid (of_decide_eq_true hpos)
          clear hpos
          go_wp2
          go_ret
          refine ⟨?_, HB2.out⟩
          have h1 : 0 < t.sy s := by
            have h3 := HP.out
            have h4 := HOE.out
            have h5 := sy_take_le s t.args (k + 1)
            have h6 := HOT.out
            omega
          rw [syB, decide_eq_true h1]
          rfl
        | false =>
          have HP := Lib.hid (of_decide_eq_false hpos)
          clear hpos
          go_wp2
          go_roundw
          case rel => exact ⟨k + 1, by omega, by go_num, Lib.hid (by rw [HOT.out, HNN.out]; have := HP.out; omega), HQ2.out⟩
          case measure => simp [intOf]; omega
      · obtain rfl : k = t.args.length := by omega
        have HZ0 : Hid (syL s t.args = 0) := Lib.hid (by have h0 := HNN.out; rw [List.take_length] at h0; exact h0)
        by_cases h1 : t.kind = 2
        · have k1 : (t.kind == 2) = true := by rw [beq_iff_eq]; exact h1
          have HK := Lib.hid h1
          clear h1
          by_cases h2 : t.name = s
          · have HV := Lib.hid h2
            have k2 : (t.name.toList == s.toList) = true := by rw [h2]; exact beq_self_eq_true _
            clear h2
            go_wp2
            go_ret
            refine ⟨?_, HB.out⟩
            have h3 : 0 < t.sy s := by rw [HOE.out, if_pos ⟨HK.out, HV.out⟩]; omega
            rw [syB, decide_eq_true h3]
            first | rfl | simp [HV.out]
          · have HV := Lib.hid h2
            have k2 : (t.name.toList == s.toList) = false := by rw [beq_eq_false_iff_ne]; exact fun h => h2 (toList_inj h)
            clear h2
            go_wp2
            go_ret
            refine ⟨?_, HB.out⟩
            have h3 : ¬ 0 < t.sy s := by rw [HOE.out, if_neg (fun h => HV.out h.2), HZ0.out]; omega
            rw [syB, decide_eq_false h3]
            first | rfl | simp [HV.out]
        · have HV := Lib.hid h1
          have k1 : (t.kind == 2) = false := by rw [beq_eq_false_iff_ne]; exact h1
          clear h1
          go_wp2
          go_ret
          refine ⟨?_, HB.out⟩
          have h3 : ¬ 0 < t.sy s := by rw [HOE.out, if_neg (fun h => HV.out h.1), HZ0.out]; omega
          rw [syB, decide_eq_false h3]
          rfl

set_option maxHeartbeats 400000 in
theorem specContainsSymbol_any (t : Tm) (V : Value) (s : ByteArray) (w : World) (hA : ArgsAt w V t.args) (hZ : t.sz ≤ 1048576) (hS : s.size ≤ maxLen) :
    Calls Try.prog 18 #[.agg #[.int .i64 t.kind, .int .i64 t.num, .string t.name, V], .string s] w fun e w' => e = .returned (.bool (csB t s)) ∧ Below w.heap.size w w' := by
  obtain ⟨a, cap, rfl⟩ := hA.slice
  have B0 := Lib.hid ((Below.refl w.heap.size w).alloc (Nat.le_refl _) (.cells #[.int .i64 t.kind, .int .i64 t.num, .string t.name, .slice a t.args.length cap] 28))
  have HO := Lib.hid (specTermOk_any t _ (w.alloc (.cells #[.int .i64 t.kind, .int .i64 t.num, .string t.name, .slice a t.args.length cap] 28)) (hA.kept B0.out) hZ)
  have HA := Lib.hid hA
  have HS := Lib.hid hS
  clear hA hS
  go_enter Try.func18, Try.ntmps18
  go_wp2_with fail
  refine HO.out.mono ?_
  rintro e w1 ⟨rfl, hb⟩
  have hbox := (hb.block w.heap.size (by simp)).trans (heap_new w _)
  obtain ⟨x0, x1, x2, x3, _⟩ := box_cells hbox
  have HB := Lib.hid (B0.out.trans (hb.mono (by simp)))
  clear hb hbox HO
  cases hok : okB t with
  | false =>
    have HOK := Lib.hid hok
    clear hok
    go_wp2
    go_ret
    exact ⟨by rw [csB, HOK.out]; rfl, HB.out⟩
  | true =>
    have HOK := Lib.hid hok
    clear hok
    have HC := Lib.hid (contains_any (t.nodes + 1) t _ s w1 (by omega) (HA.out.kept HB.out) hZ HS.out)
    go_wp2_with fail
    refine HC.out.mono ?_
    rintro e w2 ⟨rfl, hb2⟩
    have HB2 := Lib.hid (HB.out.trans (hb2.mono HB.out.size))
    clear hb2 HC
    go_wp2
    go_ret
    exact ⟨by rw [csB, HOK.out]; rfl, HB2.out⟩
end Go.Proofs.Ytnmdnajbafpfiaa

