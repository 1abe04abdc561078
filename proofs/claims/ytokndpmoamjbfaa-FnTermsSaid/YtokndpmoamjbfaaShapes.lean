/-
  The contracts of the model's test of a term, over all terms: l02Shape, TermOk, TermSize; and of the program's: TermSize, TermOk.
-/
import Derived.Test.YtokndpmoamjbfaaShape
import Derived.Test.YtokndpmoamjbfaaSize
namespace Go.Proofs.Ytokndpmoamjbfaa
open Go.RowKit

theorem two_of {l : List Tm} (h : l.length = 2) : ∃ a b, l = [a, b] := by
  match l, h with
  | [a, b], _ => exact ⟨a, b, rfl⟩

/-- The size of a term in the answers: its nodes if it is valid, else -1. -/
theorem size_ok {t : Tm} (h : Ok t) : sizeOf' t = t.nodes := by rw [sizeOf', if_pos h]
theorem size_not {t : Tm} (h : ¬ Ok t) : sizeOf' t = -1 := by rw [sizeOf', if_neg h]

set_option maxHeartbeats 400000 in
theorem implTermSize_any (t : Tm) (V : Value) (w : World) (hA : ArgsAt w V t.args) (hZ : t.sz ≤ 1048576) :
    Calls Try.prog 8 #[.agg #[.int .i64 t.kind, .int .i64 t.num, .string t.name, V]] w fun e w' => e = .returned (.int .i64 (sizeOf' t)) ∧ Below w.heap.size w w' := by
  obtain ⟨a, cap, rfl⟩ := hA.slice
  have B0 := Lib.hid ((Below.refl w.heap.size w).alloc (Nat.le_refl _) (.cells #[.int .i64 t.kind, .int .i64 t.num, .string t.name, .slice a t.args.length cap] 25))
  have HS := Lib.hid (sizeWithin_any (t.nodes + 1) t _ 5000 (w.alloc (.cells #[.int .i64 t.kind, .int .i64 t.num, .string t.name, .slice a t.args.length cap] 25)) (by omega) (hA.kept B0.out) (by omega) (by omega) (by omega))
  clear hA
  go_enter Try.func8, Try.ntmps8
  go_wp2_with fail
  refine HS.out.mono ?_
  rintro e w1 hP
  rcases hP.cases with ⟨rfl, hg, hn, hb⟩ | ⟨rfl, hg, hb⟩
  · have HB := Lib.hid (B0.out.trans (hb.mono (by simp)))
    have HG := Lib.hid hg
    clear hb hP hg HS
    go_wp2
    go_ret
    exact ⟨by rw [size_ok ⟨by omega, HG.out⟩]; rfl, HB.out⟩
  · have HB := Lib.hid (B0.out.trans (hb.mono (by simp)))
    have HG := Lib.hid hg
    clear hb hP hg HS
    go_wp2
    go_ret
    exact ⟨by rw [size_not (fun h => HG.out ⟨h.2, by have := h.1; omega⟩)]; rfl, HB.out⟩

set_option maxHeartbeats 400000 in
theorem implTermOk_any (t : Tm) (V : Value) (w : World) (hA : ArgsAt w V t.args) (hZ : t.sz ≤ 1048576) :
    Calls Try.prog 14 #[.agg #[.int .i64 t.kind, .int .i64 t.num, .string t.name, V]] w fun e w' => e = .returned (.bool (okB t)) ∧ Below w.heap.size w w' := by
  obtain ⟨a, cap, rfl⟩ := hA.slice
  have B0 := Lib.hid ((Below.refl w.heap.size w).alloc (Nat.le_refl _) (.cells #[.int .i64 t.kind, .int .i64 t.num, .string t.name, .slice a t.args.length cap] 25))
  have HS := Lib.hid (implTermSize_any t _ (w.alloc (.cells #[.int .i64 t.kind, .int .i64 t.num, .string t.name, .slice a t.args.length cap] 25)) (hA.kept B0.out) hZ)
  clear hA
  have hnp := nodes_pos t
  go_enter Try.func14, Try.ntmps14
  go_wp2_with fail
  refine HS.out.mono ?_
  rintro e w1 ⟨rfl, hb⟩
  have HB := Lib.hid (B0.out.trans (hb.mono (by simp)))
  clear hb HS
  cases hok : okB t with
  | false =>
    rw [size_not (okB_false.1 hok)]
    have HOK := Lib.hid hok
    clear hok
    go_wp2
    go_ret
    exact ⟨by rw [HOK.out]; rfl, HB.out⟩
  | true =>
    rw [size_ok (okB_true.1 hok)]
    have hn5 := (okB_true.1 hok).1
    have HOK := Lib.hid hok
    have he : decide (0 < t.nodes) = true := by simp; omega
    have HE := Lib.hid he
    clear hok he
    go_wp2
    go_ret
    exact ⟨by rw [HOK.out, HE.out]; rfl, HB.out⟩
end Go.Proofs.Ytokndpmoamjbfaa

