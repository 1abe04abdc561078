/-
  The program's head, tail, isPair of a term: their contracts.
-/
import Derived.Test.YtokndpmoamjbfaaAt
namespace Go.Proofs.Ytokndpmoamjbfaa
open Go.RowKit
set_option linter.unusedVariables false
set_option linter.unusedSimpArgs false

set_option maxHeartbeats 400000 in
theorem isPair_any (k i : Int) (s : ByteArray) (V : Value) (w : World) :
    Calls Try.prog 23 #[.agg #[.int .i64 k, .int .i64 i, .string s, V]] w fun e w' => e = .returned (.bool (decide (k = 4))) ∧ Below w.heap.size w w' := by
  by_cases h : k = 4
  · subst h
    go_enter Try.func23, Try.ntmps23
    go_wp2
    go_ret
    exact ⟨by simp, (Below.refl _ _).alloc (Nat.le_refl _) _⟩
  · go_enter Try.func23, Try.ntmps23
    go_wp2
    go_ret
    exact ⟨by simp [h], (Below.refl _ _).alloc (Nat.le_refl _) _⟩

set_option maxHeartbeats 400000 in
theorem head_any (k i : Int) (s : ByteArray) (g off n cap : Nat) (x0 x1 : Int) (x2 : ByteArray) (u1 : Option Addr) (u2 u3 : Nat) (w : World) (hg : g < w.heap.size) (hn : 0 < n) (hm : n ≤ 1048576)
    (c0 : w.cell? ⟨g, off, none⟩ = some (.int .i64 x0)) (c1 : w.cell? ⟨g, off + 1, none⟩ = some (.int .i64 x1)) (c2 : w.cell? ⟨g, off + 2, none⟩ = some (.string x2)) (c3 : w.cell? ⟨g, off + 3, none⟩ = some (.slice u1 u2 u3)) :
    Calls Try.prog 25 #[.agg #[.int .i64 k, .int .i64 i, .string s, .slice (some ⟨g, off, none⟩) n cap]] w fun e w' => e = .returned (.agg #[.int .i64 x0, .int .i64 x1, .string x2, .slice u1 u2 u3]) ∧ Below w.heap.size w w' := by
  go_enter Try.func25, Try.ntmps25
  go_wp2
  exact bodyPost_ret (v := .agg #[.int .i64 x0, .int .i64 x1, .string x2, .slice u1 u2 u3]) (by simp [results, Try.results25, go_sem]) rfl ⟨rfl, ((Below.refl _ _).alloc (Nat.le_refl _) _).alloc (by simp) _⟩

set_option maxHeartbeats 400000 in
theorem tail_any (k i : Int) (s : ByteArray) (g off n cap : Nat) (x0 x1 : Int) (x2 : ByteArray) (u1 : Option Addr) (u2 u3 : Nat) (w : World) (hg : g < w.heap.size) (hn : 1 < n) (hm : n ≤ 1048576)
    (c0 : w.cell? ⟨g, off + 4, none⟩ = some (.int .i64 x0)) (c1 : w.cell? ⟨g, off + 4 + 1, none⟩ = some (.int .i64 x1)) (c2 : w.cell? ⟨g, off + 4 + 2, none⟩ = some (.string x2)) (c3 : w.cell? ⟨g, off + 4 + 3, none⟩ = some (.slice u1 u2 u3)) :
    Calls Try.prog 24 #[.agg #[.int .i64 k, .int .i64 i, .string s, .slice (some ⟨g, off, none⟩) n cap]] w fun e w' => e = .returned (.agg #[.int .i64 x0, .int .i64 x1, .string x2, .slice u1 u2 u3]) ∧ Below w.heap.size w w' := by
  go_enter Try.func24, Try.ntmps24
  go_wp2
  exact bodyPost_ret (v := .agg #[.int .i64 x0, .int .i64 x1, .string x2, .slice u1 u2 u3]) (by simp [results, Try.results24, go_sem]) rfl ⟨rfl, ((Below.refl _ _).alloc (Nat.le_refl _) _).alloc (by simp) _⟩
end Go.Proofs.Ytokndpmoamjbfaa

