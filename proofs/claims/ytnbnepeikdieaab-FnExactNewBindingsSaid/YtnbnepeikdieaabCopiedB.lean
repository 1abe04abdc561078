/-
  A binding copied by the program.
-/
import Derived.Test.YtnbnepeikdieaabMapSubst
namespace Go.Proofs.Ytnbnepeikdieaab
open Go.RowKit
set_option linter.unusedVariables false
set_option linter.unusedSimpArgs false

/-- The answer is a binding, its term a new tree of the call's own. -/
def NewBd (b : Bd) (w : World) (e : Ending) (w' : World) : Prop := ∃ u, e = .returned (.agg #[.int .i64 b.v, .int .i64 b.t.kind, .int .i64 b.t.num, .string b.t.name, u]) ∧ NewTree b.t.args w u w'
set_option maxRecDepth 100000 in
set_option maxHeartbeats 1000000 in
theorem copiedB_any (b : Bd) (V : Value) (w : World) (hA : ArgsAt w V b.t.args) (hZ : b.t.sz ≤ 1048576) (hG : Good b.t) :
    Calls Try.prog 18 #[.agg #[.int .i64 b.v, .int .i64 b.t.kind, .int .i64 b.t.num, .string b.t.name, V]] w (NewBd b w) := by
  obtain ⟨aa, ca, rfl⟩ := hA.slice
  have hal : Below w.heap.size w (w.alloc (.cells #[.int .i64 b.v, .int .i64 b.t.kind, .int .i64 b.t.num, .string b.t.name, .slice aa b.t.args.length ca] 42)) := belowAlloc (Below.refl _ _) _
  have HX := Lib.hid (at_box_of w #[.int .i64 b.v, .int .i64 b.t.kind, .int .i64 b.t.num, .string b.t.name, .slice aa b.t.args.length ca] 42 w.heap.size rfl)
  have HR := Lib.hid (at_box_of (w.alloc (.cells #[.int .i64 b.v, .int .i64 b.t.kind, .int .i64 b.t.num, .string b.t.name, .slice aa b.t.args.length ca] 42)) #[.int .i64 0, .int .i64 0, .int .i64 0, .string ⟨#[]⟩, .slice none 0 0] 42 (w.heap.size + 1) (by simp))
  replace HX := Lib.hid (HX.out.read (belowAlloc (Below.refl _ _) (.cells #[.int .i64 0, .int .i64 0, .int .i64 0, .string ⟨#[]⟩, .slice none 0 0] 42)))
  have HW := Lib.hid (belowAlloc hal (.cells #[.int .i64 0, .int .i64 0, .int .i64 0, .string ⟨#[]⟩, .slice none 0 0] 42))
  have HA := Lib.hid (at_args (hA.kept HW.out))
  clear hal hA
  go_enter Try.func18, Try.ntmps18
  go_upto_region 1 with (fail)
  generalize hw0 : (w.alloc (.cells #[.int .i64 b.v, .int .i64 b.t.kind, .int .i64 b.t.num, .string b.t.name, .slice aa b.t.args.length ca] 42)).alloc (.cells #[.int .i64 0, .int .i64 0, .int .i64 0, .string ⟨#[]⟩, .slice none 0 0] 42) = w0 at HX HR HW HA ⊢
  clear hw0
  have hself : Below w0.heap.size w0 w0 := Below.refl _ _
  have hdrew : Below w0.heap.size w0 w0.drew := hself.drew
  have HCE : Hid (∀ W, Below w0.heap.size w0 W → W.cell? ⟨w.heap.size, 0, none⟩ = some (.int .i64 b.v) ∧ W.cell? ⟨w.heap.size, 1, none⟩ = some (.int .i64 b.t.kind) ∧ W.cell? ⟨w.heap.size, 2, none⟩ = some (.int .i64 b.t.num) ∧ W.cell? ⟨w.heap.size, 3, none⟩ = some (.string b.t.name) ∧ W.cell? ⟨w.heap.size, 4, none⟩ = some (.slice aa b.t.args.length ca)) := Lib.hid fun W hW => by
    obtain ⟨y0, y1, y2, y3, y4, _⟩ := box_cells5 (HX.out.read hW).now
    exact ⟨y0, y1, y2, y3, y4⟩
  obtain ⟨e0, e1, e2, e3, e4⟩ := HCE.out w0 hself
  have HC : Hid (∀ W, Below w0.heap.size w0 W → Calls Try.prog 31 #[.agg #[.int .i64 b.t.kind, .int .i64 b.t.num, .string b.t.name, .slice aa b.t.args.length ca]] W (NewTm b.t W)) := Lib.hid fun W hW => copied_any (b.t.nodes + 1) b.t _ W (Nat.lt_succ_self _) (HA.out.read hW).argsAt hZ hG
  have HRB : Hid (∀ W, Below w0.heap.size w0 W → W.heap[w.heap.size + 1]? = some (Obj.cells #[.int .i64 0, .int .i64 0, .int .i64 0, .string ⟨#[]⟩, .slice none 0 0] 42)) := Lib.hid fun W hW => (HR.out.read hW).now
  have HRL : Hid (w.heap.size + 1 < w0.heap.size) := Lib.hid (by have := HR.out.le; omega)
  have ne1 : ¬ w.heap.size = w.heap.size + 1 := by omega
  have ne2 : ¬ w.heap.size + 1 = w.heap.size := by omega
  clear HX HR HA
  go_region_held3 (fun w' => w'.cell? ⟨w.heap.size, 0, none⟩ = some (.int .i64 b.v) ∧ w'.cell? ⟨w.heap.size, 1, none⟩ = some (.int .i64 b.t.kind) ∧ w'.cell? ⟨w.heap.size, 2, none⟩ = some (.int .i64 b.t.num) ∧ w'.cell? ⟨w.heap.size, 3, none⟩ = some (.string b.t.name) ∧ w'.cell? ⟨w.heap.size, 4, none⟩ = some (.slice aa b.t.args.length ca)) (go_keep)
    ((go_at_call 31; (with_reducible refine Calls.mono (HC.out _ ?_) ?_); (assumption); rintro e wB ⟨u, rfl, hn⟩; have HW0 := Lib.hid (by assumption : Below w0.heap.size w0 _); have hB := belowOn HW0.out (Nat.le_refl _) hn.2; obtain ⟨k0, k1, k2, k3, k4⟩ := HCE.out _ hB; obtain ⟨ua, uc, rfl⟩ := hn.1.argsAt.slice; have HN := Lib.hid hn; have HRE := Lib.hid (HRB.out _ hB); obtain ⟨r0, r1, r2, r3, r4, rf⟩ := box_cells5 (HRB.out _ hB); clear hn))
  all_goals
    go_wp2_with fail
    refine bodyPost_five (e := 42) (b := w.heap.size + 1) rfl rfl rfl Try.underlying42 rfl (by kernel_rfl) HRE.out ?_
    intro w' hw
    refine ⟨_, rfl, NewTree.after HN.out (belowOn HW.out (Nat.le_refl _) HW0.out) (hw.sub fun k hk => ?_)⟩
    subst hk
    have h1 := HW0.out.size
    have h2 := HRL.out
    unfold iv
    omega
end Go.Proofs.Ytnbnepeikdieaab

