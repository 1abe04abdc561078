/-
  Small words for functions that range over a function and answer out of a cell of their own.
-/
import Derived.Test.YtjpkkhhcpcokaaaIterLift
namespace Go.Proofs.Ytjpkkhhcpcokaaa
open Go.RowKit
set_option linter.unusedVariables false
set_option linter.unusedSimpArgs false

theorem frozen_box {w : World} {b : Nat} {cs : Array Value} {e : TypeId} (h : w.heap[b]? = some (.cells cs e (0, 0))) (o : Nat) : w.frozen? ⟨b, o, none⟩ = false := by simp [World.frozen?, h]
theorem set_box {w : World} {b : Nat} {v : Value} {e : TypeId} (v' : Value) (h : w.heap[b]? = some (.cells #[v] e (0, 0))) : (w.setCell ⟨b, 0, none⟩ v').heap[b]? = some (.cells #[v'] e) := Boxed.set v' h
theorem only_set (w : World) (b : Nat) (v : Value) : Only (fun k => k = b) w (w.setCell ⟨b, 0, none⟩ v) := ⟨rfl, rfl, rfl, by simp [World.setCell], fun k hk hn => by
  show (w.heap.modify b _)[k]? = _
  rw [Array.getElem?_modify, if_neg (fun e => hn e.symm)]⟩
def JT (_ : Unit) (_ : Fp) (_ : World) : Prop := True
theorem jt_aby : AbY JT := fun _ _ _ _ _ _ _ _ _ _ => trivial
theorem liftT_aby {γ : Type} {K : γ → Fp → World → Prop} (hK : ∀ s, KStable (K s)) : AbY fun (s : γ) Y W => Lift JT (K s) () Y W :=
  fun s Y Y' W W' h h1 h2 h3 h4 => lift_aby jt_aby (hK s) (fun (_ : Unit) => ()) () Y Y' W W' h h1 h2 h3 h4
theorem ground_leave {fn : Func} (hf : fn.results = #[.cell 4 35]) {tmps : Array Value} {RB : Nat} (ht : tmps.getD 4 undef = .pointer (some ⟨RB, 0, none⟩)) {R : Ending → World → Prop} {Ds : List Nat} {W : World} {U : Value} (hU : W.heap[RB]? = some (.cells #[U] 35)) (hd : Ds.Nodup ∧ ∀ D ∈ Ds, W.heap[D]? = some (.deferred (some [])))
    (hR : ∀ W', Only (fun k => k ∈ Ds) W W' → R (.returned U) W') : LeavesInM Fence.wide 5 Try.prog fn tmps R (Ds.map mk) .returning W := by
  refine leaves_marks Ds ⟨fun k => k ∈ Ds, fun _ => False⟩ W ⟨hd.1, fun D hD => ⟨hD, hd.2 D hD⟩⟩ fun W' ho => ?_
  have hrb : W'.heap[RB]? = some (.cells #[U] 35) := (ho.block RB (Array.getElem?_eq_some_iff.1 hU).1 fun hn => by
    have h2 := hd.2 RB hn
    rw [hU] at h2
    cases h2).trans hU
  have ht' : tmps[4]?.getD undef = .pointer (some ⟨RB, 0, none⟩) := by simpa using ht
  refine ⟨U, ?_, hR W' ho⟩
  have hc := cells1_of hrb
  simp [results, hf, ht', asAddr, go_sem, hc, run_underlying Try.underlying35]
end Go.Proofs.Ytjpkkhhcpcokaaa

