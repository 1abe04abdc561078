/-
  The program's ValuesOk and Instantiate.
-/
import Derived.Test.YtjpkkhhcpcokaaaImplApp
import Derived.Test.YtjpkkhhcpcokaaaMatchP
namespace Go.Proofs.Ytjpkkhhcpcokaaa
open Go.RowKit
set_option linter.unusedVariables false
set_option linter.unusedSimpArgs false

/-- The instance of a term, and whether it fits. -/
def InP (s : List Bd) (t : Tm) : Prop := Ok t ∧ ValuesP s ∧ (putT s t).nodes ≤ 5000
open Classical in
noncomputable def instT (s : List Bd) (t : Tm) : Tm := if InP s t then putT s t else zeroTm
open Classical in
noncomputable def instB (s : List Bd) (t : Tm) : Bool := decide (InP s t)
open Classical in
theorem in_yes {s : List Bd} {t : Tm} (h : InP s t) : instT s t = putT s t ∧ instB s t = true := ⟨by rw [instT, if_pos h], by unfold instB; exact decide_eq_true h⟩
open Classical in
theorem in_not {s : List Bd} {t : Tm} (h : ¬ InP s t) : instT s t = zeroTm ∧ instB s t = false := ⟨by rw [instT, if_neg h], by unfold instB; exact decide_eq_false h⟩
theorem in_no {s : List Bd} {t : Tm} (h : ¬ (Ok t ∧ ValuesP s)) : instT s t = zeroTm ∧ instB s t = false := in_not fun hh => h ⟨hh.1, hh.2.1⟩
theorem in_fit {s : List Bd} {t : Tm} (ht : Ok t) (hs : ValuesP s) : instT s t = fitT s t ∧ instB s t = fitB s t := by
  by_cases h : (putT s t).nodes ≤ 5000
  · obtain ⟨a1, a2⟩ := in_yes ⟨ht, hs, h⟩
    obtain ⟨b1, b2⟩ := fit_yes (s := s) (t := t) h
    exact ⟨by rw [a1, b1], by rw [a2, b2]⟩
  · obtain ⟨a1, a2⟩ := in_not (s := s) (t := t) fun hh => h hh.2.2
    obtain ⟨b1, b2⟩ := fit_no (s := s) (t := t) h
    exact ⟨by rw [a1, b1], by rw [a2, b2]⟩
theorem ValuesP.fits {s : List Bd} (h : ValuesP s) : FitB s := fun b hb => by
  obtain ⟨i, hi⟩ := List.getElem?_of_mem hb
  exact (h.1 i b hi).2

set_option maxHeartbeats 400000 in
theorem implValuesOk_e (s : List Bd) (V : Value) (w : World) (hA : ListS bdE w Any V s) (hE : EachB s) :
    Calls Try.prog 53 #[V] w fun e w' => e = .returned (.bool (valuesB s)) ∧ Below w.heap.size w w' := by
  have HC := Lib.hid (implBindingsOk_e s V w hA hE)
  clear hA
  go_enter Try.func53, Try.ntmps53
  go_wp2_with fail
  refine HC.out.mono ?_
  rintro e w1 ⟨rfl, hb⟩
  have HB := Lib.hid hb
  clear hb HC
  go_wp2
  go_ret
  exact ⟨rfl, HB.out⟩

end Go.Proofs.Ytjpkkhhcpcokaaa

