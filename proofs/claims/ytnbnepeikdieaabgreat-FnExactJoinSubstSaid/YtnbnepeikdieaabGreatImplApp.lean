/-
  The program's substitutions applied: roomAfter, applied, apply, solves.
  Lookup, ApplySubst, MoreGeneral of the program.
-/
import Derived.Test.YtnbnepeikdieaabGreatMapSubst
import Derived.Test.YtnbnepeikdieaabGreatSpecSubs
import Derived.Test.YtnbnepeikdieaabGreatUnifT
import Derived.Test.YtnbnepeikdieaabGreatSpecComp
import Derived.Deep.RegionLaw
import Derived.Deep.AppendLies
namespace Go.Proofs.YtnbnepeikdieaabGreat
open Go.RowKit
set_option linter.unusedVariables false
set_option linter.unusedSimpArgs false

theorem putT_found {s : List Bd} {t x : Tm} (h : ofG (getO s) t = some x) : putT s t = x := by
  by_cases hk : t.kind = 1
  · rw [ofG_var hk] at h
    rw [putT_var hk, h]
  · rw [ofG_no hk] at h; cases h
theorem putT_not {s : List Bd} {t : Tm} (hG : Good t) (h : ofG (getO s) t = none) : (¬ t.kind = 4 → putT s t = t) ∧ (putT s t).nodes = 1 + nodesL (t.args.map (putT s)) := by
  by_cases hk : t.kind = 1
  · rw [ofG_var hk] at h
    have e : putT s t = t := by rw [putT_var hk, h]
    refine ⟨fun _ => e, ?_⟩
    rw [e, fit_var hG.fit hk, nodes_eq, fit_var hG.fit hk]; rfl
  · by_cases h4 : t.kind = 4
    · refine ⟨fun h => absurd h4 h, ?_⟩
      rw [putT_pair h4, nodes_eq]; rfl
    · have e : putT s t = t := putT_atom hk h4
      refine ⟨fun _ => e, ?_⟩
      rw [e, hG.fit.atom h4, nodes_eq, hG.fit.atom h4]; rfl
theorem room_step {N n : Nat} {room r r' : Int} (h : RoomP N room r) (h' : RoomP n r r') (hn : 1 ≤ n) : RoomP (N + n) room r' := by
  obtain ⟨a1, a2, a3, a4⟩ := h
  obtain ⟨b1, b2, b3, b4⟩ := h'
  refine ⟨fun hle => ?_, fun hlt => ?_, b3, by omega⟩
  · have h1 := a1 (by omega)
    have h2 := b1 (by omega)
    omega
  · by_cases hN : (N : Int) ≤ room
    · have h1 := a1 hN
      exact b2 (by omega)
    · have h1 := a2 (by omega)
      exact b2 (by omega)
theorem room_one {room : Int} (h0 : 0 ≤ room) : RoomP 1 room (room - 1) := ⟨fun _ => rfl, fun h => by omega, by omega, by omega⟩
theorem room_less {n : Nat} {room : Int} (h0 : room < 0) (h1 : -5000 ≤ room) : RoomP n room room := ⟨fun h => by omega, fun _ => h0, h1, Int.le_refl _⟩
theorem room_take {n : Nat} {room : Int} (h0 : 0 ≤ room) (hn : n ≤ 5000) : RoomP n room (room - n) := ⟨fun _ => rfl, fun h => by omega, by omega, by omega⟩
/-- Terms to be put in the place of variables. -/
def FitB (s : List Bd) : Prop := ∀ b ∈ s, Ok b.t
theorem FitB.get {s : List Bd} (h : FitB s) {v : Int} {x : Tm} (hg : getO s v = some x) : Ok x ∧ x.sz ≤ 1048576 := by
  obtain ⟨b, hb, _, rfl⟩ := getO_some hg
  have h1 := h b hb
  exact ⟨h1, by have h2 := good_sz h1.2; have h3 := h1.1; omega⟩
theorem FitB.of {s : List Bd} {t x : Tm} (h : FitB s) (hg : ofG (getO s) t = some x) : Ok x ∧ x.sz ≤ 1048576 := by
  by_cases hk : t.kind = 1
  · rw [ofG_var hk] at hg; exact h.get hg
  · rw [ofG_no hk] at hg; cases hg
theorem SubstP.fits {s : List Bd} (h : SubstP s) : FitB s := fun b hb => ⟨h.nodes b hb, h.good b hb⟩
theorem Good.wfVar {t : Tm} (hG : Good t) : t.kind = 1 → wfI t.num := fun hk => by
  have h := hG.var_range hk
  exact wfI_of (by omega) (by omega)

/-- What applying gives, if it fits. -/
def fitT (s : List Bd) (t : Tm) : Tm := if (putT s t).nodes ≤ 5000 then putT s t else zeroTm
def fitB (s : List Bd) (t : Tm) : Bool := decide ((putT s t).nodes ≤ 5000)
theorem fit_yes {s : List Bd} {t : Tm} (h : (putT s t).nodes ≤ 5000) : fitT s t = putT s t ∧ fitB s t = true := ⟨if_pos h, decide_eq_true h⟩
theorem fit_no {s : List Bd} {t : Tm} (h : ¬ (putT s t).nodes ≤ 5000) : fitT s t = zeroTm ∧ fitB s t = false := ⟨if_neg h, decide_eq_false h⟩
theorem fitT_sz {s : List Bd} {t : Tm} (hs : FitB s) (hG : Good t) : (fitT s t).sz ≤ 1048575 ∧ Good (fitT s t) ∧ (fitT s t).nodes ≤ 5000 := by
  unfold fitT
  split
  · rename_i h
    have hg : Good (putT s t) := putT_good (fun b hb => (hs b hb).2) t.nodes t (Nat.le_refl _) hG
    have := good_sz hg
    exact ⟨by omega, hg, h⟩
  · exact ⟨by rw [zeroTm, Tm.sz, szL]; exact Nat.zero_le _, .nil, by rw [zeroTm, Tm.nodes, nodesL]; decide⟩

/-- Whether the equation of two terms holds under s. -/
def solvesB (s : List Bd) (a b : Tm) : Bool := decide ((putT s a).nodes ≤ 5000 ∧ (putT s b).nodes ≤ 5000 ∧ ((putT s a).cmp (putT s b) == 0) = true)
theorem solves_true {s : List Bd} {a b : Tm} : solvesB s a b = true ↔ ((putT s a).nodes ≤ 5000 ∧ (putT s b).nodes ≤ 5000 ∧ ((putT s a).cmp (putT s b) == 0) = true) := by simp [solvesB]
theorem solves_false {s : List Bd} {a b : Tm} : solvesB s a b = false ↔ ¬ ((putT s a).nodes ≤ 5000 ∧ (putT s b).nodes ≤ 5000 ∧ ((putT s a).cmp (putT s b) == 0) = true) := by unfold solvesB; exact decide_eq_false_iff_not

end Go.Proofs.YtnbnepeikdieaabGreat

namespace Go.Proofs.YtnbnepeikdieaabGreat
open Go.RowKit
set_option linter.unusedVariables false
set_option linter.unusedSimpArgs false

theorem fineB.wf {s : List Bd} (h : fineB s) : ∀ b ∈ s, wfI b.v := fun b hb => (h b hb).2
theorem implSubstOk_any (s : List Bd) (V : Value) (w : World) (hA : ListS bdE w Any V s) (hZ : szB s ≤ 1048576) (hF : fineB s) :
    Calls Tryz.prog 16 #[V] w fun e w' => e = .returned (.bool (substB s)) ∧ Below w.heap.size w w' := implSubstOk_e s V w hA (eachB_of hZ) hF.wf

theorem ap_fit {s : List Bd} {t : Tm} (hs : SubstP s) (ht : Ok t) : apT s t = fitT s t ∧ apB s t = fitB s t := by
  by_cases h : (putT s t).nodes ≤ 5000
  · obtain ⟨a1, a2⟩ := ap_yes ⟨hs, ht, h⟩
    obtain ⟨b1, b2⟩ := fit_yes (s := s) (t := t) h
    exact ⟨by rw [a1, b1], by rw [a2, b2]⟩
  · obtain ⟨a1, a2⟩ := ap_no (s := s) (t := t) fun hh => h hh.2.2
    obtain ⟨b1, b2⟩ := fit_no (s := s) (t := t) h
    exact ⟨by rw [a1, b1], by rw [a2, b2]⟩

theorem more_solves {t : List Bd} {b : Bd} : EqnP t b ↔ solvesB t (varTm b.v) b.t = true := by rw [solves_true]; rfl

end Go.Proofs.YtnbnepeikdieaabGreat

