/-
  Terms as elements of a row: rows of terms that hold what lies anywhere.
-/
import Derived.Test.YtnmdnajbafpfiaaRows3
namespace Go.Proofs.Ytnmdnajbafpfiaa
open Go.RowKit
set_option linter.unusedVariables false
set_option linter.unusedSimpArgs false

def tmE : El Tm where
  n := 4
  cells := cells4
  kid := fun w S U t => ArgsS w S U t.args
  own := fun w S U t => Own w 28 S U t.args
  pos := by decide
  len := fun _ _ => rfl
  kidFrame := fun h hs hb => h.frame hs hb
  kidSub := fun h hS => h.sub hS
  ownFrame := fun h hb => h.frame hb
  ownSub := fun h hS => h.sub hS
  ownKid := fun h => h.inS
theorem cellsE_tm (L : List (Tm × Value)) : cellsE tmE L = cellsL L := rfl
theorem ListS.tms {w : World} {S : Nat → Prop} {v : Value} {l : List Tm} (h : ListS tmE w S v l) : ArgsS w S v l := by
  cases h with
  | nil a cap => exact .nil a cap
  | row g off n cap L l hl hn hS hg hc hr =>
    subst hl
    refine .row g off n cap (fun j => ((L[j]?).map Prod.snd).getD (.slice none 0 0)) _ (by rw [hn, List.length_map]) hS hg (fun j t hj i u hu => ?_) (fun j t hj => ?_)
    · rw [List.getElem?_map] at hj
      cases hp : L[j]? with
      | none => rw [hp] at hj; cases hj
      | some p =>
        rw [hp] at hj
        cases hj
        rw [hp] at hu
        exact hc _ _ (cellsE_at (E := tmE) hp hu)
    · rw [List.getElem?_map] at hj
      cases hp : L[j]? with
      | none => rw [hp] at hj; cases hj
      | some p =>
        rw [hp] at hj
        cases hj
        exact hr j p hp
end Go.Proofs.Ytnmdnajbafpfiaa

