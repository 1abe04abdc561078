/-
  The contracts of spec.IsName and impl.IsName: both answer 'isName' of the text; nothing that was there is changed.
-/
import Derived.Test.YtnbnepeikdieaaaGreatDoorBase
import Derived.Test.YtnbnepeikdieaaaGreatDoorRows
import Derived.WalkKit
import Derived.ProofKit
import Derived.LoopTactic
import Derived.Below
import Derived.Laws.RangeAny
import Derived.Lib.Hide
import Derived.Lib.Strings
import Derived.WalkSpells
import Derived.WalkLawsBesides
namespace Go.Proofs.YtnbnepeikdieaaaGreatDoor
open Go.RowKit

set_option maxHeartbeats 400000 in
theorem implIsName_any (s : ByteArray) (w : World) (hs : s.size ≤ maxLen) :
    Calls Tryz.prog 97 #[.string s] w fun e w' => e = .returned (.bool (isName s)) ∧ Below w.heap.size w w' := by
  unfold maxLen at hs
  by_cases he : s.size = 0
  · have h0 : s.toList = [] := by rw [Lib.toList_data]; have := Lib.size_eq s; exact List.length_eq_zero_iff.1 (by omega)
    have h1 : s.toList.isEmpty = true := by rw [h0]; rfl
    clear h0
    go_enter Tryz.func97, Tryz.ntmps97
    go_wp2
    go_ret
    exact ⟨by rw [isName_short (by omega)]; rfl, Below.refl _ _⟩
  · have h1 : s.toList.isEmpty = false := by
      rw [Lib.toList_data]
      have := Lib.size_eq s
      cases h : s.data.toList with
      | nil => rw [h] at this; exact absurd this he
      | cons a b => rfl
    by_cases h2 : 12 < (s.size : Int)
    · go_enter Tryz.func97, Tryz.ntmps97
      go_wp2
      go_ret
      exact ⟨by rw [isName_short (by omega)]; rfl, Below.refl _ _⟩
    · go_enter Tryz.func97, Tryz.ntmps97
      go_wp2
      go_loopw [3] (fun _ w' => ∃ pos : Nat, w' = w.iter s pos ∧ pos ≤ s.size ∧ nameTo s pos) (fun _ w' => s.size - w'.iterPos w.heap.size)
      case atStart => exact ⟨0, rfl, Nat.zero_le _, nameTo_zero s⟩
      case round =>
        obtain ⟨pos, rfl, hp, hn⟩ := hrel
        have HN := Lib.hid hn
        clear hn
        by_cases hlt : pos < s.size
        · obtain ⟨c, n, c0, c1, n1, HR, hnx⟩ := next_at (P := Tryz.prog) s pos hlt
          have hnx := fun ty => hnx w ty
          rcases name_cases c pos with ⟨H, h3, h4⟩ | ⟨H, h3, h4⟩ | ⟨H, h3, h4, h5⟩ | ⟨H, h3, h4, h5⟩ | ⟨H, h3, h4, h5, h6, h7⟩ | ⟨H, h3, h4, h5, h6, h7⟩ | ⟨H, h3, h4, h5, h6⟩ | ⟨H, h3, h4, h5, h6, h7⟩
          all_goals go_wp2
          all_goals first
            | (go_roundw
               case rel =>
                 obtain ⟨e1, rfl⟩ := HR.isOk hlt H.out
                 exact ⟨pos + 1, rfl, by omega, nameTo_succ hlt HN.out e1 H.out⟩
               case measure => simp; omega)
            | (go_ret
               exact ⟨by rw [isName_no hlt rfl (HR.notOk hlt H.out)]; rfl, (Below.refl _ _).alloc (Nat.le_refl _) _⟩)
        · have hnx : ∀ ty, (Instr.next (.pointer (some ⟨w.heap.size, 0, none⟩)) true ty).run Tryz.prog (w.iter s pos) = _ := fun ty => run_next_end w s pos ty hlt
          go_wp2
          go_ret
          exact ⟨by rw [isName_yes HN.out (by omega) ⟨by omega, by omega⟩]; rfl, (Below.refl _ _).alloc (Nat.le_refl _) _⟩
end Go.Proofs.YtnbnepeikdieaaaGreatDoor

