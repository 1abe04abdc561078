/-
  The contracts of spec.IsName and impl.IsName: both answer 'isName' of the text; nothing that was there is changed.
-/
import Derived.Test.YtnmdnajbafpfiaaBase
import Derived.Test.YtnmdnajbafpfiaaRows
import Derived.WalkKit
import Derived.ProofKit
import Derived.LoopTactic
import Derived.Below
import Derived.Laws.RangeAny
import Derived.Lib.Hide
import Derived.Lib.Strings
import Derived.WalkSpells
import Derived.WalkLawsBesides
namespace Go.Proofs.Ytnmdnajbafpfiaa
open Go.RowKit

set_option maxHeartbeats 400000 in
theorem specIsName_any (s : ByteArray) (w : World) (hs : s.size ≤ maxLen) :
    Calls Try.prog 56 #[.string s] w fun e w' => e = .returned (.bool (isName s)) ∧ w = w' := by
  unfold maxLen at hs
  go_enter Try.func56, Try.ntmps56
  go_wp2
  go_loop [3] (fun i => ∃ k : Nat, k ≤ s.size ∧ i = .int .i64 k ∧ nameTo s k) (fun i => s.size - (intOf i).toNat)
  case atStart => exact ⟨0, Nat.zero_le _, rfl, nameTo_zero s⟩
  case round =>
    obtain ⟨k, hk, rfl, hn⟩ := hrel
    have HN := Lib.hid hn
    clear hn
    by_cases hlt : k < s.size
    · obtain ⟨c, c0, c1, HC, hix⟩ := byte_at (P := Try.prog) 9 s k hlt Try.underlying9
      rcases name_cases c k with ⟨H, h1, h2⟩ | ⟨H, h1, h2⟩ | ⟨H, h1, h2, h3⟩ | ⟨H, h1, h2, h3⟩ | ⟨H, h1, h2, h3, h4, h5⟩ | ⟨H, h1, h2, h3, h4, h5⟩ | ⟨H, h1, h2, h3, h4⟩ | ⟨H, h1, h2, h3, h4, h5⟩
      all_goals go_wp2
      all_goals first
        | (go_round
           case rel => exact ⟨k + 1, by omega, by go_num, nameTo_succ hlt HN.out HC.out H.out⟩
           case measure => simp [intOf]; omega)
        | (go_ret
           exact ⟨by rw [isName_no hlt HC.out H.out]; rfl, rfl⟩)
    · by_cases h1 : 1 ≤ (s.size : Int)
      all_goals go_wp2
      all_goals go_ret
      · by_cases h2 : s.size ≤ 12
        · rw [isName_yes HN.out (by omega) ⟨by omega, h2⟩]
          exact ⟨by simp; omega, rfl⟩
        · rw [isName_short (by omega)]
          exact ⟨by simp; omega, rfl⟩
      · rw [isName_short (by omega)]
        exact ⟨rfl, rfl⟩

set_option maxHeartbeats 400000 in
theorem implIsName_any (s : ByteArray) (w : World) (hs : s.size ≤ maxLen) :
    Calls Try.prog 107 #[.string s] w fun e w' => e = .returned (.bool (isName s)) ∧ Below w.heap.size w w' := by
  unfold maxLen at hs
  by_cases he : s.size = 0
  · have h0 : s.toList = [] := by rw [Lib.toList_data]; have := Lib.size_eq s; exact List.length_eq_zero_iff.1 (by omega)
    have h1 : s.toList.isEmpty = true := by rw [h0]; rfl
    clear h0
    go_enter Try.func107, Try.ntmps107
    go_wp2
    go_ret
    exact ⟨by rw [isName_short (by omega)]; rfl, Below.refl _ _⟩
  · have h1 : s.toList.isEmpty = false := by
      rw [Lib.toList_data]
      have := Lib.size_eq s
      cases h : s.data.toList with
      | nil => rw [h] at this; exact absurd this he
      | cons a b => rfl
    by_cases h2 : 12 < (s.size : Int)
    · go_enter Try.func107, Try.ntmps107
      go_wp2
      go_ret
      exact ⟨by rw [isName_short (by omega)]; rfl, Below.refl _ _⟩
    · go_enter Try.func107, Try.ntmps107
      go_wp2
      go_loopw [3] (fun _ w' => ∃ pos : Nat, w' = w.iter s pos ∧ pos ≤ s.size ∧ nameTo s pos) (fun _ w' => s.size - w'.iterPos w.heap.size)
      case atStart => exact ⟨0, rfl, Nat.zero_le _, nameTo_zero s⟩
      case round =>
        obtain ⟨pos, rfl, hp, hn⟩ := hrel
        have HN := Lib.hid hn
        clear hn
        by_cases hlt : pos < s.size
        · obtain ⟨c, n, c0, c1, n1, HR, hnx⟩ := next_at (P := Try.prog) s pos hlt
          have hnx := fun ty => hnx w ty
          rcases name_cases c pos with ⟨H, h3, h4⟩ | ⟨H, h3, h4⟩ | ⟨H, h3, h4, h5⟩ | ⟨H, h3, h4, h5⟩ | ⟨H, h3, h4, h5, h6, h7⟩ | ⟨H, h3, h4, h5, h6, h7⟩ | ⟨H, h3, h4, h5, h6⟩ | ⟨H, h3, h4, h5, h6, h7⟩
          all_goals go_wp2
          all_goals first
            | (go_roundw
               case rel =>
                 obtain ⟨e1, rfl⟩ := HR.isOk hlt H.out
                 exact ⟨pos + 1, rfl, by omega, nameTo_succ hlt HN.out e1 H.out⟩
               case measure => simp; omega)
            | (go_ret
               exact ⟨by rw [isName_no hlt rfl (HR.notOk hlt H.out)]; rfl, (Below.refl _ _).alloc (Nat.le_refl _) _⟩)
        · have hnx : ∀ ty, (Instr.next (.pointer (some ⟨w.heap.size, 0, none⟩)) true ty).run Try.prog (w.iter s pos) = _ := fun ty => run_next_end w s pos ty hlt
          go_wp2
          go_ret
          exact ⟨by rw [isName_yes HN.out (by omega) ⟨by omega, by omega⟩]; rfl, (Below.refl _ _).alloc (Nat.le_refl _) _⟩
end Go.Proofs.Ytnmdnajbafpfiaa

