/-
  The contract of spec.Tokens: it answers the tokens of the text, or none.
-/
import Derived.Test.YtnbnepeikdieaaaDoorTokens
namespace Go.Proofs.YtnbnepeikdieaaaDoor
open Go.RowKit

set_option maxHeartbeats 400000 in
theorem break_any (c : Int) (w : World) :
    Calls Tryd.prog 46 #[.int .u8 c] w fun e w' => e = .returned (.bool (brkI c)) ∧ w = w' := by
  rcases brk_cases c with ⟨H, h1⟩ | ⟨H, h1, h2⟩ | ⟨H, h1, h2, h3⟩ | ⟨H, h1, h2, h3, h4⟩ | ⟨H, h1, h2, h3, h4, h5⟩ | ⟨H, h1, h2, h3, h4, h5⟩
  all_goals
    go_enter Tryd.func46, Tryd.ntmps46
    go_wp2
    go_ret
    exact ⟨by rw [H.out]; rfl, rfl⟩

set_option maxHeartbeats 2000000 in
set_option maxRecDepth 100000 in
theorem specTokens_any (s : ByteArray) (w : World) (hs : s.size ≤ 1048576) :
    Calls Tryd.prog 25 #[.string s] w (TokPost (tokensOf s) w) := by
  obtain ⟨i0, hi, hz0, hz1, hz2⟩ := info_parts infoString
  by_cases h1 : 100000 < (s.size : Int)
  · have hp : tokensOf s = ([], false) := if_neg (by omega)
    have HP := Lib.hid hp
    clear hp
    go_enter Tryd.func25, Tryd.ntmps25
    go_wp2
    go_ret2
    exact TokPost.none HP.out rfl (Below.refl _ _)
  have HTT : Hid (plain s = true → (toks s).length ≤ 20000 → tokensOf s = (toks s, true)) := Lib.hid (fun h h' => if_pos ⟨by omega, h, h'⟩)
  have HTF : Hid (plain s = false ∨ ¬ (toks s).length ≤ 20000 → tokensOf s = ([], false)) := Lib.hid (fun h => if_neg (fun g => by
    rcases h with h | h
    · rw [h] at g; exact absurd g.2.1 (by simp)
    · exact h g.2.2))
  generalize tokensOf s = T at HTT HTF
  go_enter Tryd.func25, Tryd.ntmps25
  go_wp2
  go_loopw [4, 5] (fun v iv wr => ∃ (i : Nat) (out : List ByteArray), i ≤ s.size ∧ iv = .int .i64 i ∧ Inv s i out ∧ Row wr w.heap.size 9 v (out.map .string) ∧ Below w.heap.size w wr)
      (fun _ iv _ => s.size - (intOf iv).toNat)
  case atStart => exact ⟨0, [], Nat.zero_le _, rfl, Inv_zero s, World.ownsRow_made w #[] 0 (Nat.le_refl _) (Nat.zero_le _) rfl, (Below.refl _ _).alloc (Nat.le_refl _) _⟩
  case round =>
    obtain ⟨i, out, hk, rfl, hinv, hown, hb⟩ := hrel
    have hlen := Inv_len hinv
    have HV := Lib.hid hinv
    have HO := Lib.hid hown
    have HB := Lib.hid hb
    have hB := hb.size
    clear hinv hown hb
    by_cases hlt : i < s.size
    · obtain ⟨c, c0, c1, HC, hix⟩ := byte_at (P := Tryd.prog) 9 s i hlt Tryd.underlying9
      have HE : Hid (byteI s i = c) := Lib.hid (byteI_eq hlt HC.out)
      rcases tok_cases c with ⟨H, t1, t2, t3, t4⟩ | ⟨H, t1, t2, t3, t4⟩ | ⟨H, t1, t2, t3, t4⟩ | ⟨H, t1, t2, t3, t4⟩ | ⟨H, t1, t2, t3, t4⟩
      · -- a comment
        go_wp2
        go_loop [6] (fun jv => ∃ j : Nat, i < j ∧ j ≤ s.size ∧ jv = .int .i64 j ∧ tokTo s j = (j, true, out)) (fun jv => s.size - (intOf jv).toNat)
        case atStart => exact ⟨i + 1, by omega, by omega, by go_num, Inv_comment HV.out hlt (by rw [HE.out, H.out])⟩
        case round =>
          obtain ⟨j, hij, hj, rfl, htok⟩ := hrel
          have HT := Lib.hid htok
          clear htok
          by_cases hjl : j < s.size
          · obtain ⟨d, d0, d1, HD, hjx⟩ := byte_at (P := Tryd.prog) 9 s j hjl Tryd.underlying9
            have HF : Hid (byteI s j = d) := Lib.hid (byteI_eq hjl HD.out)
            cases h10 : (d != 10) with
            | true =>
              go_wp2
              go_round
              case rel => exact ⟨j + 1, by omega, by omega, by go_num, tokTo_more HT.out (by rw [HF.out]; simpa using h10)⟩
              case measure => simp [intOf]; omega
            | false =>
              go_wp2
              go_roundw
              case rel => exact ⟨j, out, hj, rfl, Inv_of_comment HT.out (fun _ => by rw [HF.out]; simpa using h10), HO.out, HB.out⟩
              case measure => simp [intOf]; omega
          · go_wp2
            go_roundw
            case rel => exact ⟨j, out, hj, rfl, Inv_of_comment HT.out (fun x => absurd x hjl), HO.out, HB.out⟩
            case measure => simp [intOf]; omega
      · -- (
        go_wp2_with (first | (go_at_call 46; refine (break_any _ _).mono ?_; rintro e w' ⟨rfl, rfl⟩) | (at_builtin; refine append_one rfl _ _ 40 rfl w.heap.size 9 i0 _ 16 Tryd.underlying40 hi hz0 hz1 hz2 rfl (by decide) _ _ rfl HO.out _ rfl rfl (by simp; omega) hB ?_; intro v' w1 hown1 hb1; have HO1 := Lib.hid hown1; have HB1 := Lib.hid hb1; clear hown1 hb1))
        have e := Inv_brk HV.out hlt (by rw [HE.out]; exact t4) (by rw [HE.out, H.out]; decide)
        rw [HE.out, if_pos (.inl H.out)] at e
        go_roundw
        case rel => exact ⟨i + 1, _, by omega, by go_num, e, by simpa using HO1.out, HB.out.trans HB1.out⟩
        case measure => simp [intOf]; omega
      · -- )
        go_wp2_with (first | (go_at_call 46; refine (break_any _ _).mono ?_; rintro e w' ⟨rfl, rfl⟩) | (at_builtin; refine append_one rfl _ _ 40 rfl w.heap.size 9 i0 _ 16 Tryd.underlying40 hi hz0 hz1 hz2 rfl (by decide) _ _ rfl HO.out _ rfl rfl (by simp; omega) hB ?_; intro v' w1 hown1 hb1; have HO1 := Lib.hid hown1; have HB1 := Lib.hid hb1; clear hown1 hb1))
        have e := Inv_brk HV.out hlt (by rw [HE.out]; exact t4) (by rw [HE.out, H.out]; decide)
        rw [HE.out, if_pos (.inr H.out)] at e
        go_roundw
        case rel => exact ⟨i + 1, _, by omega, by go_num, e, by simpa using HO1.out, HB.out.trans HB1.out⟩
        case measure => simp [intOf]; omega
      · -- a space or a newline
        go_wp2_with (go_at_call 46; refine (break_any _ _).mono ?_; rintro e w' ⟨rfl, rfl⟩)
        have e := Inv_brk HV.out hlt (by rw [HE.out]; exact t4) (by rw [HE.out]; exact H.out.1)
        rw [HE.out, if_neg (fun x => x.elim H.out.2.1 H.out.2.2), List.append_nil] at e
        go_roundw
        case rel => exact ⟨i + 1, _, by omega, by go_num, e, HO.out, HB.out⟩
        case measure => simp [intOf]; omega
      · -- a word
        go_wp2_with (go_at_call 46; refine (break_any _ _).mono ?_; rintro e w' ⟨rfl, rfl⟩)
        go_loop [6] (fun jv => ∃ j : Nat, i < j ∧ j ≤ s.size ∧ jv = .int .i64 j ∧ tokTo s j = (i, false, out)) (fun jv => s.size - (intOf jv).toNat)
        case atStart => exact ⟨i + 1, by omega, by omega, by go_num, Inv_word HV.out hlt (by rw [HE.out]; exact t4)⟩
        case round =>
          obtain ⟨j, hij, hj, rfl, htok⟩ := hrel
          have HT := Lib.hid htok
          clear htok
          by_cases hjl : j < s.size
          · obtain ⟨d, d0, d1, HD, hjx⟩ := byte_at (P := Tryd.prog) 9 s j hjl Tryd.underlying9
            have HF : Hid (byteI s j = d) := Lib.hid (byteI_eq hjl HD.out)
            cases hbk : brkI d with
            | false =>
              go_wp2_with (go_at_call 46; refine (break_any _ _).mono ?_; rintro e w' ⟨rfl, rfl⟩)
              go_round
              case rel => exact ⟨j + 1, by omega, by omega, by go_num, tokTo_word HT.out (by rw [HF.out]; exact hbk)⟩
              case measure => simp [intOf]; omega
            | true =>
              go_wp2_with (first | (go_at_call 46; refine (break_any _ _).mono ?_; rintro e w' ⟨rfl, rfl⟩) | (at_builtin; refine append_one rfl _ _ 40 rfl w.heap.size 9 i0 _ 16 Tryd.underlying40 hi hz0 hz1 hz2 rfl (by decide) _ _ rfl HO.out _ rfl rfl (by simp; omega) hB ?_; intro v' w1 hown1 hb1; have HO1 := Lib.hid hown1; have HB1 := Lib.hid hb1; clear hown1 hb1))
              go_roundw
              case rel => exact ⟨j, _, hj, rfl, Inv_of_word HT.out hij (fun _ => by rw [HF.out]; exact hbk), by simpa using HO1.out, HB.out.trans HB1.out⟩
              case measure => simp [intOf]; omega
          · go_wp2_with (at_builtin; refine append_one rfl _ _ 40 rfl w.heap.size 9 i0 _ 16 Tryd.underlying40 hi hz0 hz1 hz2 rfl (by decide) _ _ rfl HO.out _ rfl rfl (by simp; omega) hB ?_; intro v' w1 hown1 hb1; have HO1 := Lib.hid hown1; have HB1 := Lib.hid hb1; clear hown1 hb1)
            go_roundw
            case rel => exact ⟨j, _, hj, rfl, Inv_of_word HT.out hij (fun x => absurd x hjl), by simpa using HO1.out, HB.out.trans HB1.out⟩
            case measure => simp [intOf]; omega
    · have hend : toks s = out := Inv_end HV.out (by omega)
      rw [hend] at HTT HTF
      have HO' := HO
      clear hend
      go_wp2
      go_loop [7] (fun kv => ∃ k : Nat, k ≤ s.size ∧ kv = .int .i64 k ∧ plainTo s k) (fun kv => s.size - (intOf kv).toNat)
      case atStart => exact ⟨0, Nat.zero_le _, rfl, plainTo_zero s⟩
      case round =>
        obtain ⟨k, hk2, rfl, hpl⟩ := hrel
        have HP := Lib.hid hpl
        clear hpl
        by_cases hkl : k < s.size
        · obtain ⟨c, c0, c1, HC, hix⟩ := byte_at (P := Tryd.prog) 9 s k hkl Tryd.underlying9
          rcases text_cases c with ⟨H, h1⟩ | ⟨H, h1, h2, h3, h4, h5, h6⟩ | ⟨H, h1, h2⟩ | ⟨H, h1, h2, h3, h4, h5, h6⟩
          all_goals go_wp2
          all_goals first
            | (go_round
               case rel => exact ⟨k + 1, by omega, by go_num, plainTo_succ hkl HP.out HC.out H.out⟩
               case measure => simp [intOf]; omega)
            | (go_ret2
               exact TokPost.none (HTF.out (.inl (plain_no hkl HC.out H.out))) rfl HB.out)
        · have hpy := plain_yes HP.out (by omega)
          have hTT := HTT.out hpy
          have HTF' := Lib.hid (fun x => HTF.out (.inr x))
          have HTT' := Lib.hid hTT
          clear hpy hTT
          obtain ⟨a, cap, rfl⟩ := HO'.out.slice
          by_cases hl : out.length ≤ 20000
          · have HT' := Lib.hid (HTT'.out hl)
            go_wp2
            go_ret2
            exact ⟨_, by rw [HT'.out]; rfl, by rw [HT'.out]; exact HO'.out, HB.out⟩
          · go_wp2
            go_ret2
            exact TokPost.none (HTF'.out hl) rfl HB.out
end Go.Proofs.YtnbnepeikdieaaaDoor

