/-
  The contract of impl.Tokens: it answers the tokens of the text, or none.
-/
import Derived.Test.YtnbnepeikdieaaaGreatDoorBase
import Derived.WalkLawsBesides
namespace Go.Proofs.YtnbnepeikdieaaaGreatDoor
open Go.RowKit

/-- The cases of the five bytes that end a word, as the tests read them. -/
theorem brk_cases (c : Int) :
    (Hid (brkI c = true) ∧ (c == 32) = true) ∨ (Hid (brkI c = true) ∧ (c == 32) = false ∧ (c == 10) = true) ∨ (Hid (brkI c = true) ∧ (c == 32) = false ∧ (c == 10) = false ∧ (c == 40) = true) ∨
    (Hid (brkI c = true) ∧ (c == 32) = false ∧ (c == 10) = false ∧ (c == 40) = false ∧ (c == 41) = true) ∨
    (Hid (brkI c = true) ∧ (c == 32) = false ∧ (c == 10) = false ∧ (c == 40) = false ∧ (c == 41) = false ∧ (c == 59) = true) ∨
    (Hid (brkI c = false) ∧ (c == 32) = false ∧ (c == 10) = false ∧ (c == 40) = false ∧ (c == 41) = false ∧ (c == 59) = false) := by
  have y : ∀ k : Int, c = k → (c == k) = true := fun k h => by simp [h]
  have n : ∀ k : Int, ¬ c = k → (c == k) = false := fun k h => by simp [h]
  by_cases h1 : c = 32
  · exact .inl ⟨Lib.hid (decide_eq_true (.inl h1)), y _ h1⟩
  by_cases h2 : c = 10
  · exact .inr (.inl ⟨Lib.hid (decide_eq_true (by omega)), n _ h1, y _ h2⟩)
  by_cases h3 : c = 40
  · exact .inr (.inr (.inl ⟨Lib.hid (decide_eq_true (by omega)), n _ h1, n _ h2, y _ h3⟩))
  by_cases h4 : c = 41
  · exact .inr (.inr (.inr (.inl ⟨Lib.hid (decide_eq_true (by omega)), n _ h1, n _ h2, n _ h3, y _ h4⟩)))
  by_cases h5 : c = 59
  · exact .inr (.inr (.inr (.inr (.inl ⟨Lib.hid (decide_eq_true (by omega)), n _ h1, n _ h2, n _ h3, n _ h4, y _ h5⟩))))
  · exact .inr (.inr (.inr (.inr (.inr ⟨Lib.hid (decide_eq_false (by omega)), n _ h1, n _ h2, n _ h3, n _ h4, n _ h5⟩))))

set_option maxHeartbeats 400000 in
theorem ends_any (c : Int) (w : World) :
    Calls Tryz.prog 78 #[.int .i32 c] w fun e w' => e = .returned (.bool (brkI c)) ∧ w = w' := by
  rcases brk_cases c with ⟨H, h1⟩ | ⟨H, h1, h2⟩ | ⟨H, h1, h2, h3⟩ | ⟨H, h1, h2, h3, h4⟩ | ⟨H, h1, h2, h3, h4, h5⟩ | ⟨H, h1, h2, h3, h4, h5⟩
  all_goals
    go_enter Tryz.func78, Tryz.ntmps78
    go_wp2
    go_ret
    exact ⟨by rw [H.out]; rfl, rfl⟩

set_option maxHeartbeats 400000 in
theorem isPlain_any (s : ByteArray) (w : World) :
    Calls Tryz.prog 51 #[.string s] w fun e w' => e = .returned (.bool (plain s)) ∧ Below w.heap.size w w' := by
  go_enter Tryz.func51, Tryz.ntmps51
  go_wp2
  go_loopw [4] (fun _ w' => ∃ pos : Nat, w' = w.iter s pos ∧ pos ≤ s.size ∧ plainTo s pos) (fun _ w' => s.size - w'.iterPos w.heap.size)
  case atStart => exact ⟨0, rfl, Nat.zero_le _, plainTo_zero s⟩
  case round =>
    obtain ⟨pos, rfl, hp, hn⟩ := hrel
    have HN := Lib.hid hn
    clear hn
    by_cases hlt : pos < s.size
    · obtain ⟨c, n, c0, c1, n1, HR, hnx⟩ := next_at (P := Tryz.prog) s pos hlt
      have hnx := fun ty => hnx w ty
      rcases text_cases c with ⟨H, h1⟩ | ⟨H, h1, h2, h3, h4, h5, h6⟩ | ⟨H, h1, h2⟩ | ⟨H, h1, h2, h3, h4, h5, h6⟩
      all_goals go_wp2
      all_goals first
        | (go_roundw
           case rel =>
             obtain ⟨e1, rfl⟩ := HR.okText hlt H.out
             exact ⟨pos + 1, rfl, by omega, plainTo_succ hlt HN.out e1 H.out⟩
           case measure => simp; omega)
        | (go_ret
           exact ⟨by rw [plain_no hlt rfl (HR.notText hlt H.out)]; rfl, (Below.refl _ _).alloc (Nat.le_refl _) _⟩)
    · have hnx : ∀ ty, (Instr.next (.pointer (some ⟨w.heap.size, 0, none⟩)) true ty).run Tryz.prog (w.iter s pos) = _ := fun ty => run_next_end w s pos ty hlt
      go_wp2
      go_ret
      exact ⟨by rw [plain_yes HN.out (by omega)]; rfl, (Below.refl _ _).alloc (Nat.le_refl _) _⟩

theorem toks_of {s : ByteArray} {k st : Nat} {b : Bool} {o : List ByteArray} (h : tokTo s k = (st, b, o)) (hk : s.size ≤ k) (hk' : k ≤ s.size) : toks s = o ++ if st < s.size then [s.extract st s.size] else [] := by
  obtain rfl : k = s.size := by omega
  unfold toks
  rw [h]

set_option maxHeartbeats 1000000 in
theorem splitTokens_any (s : ByteArray) (w : World) (hs : s.size ≤ 1048576) (hpl : plain s = true) :
    Calls Tryz.prog 52 #[.string s] w fun e w' => ∃ v, e = .returned v ∧ Row w' w.heap.size 9 v ((toks s).map .string) ∧ Below w.heap.size w w' := by
  obtain ⟨i0, hi, hz0, hz1, hz2⟩ := info_parts infoString
  have HPL := Lib.hid hpl
  clear hpl
  go_enter Tryz.func52, Tryz.ntmps52
  go_wp2
  go_loopw [3, 4, 5] (fun v f cv wr => ∃ (pos st : Nat) (b : Bool) (out : List ByteArray), pos ≤ s.size ∧ tokTo s pos = (st, b, out) ∧ wr.heap[w.heap.size]? = some (.stringIter s pos) ∧ f = .int .i64 st ∧ cv = .bool b ∧
      Row wr (w.heap.size + 1) 9 v (out.map .string) ∧ Below w.heap.size w wr ∧ w.heap.size + 1 ≤ wr.heap.size)
      (fun _ _ _ wr => s.size - wr.iterPos w.heap.size)
  case atStart => exact ⟨0, 0, false, [], Nat.zero_le _, rfl, World.iter_heap w s 0, rfl, rfl, Row.nil _ _ _, (Below.refl _ _).alloc (Nat.le_refl _) _, by simp [World.iter]⟩
  case round =>
    obtain ⟨pos, st, b, out, hk, htok, hit, rfl, rfl, hown, hb, hB⟩ := hrel
    have HI := Lib.hid hit
    have HT := Lib.hid htok
    have hle := tokTo_le s pos
    rw [htok] at hle
    simp only at hle
    obtain ⟨hle1, hle2⟩ := hle
    have HO := Lib.hid hown
    have HB := Lib.hid hb
    clear hown hb hit htok
    by_cases hlt : pos < s.size
    · obtain ⟨r, n, wn, r0, r1, n1, HR, hnx, hB1, HW⟩ := next_in (P := Tryz.prog) s pos w.heap.size wr HI.out hlt
      obtain ⟨er, rfl⟩ := HR.plain hlt HPL.out
      have HE : Hid (byteI s pos = r) := Lib.hid (byteI_eq hlt er)
      clear er HR
      have HO' := Lib.hid (HO.out.others HW.out.2.2 (by omega))
      have hB' : w.heap.size + 1 ≤ wn.heap.size := by omega
      cases b with
      | true =>
        cases h10 : (r != 10) with
        | true =>
          go_wp2
          have hmeas := iterPos_of HW.out.1
          go_roundw
          case rel => exact ⟨pos + 1, pos + 1, true, out, by omega, by rw [tokTo_in HT.out, HE.out, h10], HW.out.1, by go_num, rfl, HO'.out, HB.out.trans HW.out.2.1, by omega⟩
          case measure => rw [iterPos_of HI.out]; omega
        | false =>
          go_wp2
          have hmeas := iterPos_of HW.out.1
          go_roundw
          case rel => exact ⟨pos + 1, pos + 1, false, out, by omega, by rw [tokTo_in HT.out, HE.out, h10], HW.out.1, by go_num, rfl, HO'.out, HB.out.trans HW.out.2.1, by omega⟩
          case measure => rw [iterPos_of HI.out]; omega
      | false =>
        by_cases hst : st < pos
        all_goals
          rcases tok_cases r with ⟨H, h1, h2, h3, h4⟩ | ⟨H, h1, h2, h3, h4⟩ | ⟨H, h1, h2, h3, h4⟩ | ⟨H, h1, h2, h3, h4⟩ | ⟨H, h1, h2, h3, h4⟩
          all_goals
            have tok1 : True := trivial
            go_wp2_with (first
              | (go_at_call 78; refine (ends_any r _).mono ?_; rintro e w' ⟨rfl, rfl⟩)
              | (at_builtin; clear tok1; refine append_one rfl _ _ 54 rfl (w.heap.size + 1) 9 i0 _ 16 Tryz.underlying54 hi hz0 hz1 hz2 rfl (by decide) _ _ rfl HO'.out _ rfl rfl (by simp; omega) hB' ?_; intro v' w1 hown1 hb1; have HO1 := Lib.hid hown1; have HB1 := Lib.hid hb1; have hB1' := hb1.size; clear hown1 hb1)
              | (at_builtin; refine append_one rfl _ _ 54 rfl (w.heap.size + 1) 9 i0 _ 16 Tryz.underlying54 hi hz0 hz1 hz2 rfl (by decide) _ _ rfl HO1.out _ rfl rfl (by simp; omega) (by omega) ?_; intro v2 w2 hown2 hb2; have HO2 := Lib.hid hown2; have HB2 := Lib.hid hb2; clear hown2 hb2))
            first
              | (go_roundw
                 case rel => exact ⟨pos + 1, st, false, out, by omega, tokTo_word HT.out (by rw [HE.out]; exact h4), HW.out.1, rfl, rfl, HO'.out, HB.out.trans HW.out.2.1, by omega⟩
                 case measure => rw [iterPos_of HI.out, iterPos_of HW.out.1]; omega)
              | (have e := tokTo_brk HT.out (by rw [HE.out]; exact h4)
                 rw [HE.out] at e
                 have hit2 : w2.heap[w.heap.size]? = some (.stringIter s (pos + 1)) := by rw [HB2.out.block _ (by omega), HB1.out.block _ (by omega)]; exact HW.out.1
                 go_roundw
                 case rel =>
                   simp [hst, H.out] at e
                   exact ⟨pos + 1, pos + 1, _, _, by omega, e, hit2, by go_num, rfl, by simpa using HO2.out, ((HB.out.trans HW.out.2.1).trans (HB1.out.mono (by omega))).trans (HB2.out.mono (by omega)), by have := HB2.out.size; omega⟩
                 case measure => rw [iterPos_of HI.out, iterPos_of hit2]; omega)
              | (have e := tokTo_brk HT.out (by rw [HE.out]; exact h4)
                 rw [HE.out] at e
                 have hit2 : w1.heap[w.heap.size]? = some (.stringIter s (pos + 1)) := by rw [HB1.out.block _ (by omega)]; exact HW.out.1
                 go_roundw
                 case rel =>
                   simp [hst, h1, H.out] at e
                   exact ⟨pos + 1, pos + 1, _, _, by omega, e, hit2, by go_num, rfl, by simpa using HO1.out, ((HB.out.trans HW.out.2.1).trans (HB1.out.mono (by omega))), by omega⟩
                 case measure => rw [iterPos_of HI.out, iterPos_of hit2]; omega)
              | (have e := tokTo_brk HT.out (by rw [HE.out]; exact h4)
                 rw [HE.out] at e
                 go_roundw
                 case rel =>
                   simp [hst, h1, H.out] at e
                   exact ⟨pos + 1, pos + 1, _, _, by omega, e, HW.out.1, by go_num, rfl, by simpa using HO'.out, HB.out.trans HW.out.2.1, by omega⟩
                 case measure => rw [iterPos_of HI.out, iterPos_of HW.out.1]; omega)
    · have hnx := next_none (P := Tryz.prog) s pos w.heap.size wr HI.out hlt
      have e := toks_of HT.out (by omega) hk
      by_cases hf : st < s.size
      · rw [if_pos hf] at e
        have HE := Lib.hid e
        clear e
        go_wp2_with (at_builtin; refine append_one rfl _ _ 54 rfl (w.heap.size + 1) 9 i0 _ 16 Tryz.underlying54 hi hz0 hz1 hz2 rfl (by decide) _ _ rfl HO.out (.string (s.extract st s.size)) rfl rfl (by simp; omega) hB ?_; intro v' w1 hown1 hb1; have HO1 := Lib.hid hown1; have HB1 := Lib.hid hb1; clear hown1 hb1)
        go_ret
        exact ⟨_, rfl, by rw [HE.out]; simpa using HO1.out.base (by omega), HB.out.trans (HB1.out.mono (by omega))⟩
      · rw [if_neg hf, List.append_nil] at e
        have HE := Lib.hid e
        clear e
        go_wp2
        go_ret
        exact ⟨_, rfl, by rw [HE.out]; exact HO.out.base (by omega), HB.out⟩

def tokensOf (s : ByteArray) : List ByteArray × Bool := if s.size ≤ 100000 ∧ plain s = true ∧ (toks s).length ≤ 20000 then (toks s, true) else ([], false)

theorem toks_len (s : ByteArray) : (toks s).length ≤ s.size + 1 := by
  have := tokTo_le s s.size
  unfold toks
  rw [List.length_append]
  split <;> simp only [List.length_cons, List.length_nil] <;> omega

/-- What is said of a call that answers tokens or none. -/
def TokPost (p : List ByteArray × Bool) (w : World) (e : Ending) (w' : World) : Prop :=
  ∃ v, e = .returned (.tuple #[v, .bool p.2]) ∧ Row w' w.heap.size 9 v (p.1.map .string) ∧ Below w.heap.size w w'
theorem TokPost.none {w w' : World} {e : Ending} {p : List ByteArray × Bool} (hp : p = ([], false)) (he : e = .returned (.tuple #[.slice none 0 0, .bool false])) (hb : Below w.heap.size w w') : TokPost p w e w' := by
  subst hp
  exact ⟨_, he, Row.nil _ _ _, hb⟩

set_option maxHeartbeats 400000 in
theorem implTokens_any (s : ByteArray) (w : World) (hs : s.size ≤ 1048576) :
    Calls Tryz.prog 29 #[.string s] w (TokPost (tokensOf s) w) := by
  by_cases h1 : 100000 < (s.size : Int)
  · have hp : tokensOf s = ([], false) := if_neg (by omega)
    have HP := Lib.hid hp
    clear hp
    go_enter Tryz.func29, Tryz.ntmps29
    go_wp2
    go_ret2
    exact TokPost.none HP.out rfl (Below.refl _ _)
  · cases hpl : plain s with
    | false =>
      have hp : tokensOf s = ([], false) := if_neg (by rw [hpl]; simp)
      have HP := Lib.hid hp
      have HI := Lib.hid (isPlain_any s w)
      have HPL := Lib.hid hpl
      clear hp hpl
      go_enter Tryz.func29, Tryz.ntmps29
      go_wp2_with fail
      refine HI.out.mono ?_
      rintro e w1 ⟨rfl, hb⟩
      rw [HPL.out]
      go_wp2
      go_ret2
      exact TokPost.none HP.out rfl hb
    | true =>
      have HI := Lib.hid (isPlain_any s w)
      have HS := Lib.hid (fun W => splitTokens_any s W hs hpl)
      have HPL := Lib.hid hpl
      have hlen := toks_len s
      have HT : Hid ((toks s).length ≤ 20000 → tokensOf s = (toks s, true)) := Lib.hid (fun h => if_pos ⟨by omega, hpl, h⟩)
      have HF : Hid (¬ (toks s).length ≤ 20000 → tokensOf s = ([], false)) := Lib.hid (fun h => if_neg (fun g => h g.2.2))
      generalize toks s = L at HS hlen HT HF
      generalize tokensOf s = T at HT HF
      clear hpl
      go_enter Tryz.func29, Tryz.ntmps29
      go_wp2_with fail
      refine HI.out.mono ?_
      rintro e w1 ⟨rfl, hb⟩
      rw [HPL.out]
      have HB := Lib.hid hb
      have hB := hb.size
      clear hb
      go_wp2_with fail
      refine (HS.out w1).mono ?_
      rintro e w2 ⟨v, rfl, hrow, hb⟩
      have HO := Lib.hid hrow
      have HB2 := Lib.hid hb
      clear hb
      obtain ⟨a, cap, rfl⟩ := hrow.slice
      clear hrow
      by_cases hl : L.length ≤ 20000
      · have HT' := Lib.hid (HT.out hl)
        go_wp2
        go_ret2
        exact ⟨_, by rw [HT'.out]; rfl, by rw [HT'.out]; exact HO.out.base (by omega), HB.out.trans (HB2.out.mono hB)⟩
      · have HF' := Lib.hid (HF.out hl)
        go_wp2
        go_ret2
        exact TokPost.none HF'.out rfl (HB.out.trans (HB2.out.mono hB))
end Go.Proofs.YtnbnepeikdieaaaGreatDoor

