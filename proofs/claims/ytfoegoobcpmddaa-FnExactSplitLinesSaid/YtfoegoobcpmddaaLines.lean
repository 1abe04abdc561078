/-
  The contracts of spec.SplitLines and impl.SplitLines: both answer 'lines' of the text in a row of their own.
-/
import Derived.Test.YtfoegoobcpmddaaInfo
import Derived.ProofKit
import Derived.WalkLawsBesides
namespace Go.Proofs.Ytfoegoobcpmddaa
open Go.RowKit

set_option maxHeartbeats 400000 in
theorem specLines_any (s : ByteArray) (w : World) (hs : s.size ≤ 1048576) :
    Calls Try.prog 9 #[.string s] w fun e w' => ∃ v, e = .returned v ∧ Row w' w.heap.size 9 v ((lines s).map .string) ∧ Below w.heap.size w w' := by
  obtain ⟨i0, hi, hz0, hz1, hz2⟩ := info_parts infoString
  go_enter Try.func9, Try.ntmps9
  go_wp2
  go_loopw [3, 4, 5] (fun v f i wr => ∃ k : Nat, k ≤ s.size ∧ i = .int .i64 k ∧ f = .int .i64 (linesTo s k).1 ∧ Row wr w.heap.size 9 v ((linesTo s k).2.map .string) ∧ Below w.heap.size w wr)
      (fun _ _ i _ => s.size - (intOf i).toNat)
  case atStart => exact ⟨0, Nat.zero_le _, rfl, rfl, World.ownsRow_made w #[] 0 (Nat.le_refl _) (Nat.zero_le _) rfl, (Below.refl _ _).alloc (Nat.le_refl _) _⟩
  case round =>
    obtain ⟨k, hk, rfl, rfl, hown, hb⟩ := hrel
    have hle := linesTo_le s k
    have HM := Lib.hid (linesTo_miss s k)
    have HT := Lib.hid (linesTo_hit s k)
    have HE : Hid (s.size ≤ k → lines s = if (linesTo s k).1 < s.size then (linesTo s k).2 ++ [s.extract (linesTo s k).1 s.size] else (linesTo s k).2) := by
      intro h
      obtain rfl : k = s.size := by omega
      rfl
    generalize linesTo s k = p at hown hle HM HT HE
    obtain ⟨f, out⟩ := p
    simp only at hown hle HM HT HE
    obtain ⟨hle1, hle2⟩ := hle
    have hB := hb.size
    have HO := Lib.hid hown
    have HB := Lib.hid hb
    clear hown hb
    by_cases hlt : k < s.size
    · obtain ⟨c, c0, c1, HC, hix⟩ := byte_at (P := Try.prog) 9 s k hlt Try.underlying9
      by_cases h10 : (c == 10) = true
      · go_wp2_with (at_builtin; refine append_one rfl _ _ 23 rfl w.heap.size 9 i0 _ 16 Try.underlying23 hi hz0 hz1 hz2 rfl (by decide) _ _ rfl HO.out (.string (s.extract f k)) rfl rfl (by simp; omega) hB ?_; intro v' w1 hown1 hb1; have HO1 := Lib.hid hown1; have HB1 := Lib.hid hb1; clear hown1 hb1)
        go_roundw
        case rel =>
          have e := HT.out hlt (by have := HC.out; simp at h10; omega)
          exact ⟨k + 1, by omega, by go_num, by rw [e]; go_num, by rw [e]; simpa using HO1.out, HB.out.trans HB1.out⟩
        case measure => simp [intOf]; omega
      · have h10' : (c == 10) = false := by simpa using h10
        go_wp2
        go_roundw
        case rel =>
          have e := HM.out hlt (by have := HC.out; simp at h10; omega)
          exact ⟨k + 1, by omega, by go_num, by rw [e], by rw [e]; exact HO.out, HB.out⟩
        case measure => simp [intOf]; omega
    · have e := HE.out (by omega)
      clear HM HT HE
      by_cases hf : f < s.size
      · rw [if_pos hf] at e
        have HE := Lib.hid e
        clear e
        go_wp2_with (at_builtin; refine append_one rfl _ _ 23 rfl w.heap.size 9 i0 _ 16 Try.underlying23 hi hz0 hz1 hz2 rfl (by decide) _ _ rfl HO.out (.string (s.extract f s.size)) rfl rfl (by simp; omega) hB ?_; intro v' w1 hown1 hb1; have HO1 := Lib.hid hown1; have HB1 := Lib.hid hb1; clear hown1 hb1)
        go_ret
        exact ⟨_, rfl, by rw [HE.out]; simpa using HO1.out, HB.out.trans HB1.out⟩
      · rw [if_neg hf] at e
        have HE := Lib.hid e
        clear e
        go_wp2
        go_ret
        exact ⟨_, rfl, by rw [HE.out]; exact HO.out, HB.out⟩

set_option maxHeartbeats 400000 in
theorem implLines_any (s : ByteArray) (w : World) (hs : s.size ≤ 1048576) :
    Calls Try.prog 10 #[.string s] w fun e w' => ∃ v, e = .returned v ∧ Row w' w.heap.size 9 v ((lines s).map .string) ∧ Below w.heap.size w w' := by
  obtain ⟨i0, hi, hz0, hz1, hz2⟩ := info_parts infoString
  go_enter Try.func10, Try.ntmps10
  go_wp2
  go_loopw [3, 4] (fun v f wr => ∃ pos : Nat, pos ≤ s.size ∧ wr.heap[w.heap.size]? = some (.stringIter s pos) ∧ f = .int .i64 (linesTo s pos).1 ∧ Row wr (w.heap.size + 1) 9 v ((linesTo s pos).2.map .string) ∧ Below w.heap.size w wr ∧ w.heap.size + 1 ≤ wr.heap.size)
      (fun _ _ wr => s.size - wr.iterPos w.heap.size)
  case atStart => exact ⟨0, Nat.zero_le _, World.iter_heap w s 0, rfl, Row.nil _ _ _, (Below.refl _ _).alloc (Nat.le_refl _) _, by simp [World.iter]⟩
  case round =>
    obtain ⟨pos, hk, hit, rfl, hown, hb, hB⟩ := hrel
    have HI := Lib.hid hit
    clear hit
    have hle := linesTo_le s pos
    have HM : Hid (∀ (r : Int) (n : Nat), RuneAt s pos r n → pos < s.size → r ≠ 10 → linesTo s (pos + n) = linesTo s pos) := Lib.hid (fun r n h hp hr => h.lines hp hr)
    have HT := Lib.hid (linesTo_hit s pos)
    have HE : Hid (s.size ≤ pos → lines s = if (linesTo s pos).1 < s.size then (linesTo s pos).2 ++ [s.extract (linesTo s pos).1 s.size] else (linesTo s pos).2) := by
      intro h
      obtain rfl : pos = s.size := by omega
      rfl
    generalize linesTo s pos = p at hown hle HM HT HE
    obtain ⟨f, out⟩ := p
    simp only at hown hle HM HT HE
    obtain ⟨hle1, hle2⟩ := hle
    have HO := Lib.hid hown
    have HB := Lib.hid hb
    clear hown hb
    by_cases hlt : pos < s.size
    · obtain ⟨r, n, wn, r0, r1, n1, HR, hnx, hB1, HW⟩ := next_in (P := Try.prog) s pos w.heap.size wr HI.out hlt
      have HO' := Lib.hid (HO.out.others HW.out.2.2 (by omega))
      have hB' : w.heap.size + 1 ≤ wn.heap.size := by omega
      have HR' := Lib.hid HR
      clear HR
      by_cases h10 : (r == 10) = true
      · go_wp2_with (at_builtin; refine append_one rfl _ _ 23 rfl (w.heap.size + 1) 9 i0 _ 16 Try.underlying23 hi hz0 hz1 hz2 rfl (by decide) _ _ rfl HO'.out (.string (s.extract f pos)) rfl rfl (by simp; omega) hB' ?_; intro v' w1 hown1 hb1; have HO1 := Lib.hid hown1; have HB1 := Lib.hid hb1; clear hown1 hb1)
        have e10 : r = 10 := by simpa using h10
        obtain ⟨e1, rfl⟩ := HR'.out.low (by omega) hlt
        have hit1 : w1.heap[w.heap.size]? = some (.stringIter s (pos + 1)) := by rw [HB1.out.block _ (by omega)]; exact HW.out.1
        have hmeas := iterPos_of hit1
        go_roundw
        case rel =>
          have e := HT.out hlt (by omega)
          exact ⟨pos + 1, by omega, hit1, by rw [e]; go_num, by rw [e]; simpa using HO1.out, (HB.out.trans HW.out.2.1).trans (HB1.out.mono (by omega)), by have := HB1.out.size; omega⟩
        case measure =>
          rw [iterPos_of HI.out]
          omega
      · have h10' : (r == 10) = false := by simpa using h10
        go_wp2
        have hmeas := iterPos_of HW.out.1
        go_roundw
        case rel =>
          have e := HM.out r n HR'.out hlt (by simpa using h10')
          exact ⟨pos + n, HR'.out.le, HW.out.1, by rw [e], by rw [e]; exact HO'.out, HB.out.trans HW.out.2.1, by omega⟩
        case measure =>
          rw [iterPos_of HI.out]
          omega
    · have hnx := next_none (P := Try.prog) s pos w.heap.size wr HI.out hlt
      have e := HE.out (by omega)
      clear HM HT HE
      by_cases hf : f < s.size
      · rw [if_pos hf] at e
        have HE := Lib.hid e
        clear e
        go_wp2_with (at_builtin; refine append_one rfl _ _ 23 rfl (w.heap.size + 1) 9 i0 _ 16 Try.underlying23 hi hz0 hz1 hz2 rfl (by decide) _ _ rfl HO.out (.string (s.extract f s.size)) rfl rfl (by simp; omega) hB ?_; intro v' w1 hown1 hb1; have HO1 := Lib.hid hown1; have HB1 := Lib.hid hb1; clear hown1 hb1)
        go_ret
        exact ⟨_, rfl, by rw [HE.out]; simpa using HO1.out.base (by omega), HB.out.trans (HB1.out.mono (by omega))⟩
      · rw [if_neg hf] at e
        have HE := Lib.hid e
        clear e
        go_wp2
        go_ret
        exact ⟨_, rfl, by rw [HE.out]; exact HO.out.base (by omega), HB.out⟩
end Go.Proofs.Ytfoegoobcpmddaa
