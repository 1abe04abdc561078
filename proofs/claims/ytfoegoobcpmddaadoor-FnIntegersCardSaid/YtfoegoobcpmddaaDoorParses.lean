/-
  The contracts of spec.ParseInts and impl.ParseInts: both answer 'parsesOf' of the text.
-/
import Derived.Test.YtfoegoobcpmddaaDoorTabsErr
import Derived.Test.YtfoegoobcpmddaaDoorPieces
import Derived.Test.YtfoegoobcpmddaaDoorInfo
namespace Go.Proofs.YtfoegoobcpmddaaDoor
open Go.RowKit

/-- The numbers of a list, as cells. -/
def cellsOf (L : List Int) : List Value := L.map (.int .i64)
def IntsPost (p : List Int × Bool) (w : World) (e : Ending) (w' : World) : Prop :=
  ∃ v, e = .returned (.tuple #[v, .bool p.2]) ∧ Row w' w.heap.size 3 v (cellsOf p.1) ∧ Below w.heap.size w w'
theorem IntsPost.none {w w' : World} {e : Ending} {p : List Int × Bool} (hp : p = ([], false)) (he : e = .returned (.tuple #[.slice none 0 0, .bool false])) (hb : Below w.heap.size w w') : IntsPost p w e w' := by
  subst hp
  exact ⟨_, he, Row.nil _ _ _, hb⟩
def val1 (p : List UInt8) : Int := (parseOf p).1
def allOk (ps : List (List UInt8)) : Prop := ∀ p ∈ ps, (parseOf p).2 = true
theorem parses_ne {l : List UInt8} (h : l ≠ []) : parsesOf l = numsOf (pl l) := if_neg h
theorem allOk_snoc {ps : List (List UInt8)} {p : List UInt8} (h : allOk ps) (hp : (parseOf p).2 = true) : allOk (ps ++ [p]) := by
  intro q hq
  rcases List.mem_append.1 hq with hq | hq
  · exact h q hq
  · rw [List.mem_singleton.1 hq]; exact hp
theorem cut_mem {s : ByteArray} {k : Nat} (hk : k ≤ s.size) (h : k = s.size ∨ byteI s k = 32) : (s.extract (cutTo s k).1 k).data.toList ∈ pl s.data.toList := by
  have hh := cutTo_hit h
  by_cases e : k = s.size
  · have := cutTo_end s
    rw [← e, hh] at this
    rw [← this]
    simp
  · have := (cutTo_pl s (k + 1) (by omega)).1
    rw [hh] at this
    rw [this]
    simp

set_option maxHeartbeats 1000000 in
set_option maxRecDepth 100000 in
theorem specParses_any (s : ByteArray) (w : World) (hs : s.size ≤ 1048576) :
    Calls Tryd.prog 21 #[.string s] w (IntsPost (parsesOf s.data.toList) w) := by
  obtain ⟨i0, hi, hz0, hz1, hz2⟩ := info_parts infoInt
  by_cases h0 : s.size = 0
  · have hp : parsesOf s.data.toList = ([], true) := if_pos (by have := Lib.size_eq s; exact List.length_eq_zero_iff.1 (by omega))
    have HP := Lib.hid hp
    have hz : ¬ (0 < (s.size : Int)) := by omega
    have HZ := Lib.hid h0
    clear hp h0
    go_enter Tryd.func21, Tryd.ntmps21
    go_wp2
    refine wp_loop_rounds 1 ?_
    rw [rounds_succ]
    go_wp2
    go_ret2
    exact ⟨_, by rw [HP.out]; rfl, by rw [HP.out]; exact World.ownsRow_made w #[] 0 (Nat.le_refl _) (Nat.zero_le _) rfl, (Below.refl _ _).alloc (Nat.le_refl _) _⟩
  · have hz : 0 < (s.size : Int) := by omega
    have hne : s.data.toList ≠ [] := by intro e; have := Lib.size_eq s; rw [e] at this; exact h0 (by simpa using this)
    have HP := Lib.hid (parses_ne hne)
    have HNO : Hid (∀ p, p ∈ pl s.data.toList → (parseOf p).2 = false → parsesOf s.data.toList = ([], false)) := Lib.hid (fun p h1 h2 => by rw [HP.out]; exact nums_no h1 h2)
    have HYES : Hid (∀ ps, ps = pl s.data.toList → allOk ps → parsesOf s.data.toList = (ps.map val1, true)) := Lib.hid (fun ps h1 h2 => by rw [HP.out, ← h1]; exact nums_yes h2)
    clear hne HP h0
    generalize parsesOf s.data.toList = R at HNO HYES
    go_enter Tryd.func21, Tryd.ntmps21
    go_wp2
    go_loopw [4, 5, 6] (fun v fv iv wr => ∃ (k f : Nat) (ps : List (List UInt8)), k ≤ s.size + 1 ∧ iv = .int .i64 k ∧ fv = .int .i64 f ∧ cutTo s k = (f, ps) ∧ allOk ps ∧ Row wr w.heap.size 3 v (cellsOf (ps.map val1)) ∧ Below w.heap.size w wr)
        (fun _ _ iv _ => s.size + 1 - (intOf iv).toNat)
    case atStart => exact ⟨0, 0, [], Nat.zero_le _, rfl, rfl, rfl, (fun p hp => by cases hp), World.ownsRow_made w #[] 0 (Nat.le_refl _) (Nat.zero_le _) rfl, (Below.refl _ _).alloc (Nat.le_refl _) _⟩
    case round =>
      obtain ⟨k, f, ps, hk, rfl, rfl, hcut, hok, hrow, hb⟩ := hrel
      have hle := cutTo_le s k
      rw [hcut] at hle
      simp only at hle
      obtain ⟨hle1, hle2⟩ := hle
      have HC := Lib.hid hcut
      have HK := Lib.hid hok
      have HO := Lib.hid hrow
      have HB := Lib.hid hb
      have hB := hb.size
      clear hcut hok hrow hb
      by_cases hend : s.size < k
      · go_wp2
        go_ret2
        have e1 : ps = pl s.data.toList := by
          obtain rfl : k = s.size + 1 := by omega
          rw [← cutTo_end, HC.out]
        exact ⟨_, by rw [HYES.out ps e1 HK.out]; rfl, by rw [HYES.out ps e1 HK.out]; exact HO.out, HB.out⟩
      · have hkl : k ≤ s.size := by omega
        by_cases hhit : k = s.size ∨ byteI s k = 32
        · have HH := Lib.hid (cutTo_hit hhit)
          have HM := Lib.hid (cut_mem hkl hhit)
          rw [HC.out] at HH HM
          simp only at HH HM
          have HS := Lib.hid (fun W => specParse_any (s.extract f k) W (by simp; omega))
          have HV : Hid (∀ n b, parseOf (s.extract f k).data.toList = (n, b) → val1 (s.extract f k).data.toList = n ∧ (parseOf (s.extract f k).data.toList).2 = b) := Lib.hid (fun n b h => by unfold val1; rw [h]; exact ⟨rfl, rfl⟩)
          generalize hp : parseOf (s.extract f k).data.toList = p at HS
          have HPP := Lib.hid hp
          clear hp
          obtain ⟨n, ok⟩ := p
          obtain ⟨hv1, hv2⟩ := HV.out n ok HPP.out
          have HV1 := Lib.hid hv1
          have HV2 := Lib.hid hv2
          clear HV hv1 hv2 HPP
          have hbool : (k : Int) = s.size ∨ (k < s.size ∧ ∃ c : Int, 0 ≤ c ∧ c < 256 ∧ (c == 32) = true ∧ ∀ W : World, (Instr.index 9 (.string s) (.int .i64 k)).run Tryd.prog W = .ok (.int .u8 c) W) := by
            by_cases e : k = s.size
            · exact .inl (by omega)
            · obtain ⟨c, c0, c1, HCC, hix⟩ := byte_at (P := Tryd.prog) 9 s k (by omega) Tryd.underlying9
              refine .inr ⟨by omega, c, c0, c1, ?_, hix⟩
              rcases hhit with h | h
              · exact absurd h e
              · rw [byteI_eq (by omega) HCC.out] at h
                simp [h]
          rcases hbool with hb1 | ⟨hb1, c, c0, c1, h32, hix⟩
          · have hbe : ((k : Int) == (s.size : Int)) = true := by simpa using hb1
            clear hb1 hhit
            go_wp2_with fail
            refine (HS.out _).mono ?_
            rintro e w1 ⟨rfl, b1⟩
            have HO1 := Lib.hid (HO.out.kept b1)
            have HB1 := Lib.hid (HB.out.trans (b1.mono hB))
            have hB1 := HB1.out.size
            clear b1
            cases ok with
            | false =>
              go_wp2
              go_ret2
              exact IntsPost.none (HNO.out _ HM.out HV2.out) rfl HB1.out
            | true =>
              go_wp2_with (at_builtin; refine append_one rfl _ _ 24 rfl w.heap.size 3 i0 _ 8 Tryd.underlying24 hi hz0 hz1 hz2 rfl (by decide) _ _ rfl HO1.out _ rfl rfl (by simp [cellsOf]; omega) hB1 ?_; intro v' w2 hown2 hb2; have HO2 := Lib.hid hown2; have HB2 := Lib.hid hb2; clear hown2 hb2)
              go_roundw
              case rel => exact ⟨k + 1, k + 1, _, by omega, by go_num, by go_num, HH.out, allOk_snoc HK.out HV2.out, by rw [List.map_append, List.map_cons, List.map_nil, HV1.out]; simpa [cellsOf] using HO2.out, HB1.out.trans HB2.out⟩
              case measure => simp [intOf]; omega
          · have hbe : ((k : Int) == (s.size : Int)) = false := by simp; omega
            clear hhit
            go_wp2_with fail
            refine (HS.out _).mono ?_
            rintro e w1 ⟨rfl, b1⟩
            have HO1 := Lib.hid (HO.out.kept b1)
            have HB1 := Lib.hid (HB.out.trans (b1.mono hB))
            have hB1 := HB1.out.size
            clear b1
            cases ok with
            | false =>
              go_wp2
              go_ret2
              exact IntsPost.none (HNO.out _ HM.out HV2.out) rfl HB1.out
            | true =>
              go_wp2_with (at_builtin; refine append_one rfl _ _ 24 rfl w.heap.size 3 i0 _ 8 Tryd.underlying24 hi hz0 hz1 hz2 rfl (by decide) _ _ rfl HO1.out _ rfl rfl (by simp [cellsOf]; omega) hB1 ?_; intro v' w2 hown2 hb2; have HO2 := Lib.hid hown2; have HB2 := Lib.hid hb2; clear hown2 hb2)
              go_roundw
              case rel => exact ⟨k + 1, k + 1, _, by omega, by go_num, by go_num, HH.out, allOk_snoc HK.out HV2.out, by rw [List.map_append, List.map_cons, List.map_nil, HV1.out]; simpa [cellsOf] using HO2.out, HB1.out.trans HB2.out⟩
              case measure => simp [intOf]; omega
        · have HH := Lib.hid (cutTo_miss hhit)
          have hlt : k < s.size := by
            rcases Nat.lt_or_ge k s.size with h | h
            · exact h
            · exact absurd (.inl (by omega)) hhit
          obtain ⟨c, c0, c1, HCC, hix⟩ := byte_at (P := Tryd.prog) 9 s k hlt Tryd.underlying9
          have hbe : ((k : Int) == (s.size : Int)) = false := by simp; omega
          have h32 : (c == 32) = false := by
            have := byteI_eq hlt HCC.out
            simp
            intro e
            exact hhit (.inr (by omega))
          clear hhit
          go_wp2
          go_roundw
          case rel => exact ⟨k + 1, f, ps, by omega, by go_num, rfl, by rw [HH.out]; exact HC.out, HK.out, HO.out, HB.out⟩
          case measure => simp [intOf]; omega
end Go.Proofs.YtfoegoobcpmddaaDoor
