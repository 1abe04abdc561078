/-
  The contracts of the program's own test of a node's form and of the size of a term: fieldsFit, sizeWithin, TermSize, TermOk.
-/
import Derived.Test.YtokndpmoamjbfaaEq
import Derived.Test.YtokndpmoamjbfaaName
namespace Go.Proofs.Ytokndpmoamjbfaa
open Go.RowKit

theorem kind_cases (k : Int) : k = 0 ∨ k = 1 ∨ k = 2 ∨ k = 3 ∨ k = 4 ∨ (¬ k = 0 ∧ ¬ k = 1 ∧ ¬ k = 2 ∧ ¬ k = 3 ∧ ¬ k = 4) := by omega

theorem not_empty {s : ByteArray} (h : ¬ s = ⟨#[]⟩) : s.toList.isEmpty = false := by
  rw [Lib.toList_data]
  cases hs : s.data.toList with
  | nil => exact absurd (ByteArray.ext (Array.toList_inj.1 (by rw [hs]))) h
  | cons a b => rfl
def FitP (t : Tm) (w : World) (e : Ending) (w' : World) : Prop := ∃ b, e = .returned (.bool b) ∧ (b = true ↔ Fit t) ∧ Below w.heap.size w w'

set_option maxHeartbeats 1600000 in
theorem fieldsFit_any (k i : Int) (s : ByteArray) (a : Option Addr) (cap : Nat) (l : List Tm) (w : World) (hs : s.size ≤ maxLen) (hl : l.length ≤ 1048576) :
    Calls Try.prog 36 #[.agg #[.int .i64 k, .int .i64 i, .string s, .slice a l.length cap]] w (FitP (.mk k i s l) w) := by
  have hl0 : l = [] ↔ l.length = 0 := List.length_eq_zero_iff.symm
  have HL := Lib.hid hl0
  clear hl0
  have HE : Hid ((⟨#[]⟩ : ByteArray) = ByteArray.empty) := Lib.hid rfl
  generalize hn : l.length = n at hl HL ⊢
  have HN := Lib.hid hn
  rcases kind_cases k with rfl | rfl | rfl | rfl | rfl | ⟨k0, k1, k2, k3, k4⟩
  · by_cases h0 : n = 0
    · subst h0
      by_cases h1 : i = 0
      · subst h1
        by_cases h2 : s = ⟨#[]⟩
        · subst h2
          go_enter Try.func36, Try.ntmps36
          go_wp2
          go_ret
          refine ⟨_, rfl, ?_, ?_⟩
          · have := HL.out; have hE := HE.out; simp [Fit, Tm.kind, Tm.num, Tm.name, Tm.args, *] <;> (try (intros; omega))
          · exact ((Below.refl _ _).alloc (Nat.le_refl _) _).alloc (by simp) _
        · have h2x := not_empty h2; have h2y : ¬ s = ByteArray.empty := h2
          go_enter Try.func36, Try.ntmps36
          go_wp2
          go_ret
          refine ⟨_, rfl, ?_, ?_⟩
          · have := HL.out; have hE := HE.out; simp [Fit, Tm.kind, Tm.num, Tm.name, Tm.args, *] <;> (try (intros; omega))
          · exact ((Below.refl _ _).alloc (Nat.le_refl _) _).alloc (by simp) _
      · go_enter Try.func36, Try.ntmps36
        go_wp2
        go_ret
        refine ⟨_, rfl, ?_, ?_⟩
        · have := HL.out; have hE := HE.out; simp [Fit, Tm.kind, Tm.num, Tm.name, Tm.args, *] <;> (try (intros; omega))
        · exact ((Below.refl _ _).alloc (Nat.le_refl _) _).alloc (by simp) _
    · have h0' : 0 < (n : Int) := by omega
      go_enter Try.func36, Try.ntmps36
      go_wp2
      go_ret
      refine ⟨_, rfl, ?_, ?_⟩
      · have := HL.out; have hE := HE.out; simp [Fit, Tm.kind, Tm.num, Tm.name, Tm.args, *] <;> (try (intros; omega))
      · exact ((Below.refl _ _).alloc (Nat.le_refl _) _).alloc (by simp) _
  · by_cases h0 : n = 0
    · subst h0
      by_cases h3 : 0 ≤ i
      · by_cases h4 : i ≤ 100000
        · by_cases h2 : s = ⟨#[]⟩
          · subst h2
            go_enter Try.func36, Try.ntmps36
            go_wp2
            go_ret
            refine ⟨_, rfl, ?_, ?_⟩
            · have := HL.out; have hE := HE.out; simp [Fit, Tm.kind, Tm.num, Tm.name, Tm.args, *] <;> (try (intros; omega))
            · exact ((Below.refl _ _).alloc (Nat.le_refl _) _).alloc (by simp) _
          · have h2x := not_empty h2; have h2y : ¬ s = ByteArray.empty := h2
            go_enter Try.func36, Try.ntmps36
            go_wp2
            go_ret
            refine ⟨_, rfl, ?_, ?_⟩
            · have := HL.out; have hE := HE.out; simp [Fit, Tm.kind, Tm.num, Tm.name, Tm.args, *] <;> (try (intros; omega))
            · exact ((Below.refl _ _).alloc (Nat.le_refl _) _).alloc (by simp) _
        · go_enter Try.func36, Try.ntmps36
          go_wp2
          go_ret
          refine ⟨_, rfl, ?_, ?_⟩
          · have := HL.out; have hE := HE.out; simp [Fit, Tm.kind, Tm.num, Tm.name, Tm.args, *] <;> (try (intros; omega))
          · exact ((Below.refl _ _).alloc (Nat.le_refl _) _).alloc (by simp) _
      · go_enter Try.func36, Try.ntmps36
        go_wp2
        go_ret
        refine ⟨_, rfl, ?_, ?_⟩
        · have := HL.out; have hE := HE.out; simp [Fit, Tm.kind, Tm.num, Tm.name, Tm.args, *] <;> (try (intros; omega))
        · exact ((Below.refl _ _).alloc (Nat.le_refl _) _).alloc (by simp) _
    · have h0' : 0 < (n : Int) := by omega
      go_enter Try.func36, Try.ntmps36
      go_wp2
      go_ret
      refine ⟨_, rfl, ?_, ?_⟩
      · have := HL.out; have hE := HE.out; simp [Fit, Tm.kind, Tm.num, Tm.name, Tm.args, *] <;> (try (intros; omega))
      · exact ((Below.refl _ _).alloc (Nat.le_refl _) _).alloc (by simp) _
  · by_cases h0 : n = 0
    · subst h0
      by_cases h1 : i = 0
      · subst h1
        go_enter Try.func36, Try.ntmps36
        go_wp2_with (first | (go_at_call 43; refine (implIsName_any _ _ hs).mono ?_; rintro e w' ⟨rfl, hb⟩) | go_in)
        go_ret
        refine ⟨_, rfl, ?_, ?_⟩
        · have := HL.out; have hE := HE.out; simp [Fit, Tm.kind, Tm.num, Tm.name, Tm.args, *] <;> (try (intros; omega))
        · exact (((Below.refl _ _).alloc (Nat.le_refl _) _).alloc (by simp) _).trans (hb.mono (by simp; omega))
      · go_enter Try.func36, Try.ntmps36
        go_wp2
        go_ret
        refine ⟨_, rfl, ?_, ?_⟩
        · have := HL.out; have hE := HE.out; simp [Fit, Tm.kind, Tm.num, Tm.name, Tm.args, *] <;> (try (intros; omega))
        · exact ((Below.refl _ _).alloc (Nat.le_refl _) _).alloc (by simp) _
    · have h0' : 0 < (n : Int) := by omega
      go_enter Try.func36, Try.ntmps36
      go_wp2
      go_ret
      refine ⟨_, rfl, ?_, ?_⟩
      · have := HL.out; have hE := HE.out; simp [Fit, Tm.kind, Tm.num, Tm.name, Tm.args, *] <;> (try (intros; omega))
      · exact ((Below.refl _ _).alloc (Nat.le_refl _) _).alloc (by simp) _
  · by_cases h0 : n = 0
    · subst h0
      by_cases h3 : -1000000000 ≤ i
      · by_cases h4 : i ≤ 1000000000
        · by_cases h2 : s = ⟨#[]⟩
          · subst h2
            go_enter Try.func36, Try.ntmps36
            go_wp2
            go_ret
            refine ⟨_, rfl, ?_, ?_⟩
            · have := HL.out; have hE := HE.out; simp [Fit, Tm.kind, Tm.num, Tm.name, Tm.args, *] <;> (try (intros; omega))
            · exact ((Below.refl _ _).alloc (Nat.le_refl _) _).alloc (by simp) _
          · have h2x := not_empty h2; have h2y : ¬ s = ByteArray.empty := h2
            go_enter Try.func36, Try.ntmps36
            go_wp2
            go_ret
            refine ⟨_, rfl, ?_, ?_⟩
            · have := HL.out; have hE := HE.out; simp [Fit, Tm.kind, Tm.num, Tm.name, Tm.args, *] <;> (try (intros; omega))
            · exact ((Below.refl _ _).alloc (Nat.le_refl _) _).alloc (by simp) _
        · go_enter Try.func36, Try.ntmps36
          go_wp2
          go_ret
          refine ⟨_, rfl, ?_, ?_⟩
          · have := HL.out; have hE := HE.out; simp [Fit, Tm.kind, Tm.num, Tm.name, Tm.args, *] <;> (try (intros; omega))
          · exact ((Below.refl _ _).alloc (Nat.le_refl _) _).alloc (by simp) _
      · go_enter Try.func36, Try.ntmps36
        go_wp2
        go_ret
        refine ⟨_, rfl, ?_, ?_⟩
        · have := HL.out; have hE := HE.out; simp [Fit, Tm.kind, Tm.num, Tm.name, Tm.args, *] <;> (try (intros; omega))
        · exact ((Below.refl _ _).alloc (Nat.le_refl _) _).alloc (by simp) _
    · have h0' : 0 < (n : Int) := by omega
      go_enter Try.func36, Try.ntmps36
      go_wp2
      go_ret
      refine ⟨_, rfl, ?_, ?_⟩
      · have := HL.out; have hE := HE.out; simp [Fit, Tm.kind, Tm.num, Tm.name, Tm.args, *] <;> (try (intros; omega))
      · exact ((Below.refl _ _).alloc (Nat.le_refl _) _).alloc (by simp) _
  · by_cases h1 : i = 0
    · subst h1
      by_cases h2 : s = ⟨#[]⟩
      · subst h2
        by_cases h5 : n = 2
        · subst h5
          go_enter Try.func36, Try.ntmps36
          go_wp2
          go_ret
          refine ⟨_, rfl, ?_, ?_⟩
          · have := HL.out; have hE := HE.out; simp [Fit, Tm.kind, Tm.num, Tm.name, Tm.args, *] <;> (try (intros; omega))
          · exact ((Below.refl _ _).alloc (Nat.le_refl _) _).alloc (by simp) _
        · have h5' : ¬ (n : Int) = 2 := by omega
          go_enter Try.func36, Try.ntmps36
          go_wp2
          go_ret
          refine ⟨_, rfl, ?_, ?_⟩
          · have := HL.out; have hE := HE.out; simp [Fit, Tm.kind, Tm.num, Tm.name, Tm.args, *] <;> (try (intros; omega))
          · exact ((Below.refl _ _).alloc (Nat.le_refl _) _).alloc (by simp) _
      · have h2x := not_empty h2; have h2y : ¬ s = ByteArray.empty := h2
        go_enter Try.func36, Try.ntmps36
        go_wp2
        go_ret
        refine ⟨_, rfl, ?_, ?_⟩
        · have := HL.out; have hE := HE.out; simp [Fit, Tm.kind, Tm.num, Tm.name, Tm.args, *] <;> (try (intros; omega))
        · exact ((Below.refl _ _).alloc (Nat.le_refl _) _).alloc (by simp) _
    · go_enter Try.func36, Try.ntmps36
      go_wp2
      go_ret
      refine ⟨_, rfl, ?_, ?_⟩
      · have := HL.out; have hE := HE.out; simp [Fit, Tm.kind, Tm.num, Tm.name, Tm.args, *] <;> (try (intros; omega))
      · exact ((Below.refl _ _).alloc (Nat.le_refl _) _).alloc (by simp) _
  · by_cases h0 : n = 0
    · subst h0
      go_enter Try.func36, Try.ntmps36
      go_wp2
      go_ret
      refine ⟨_, rfl, ?_, ?_⟩
      · have := HL.out; have hE := HE.out; simp [Fit, Tm.kind, Tm.num, Tm.name, Tm.args, *] <;> (try (intros; omega))
      · exact ((Below.refl _ _).alloc (Nat.le_refl _) _).alloc (by simp) _
    · have h0' : 0 < (n : Int) := by omega
      go_enter Try.func36, Try.ntmps36
      go_wp2
      go_ret
      refine ⟨_, rfl, ?_, ?_⟩
      · have := HL.out; have hE := HE.out; simp [Fit, Tm.kind, Tm.num, Tm.name, Tm.args, *] <;> (try (intros; omega))
      · exact ((Below.refl _ _).alloc (Nat.le_refl _) _).alloc (by simp) _
end Go.Proofs.Ytokndpmoamjbfaa

