/-
  The contract of the model's test of a term's form, l02Shape.
-/
import Derived.Test.YtokndpmoamjbfaaDoorCount
import Derived.Test.YtokndpmoamjbfaaDoorFit
namespace Go.Proofs.YtokndpmoamjbfaaDoor
open Go.RowKit

def ShapeP (t : Tm) (w : World) (e : Ending) (w' : World) : Prop := ∃ b, e = .returned (.bool b) ∧ (b = true ↔ Good t) ∧ Below w.heap.size w w'

set_option maxHeartbeats 1600000 in
/-- One node, its two parts (if it has the form of a pair) tested by what is known of them. -/
theorem shape_of (k i : Int) (s : ByteArray) (a : Option Addr) (cap : Nat) (l : List Tm) (w : World) (hs : s.size ≤ maxLen) (hl : l.length ≤ 1048576)
    (HP : Hid (k = 4 → i = 0 → s = ⟨#[]⟩ → l.length = 2 → Calls Tryd.prog 62 #[.agg #[.int .i64 k, .int .i64 i, .string s, .slice a l.length cap]] w (ShapeP (.mk k i s l) w))) :
    Calls Tryd.prog 62 #[.agg #[.int .i64 k, .int .i64 i, .string s, .slice a l.length cap]] w (ShapeP (.mk k i s l) w) := by
  have hl0 : l = [] ↔ l.length = 0 := List.length_eq_zero_iff.symm
  have HL := Lib.hid hl0
  clear hl0
  have HE : Hid ((⟨#[]⟩ : ByteArray) = ByteArray.empty) := Lib.hid rfl
  generalize hn : l.length = n at hl HL HP ⊢
  have HN := Lib.hid hn
  rcases kind_cases k with rfl | rfl | rfl | rfl | rfl | ⟨k0, k1, k2, k3, k4⟩
  · by_cases h1 : i = 0
    · subst h1
      by_cases h2 : s = ⟨#[]⟩
      · subst h2
        by_cases h0 : n = 0
        · subst h0
          go_enter Tryd.func62, Tryd.ntmps62
          go_wp2
          go_ret
          refine ⟨_, rfl, ?_, ?_⟩
          · rw [good_none (t := .mk _ _ _ l) (List.length_eq_zero_iff.1 HN.out)]; have := HL.out; have hE := HE.out; simp [Fit, Tm.kind, Tm.num, Tm.name, Tm.args, *] <;> (try (intros; omega))
          · exact (Below.refl _ _).alloc (Nat.le_refl _) _
        · have h0' : 0 < (n : Int) := by omega
          go_enter Tryd.func62, Tryd.ntmps62
          go_wp2
          go_ret
          refine ⟨_, rfl, ?_, ?_⟩
          · refine iff_of_false (by simp) fun hg => ?_; have hf := hg.fit; have := HL.out; have hE := HE.out; simp [Fit, Tm.kind, Tm.num, Tm.name, Tm.args, *] at hf <;> (try omega)
          · exact (Below.refl _ _).alloc (Nat.le_refl _) _
      · have h2x := not_empty h2; have h2y : ¬ s = ByteArray.empty := h2
        go_enter Tryd.func62, Tryd.ntmps62
        go_wp2
        go_ret
        refine ⟨_, rfl, ?_, ?_⟩
        · refine iff_of_false (by simp) fun hg => ?_; have hf := hg.fit; have := HL.out; have hE := HE.out; simp [Fit, Tm.kind, Tm.num, Tm.name, Tm.args, *] at hf <;> (try omega)
        · exact (Below.refl _ _).alloc (Nat.le_refl _) _
    · go_enter Tryd.func62, Tryd.ntmps62
      go_wp2
      go_ret
      refine ⟨_, rfl, ?_, ?_⟩
      · refine iff_of_false (by simp) fun hg => ?_; have hf := hg.fit; have := HL.out; have hE := HE.out; simp [Fit, Tm.kind, Tm.num, Tm.name, Tm.args, *] at hf <;> (try omega)
      · exact (Below.refl _ _).alloc (Nat.le_refl _) _
  · by_cases h2 : s = ⟨#[]⟩
    · subst h2
      by_cases h0 : n = 0
      · subst h0
        by_cases h3 : 0 ≤ i
        · by_cases h4 : i ≤ 100000
          · go_enter Tryd.func62, Tryd.ntmps62
            go_wp2
            go_ret
            refine ⟨_, rfl, ?_, ?_⟩
            · rw [good_none (t := .mk _ _ _ l) (List.length_eq_zero_iff.1 HN.out)]; have := HL.out; have hE := HE.out; simp [Fit, Tm.kind, Tm.num, Tm.name, Tm.args, *] <;> (try (intros; omega))
            · exact (Below.refl _ _).alloc (Nat.le_refl _) _
          · go_enter Tryd.func62, Tryd.ntmps62
            go_wp2
            go_ret
            refine ⟨_, rfl, ?_, ?_⟩
            · refine iff_of_false (by simp) fun hg => ?_; have hf := hg.fit; have := HL.out; have hE := HE.out; simp [Fit, Tm.kind, Tm.num, Tm.name, Tm.args, *] at hf <;> (try omega)
            · exact (Below.refl _ _).alloc (Nat.le_refl _) _
        · go_enter Tryd.func62, Tryd.ntmps62
          go_wp2
          go_ret
          refine ⟨_, rfl, ?_, ?_⟩
          · refine iff_of_false (by simp) fun hg => ?_; have hf := hg.fit; have := HL.out; have hE := HE.out; simp [Fit, Tm.kind, Tm.num, Tm.name, Tm.args, *] at hf <;> (try omega)
          · exact (Below.refl _ _).alloc (Nat.le_refl _) _
      · have h0' : 0 < (n : Int) := by omega
        go_enter Tryd.func62, Tryd.ntmps62
        go_wp2
        go_ret
        refine ⟨_, rfl, ?_, ?_⟩
        · refine iff_of_false (by simp) fun hg => ?_; have hf := hg.fit; have := HL.out; have hE := HE.out; simp [Fit, Tm.kind, Tm.num, Tm.name, Tm.args, *] at hf <;> (try omega)
        · exact (Below.refl _ _).alloc (Nat.le_refl _) _
    · have h2x := not_empty h2; have h2y : ¬ s = ByteArray.empty := h2
      go_enter Tryd.func62, Tryd.ntmps62
      go_wp2
      go_ret
      refine ⟨_, rfl, ?_, ?_⟩
      · refine iff_of_false (by simp) fun hg => ?_; have hf := hg.fit; have := HL.out; have hE := HE.out; simp [Fit, Tm.kind, Tm.num, Tm.name, Tm.args, *] at hf <;> (try omega)
      · exact (Below.refl _ _).alloc (Nat.le_refl _) _
  · by_cases h1 : i = 0
    · subst h1
      by_cases h0 : n = 0
      · subst h0
        go_enter Tryd.func62, Tryd.ntmps62
        go_wp2_with (first | (go_at_call 77; refine (specIsName_any _ _ hs).mono ?_; rintro e w' ⟨rfl, rfl⟩) | go_in)
        go_ret
        refine ⟨_, rfl, ?_, ?_⟩
        · rw [good_none (t := .mk _ _ _ l) (List.length_eq_zero_iff.1 HN.out)]; have := HL.out; have hE := HE.out; simp [Fit, Tm.kind, Tm.num, Tm.name, Tm.args, *] <;> (try (intros; omega))
        · exact (Below.refl _ _).alloc (Nat.le_refl _) _
      · have h0' : 0 < (n : Int) := by omega
        go_enter Tryd.func62, Tryd.ntmps62
        go_wp2
        go_ret
        refine ⟨_, rfl, ?_, ?_⟩
        · refine iff_of_false (by simp) fun hg => ?_; have hf := hg.fit; have := HL.out; have hE := HE.out; simp [Fit, Tm.kind, Tm.num, Tm.name, Tm.args, *] at hf <;> (try omega)
        · exact (Below.refl _ _).alloc (Nat.le_refl _) _
    · go_enter Tryd.func62, Tryd.ntmps62
      go_wp2
      go_ret
      refine ⟨_, rfl, ?_, ?_⟩
      · refine iff_of_false (by simp) fun hg => ?_; have hf := hg.fit; have := HL.out; have hE := HE.out; simp [Fit, Tm.kind, Tm.num, Tm.name, Tm.args, *] at hf <;> (try omega)
      · exact (Below.refl _ _).alloc (Nat.le_refl _) _
  · by_cases h2 : s = ⟨#[]⟩
    · subst h2
      by_cases h0 : n = 0
      · subst h0
        by_cases h3 : -1000000000 ≤ i
        · by_cases h4 : i ≤ 1000000000
          · go_enter Tryd.func62, Tryd.ntmps62
            go_wp2
            go_ret
            refine ⟨_, rfl, ?_, ?_⟩
            · rw [good_none (t := .mk _ _ _ l) (List.length_eq_zero_iff.1 HN.out)]; have := HL.out; have hE := HE.out; simp [Fit, Tm.kind, Tm.num, Tm.name, Tm.args, *] <;> (try (intros; omega))
            · exact (Below.refl _ _).alloc (Nat.le_refl _) _
          · go_enter Tryd.func62, Tryd.ntmps62
            go_wp2
            go_ret
            refine ⟨_, rfl, ?_, ?_⟩
            · refine iff_of_false (by simp) fun hg => ?_; have hf := hg.fit; have := HL.out; have hE := HE.out; simp [Fit, Tm.kind, Tm.num, Tm.name, Tm.args, *] at hf <;> (try omega)
            · exact (Below.refl _ _).alloc (Nat.le_refl _) _
        · go_enter Tryd.func62, Tryd.ntmps62
          go_wp2
          go_ret
          refine ⟨_, rfl, ?_, ?_⟩
          · refine iff_of_false (by simp) fun hg => ?_; have hf := hg.fit; have := HL.out; have hE := HE.out; simp [Fit, Tm.kind, Tm.num, Tm.name, Tm.args, *] at hf <;> (try omega)
          · exact (Below.refl _ _).alloc (Nat.le_refl _) _
      · have h0' : 0 < (n : Int) := by omega
        go_enter Tryd.func62, Tryd.ntmps62
        go_wp2
        go_ret
        refine ⟨_, rfl, ?_, ?_⟩
        · refine iff_of_false (by simp) fun hg => ?_; have hf := hg.fit; have := HL.out; have hE := HE.out; simp [Fit, Tm.kind, Tm.num, Tm.name, Tm.args, *] at hf <;> (try omega)
        · exact (Below.refl _ _).alloc (Nat.le_refl _) _
    · have h2x := not_empty h2; have h2y : ¬ s = ByteArray.empty := h2
      go_enter Tryd.func62, Tryd.ntmps62
      go_wp2
      go_ret
      refine ⟨_, rfl, ?_, ?_⟩
      · refine iff_of_false (by simp) fun hg => ?_; have hf := hg.fit; have := HL.out; have hE := HE.out; simp [Fit, Tm.kind, Tm.num, Tm.name, Tm.args, *] at hf <;> (try omega)
      · exact (Below.refl _ _).alloc (Nat.le_refl _) _
  · by_cases h1 : i = 0
    · subst h1
      by_cases h2 : s = ⟨#[]⟩
      · subst h2
        by_cases h5 : n = 2
        · rw [h5] at HN HP ⊢
          exact HP.out rfl rfl rfl rfl
        · have h5' : ¬ (n : Int) = 2 := by omega
          go_enter Tryd.func62, Tryd.ntmps62
          go_wp2
          go_ret
          refine ⟨_, rfl, ?_, ?_⟩
          · refine iff_of_false (by simp) fun hg => ?_; have hf := hg.fit; have := HL.out; have hE := HE.out; simp [Fit, Tm.kind, Tm.num, Tm.name, Tm.args, *] at hf <;> (try omega)
          · exact (Below.refl _ _).alloc (Nat.le_refl _) _
      · have h2x := not_empty h2; have h2y : ¬ s = ByteArray.empty := h2
        go_enter Tryd.func62, Tryd.ntmps62
        go_wp2
        go_ret
        refine ⟨_, rfl, ?_, ?_⟩
        · refine iff_of_false (by simp) fun hg => ?_; have hf := hg.fit; have := HL.out; have hE := HE.out; simp [Fit, Tm.kind, Tm.num, Tm.name, Tm.args, *] at hf <;> (try omega)
        · exact (Below.refl _ _).alloc (Nat.le_refl _) _
    · go_enter Tryd.func62, Tryd.ntmps62
      go_wp2
      go_ret
      refine ⟨_, rfl, ?_, ?_⟩
      · refine iff_of_false (by simp) fun hg => ?_; have hf := hg.fit; have := HL.out; have hE := HE.out; simp [Fit, Tm.kind, Tm.num, Tm.name, Tm.args, *] at hf <;> (try omega)
      · exact (Below.refl _ _).alloc (Nat.le_refl _) _
  · by_cases h1 : i = 0
    · subst h1
      by_cases h2 : s = ⟨#[]⟩
      · subst h2
        go_enter Tryd.func62, Tryd.ntmps62
        go_wp2
        all_goals go_ret
        all_goals exact ⟨_, rfl, iff_of_false (by simp) (fun hg => by have hf := hg.fit; simp [Fit, Tm.kind, Tm.num, Tm.name, Tm.args, *] at hf), (Below.refl _ _).alloc (Nat.le_refl _) _⟩
      · have h2x := not_empty h2; have h2y : ¬ s = ByteArray.empty := h2
        go_enter Tryd.func62, Tryd.ntmps62
        go_wp2
        go_ret
        refine ⟨_, rfl, ?_, ?_⟩
        · refine iff_of_false (by simp) fun hg => ?_; have hf := hg.fit; have := HL.out; have hE := HE.out; simp [Fit, Tm.kind, Tm.num, Tm.name, Tm.args, *] at hf <;> (try omega)
        · exact (Below.refl _ _).alloc (Nat.le_refl _) _
    · go_enter Tryd.func62, Tryd.ntmps62
      go_wp2
      go_ret
      refine ⟨_, rfl, ?_, ?_⟩
      · refine iff_of_false (by simp) fun hg => ?_; have hf := hg.fit; have := HL.out; have hE := HE.out; simp [Fit, Tm.kind, Tm.num, Tm.name, Tm.args, *] at hf <;> (try omega)
      · exact (Below.refl _ _).alloc (Nat.le_refl _) _
end Go.Proofs.YtokndpmoamjbfaaDoor

