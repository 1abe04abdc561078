/-
  ParseTerm of both sides: the one term of a list of one.
-/
import Derived.Test.YtokndpmoamjbfaaDoorSpecParse
namespace Go.Proofs.YtokndpmoamjbfaaDoor
open Go.RowKit
set_option linter.unusedVariables false
set_option linter.unusedSimpArgs false

theorem all_szL (K : Nat) (T : List ByteArray) : ∀ (n i : Nat) (l : List Tm), allP K T n i = some l → szL l ≤ 26 * (T.length - i)
  | 0, i, l, h => by rw [allP] at h; cases h; exact Nat.zero_le _
  | n + 1, i, l, h => by
    rw [allP] at h
    split at h
    · cases h; exact Nat.zero_le _
    · split at h
      · cases h
      · rename_i t j hv
        split at h
        · cases h
        · rename_i l' hl
          cases h
          have h1 := all_szL K T n j l' hl
          have h2 := (read_ok T K).1 _ _ _ (valid_inv hv).1
          have h3 := (read_le leafI T K).1 _ _ _ (valid_inv hv).1
          have h4 := h2.1
          have h5 := h2.2.1
          have h6 := h2.2.2
          rw [szL]
          omega
theorem pt_szL (s : ByteArray) : szL (ptT s) ≤ 1048576 := by
  unfold ptT
  cases h : ptO s with
  | none => exact Nat.zero_le _
  | some l =>
    show szL l ≤ 1048576
    have hb := (tokens_bounds s).1
    unfold ptO at h
    split at h
    · unfold termsP at h
      split at h
      · cases h
      · rename_i l' hl
        split at h
        · cases h
          have := all_szL _ _ _ _ _ hl
          omega
        · cases h
    · cases h
theorem pt_len (s : ByteArray) : (ptT s).length ≤ 40 := by
  unfold ptT
  cases h : ptO s with
  | none => exact Nat.zero_le _
  | some l =>
    show l.length ≤ 40
    unfold ptO at h
    split at h
    · unfold termsP at h
      split at h
      · cases h
      · split at h
        · rename_i h40
          cases h
          exact h40
        · cases h
    · cases h
theorem pt_false {s : ByteArray} (h : ptB s = false) : ptT s = [] := by
  unfold ptB at h
  unfold ptT
  cases ho : ptO s with
  | none => rfl
  | some l => rw [ho] at h; cases h

noncomputable def p1T (s : ByteArray) : Tm := match ptT s with | [t] => t | _ => zeroTm
noncomputable def p1B (s : ByteArray) : Bool := match ptT s with | [_] => true | _ => false
theorem p1_one {s : ByteArray} {t : Tm} (h : ptT s = [t]) : p1T s = t ∧ p1B s = true := by unfold p1T p1B; rw [h]; exact ⟨rfl, rfl⟩
theorem p1_no {s : ByteArray} (h : ¬ (ptT s).length = 1) : p1T s = zeroTm ∧ p1B s = false := by
  unfold p1T p1B
  match hl : ptT s with
  | [] => exact ⟨rfl, rfl⟩
  | [t] => rw [hl] at h; exact absurd rfl h
  | _ :: _ :: _ => exact ⟨rfl, rfl⟩
theorem p1_sz (s : ByteArray) : (p1T s).sz ≤ 1048576 := by
  have h := pt_szL s
  by_cases h1 : (ptT s).length = 1
  · obtain ⟨t, ht⟩ := List.length_eq_one_iff.1 h1
    rw [(p1_one ht).1]
    rw [ht, szL] at h
    omega
  · rw [(p1_no h1).1, zeroTm, Tm.sz, szL]
    exact Nat.zero_le _
theorem Own.one {w : World} {e : TypeId} {S : Nat → Prop} {v : Value} {t : Tm} (h : Own w e S v [t]) :
    ∃ g cap x c, v = .slice (some ⟨g, 0, none⟩) 1 cap ∧ S g ∧ g < w.heap.size ∧ (w.cell? ⟨g, 0, none⟩ = some (.int .i64 t.kind) ∧ w.cell? ⟨g, 1, none⟩ = some (.int .i64 t.num) ∧ w.cell? ⟨g, 2, none⟩ = some (.string t.name) ∧ w.cell? ⟨g, 3, none⟩ = some (.slice x t.args.length c)) ∧ Own w e S (.slice x t.args.length c) t.args := by
  cases h with
  | row S g n cap L C l hl hn hg hown hr hC hd =>
    match L, hl, hn with
    | [(a, V)], hl, hn =>
      simp at hl
      subst hl
      subst hn
      have h0 := hr 0 (t, V) rfl
      have h1 : Own w e S V t.args := h0.sub fun k hk => (hC 0 k (by simp) hk).1
      obtain ⟨x, c, rfl⟩ := h1.argsAt.slice
      have cc : ∀ i v, (cells4 t (.slice x t.args.length c))[i]? = some v → w.cell? ⟨g, i, none⟩ = some v := fun i v hv => by
        have hi : i < 4 := by have := (List.getElem?_eq_some_iff.1 hv).1; simpa [cells4] using this
        rw [World.ownsRow.cellAt hown _ (by simpa using hi)]
        have := cellsL_at (L := [(t, .slice x t.args.length c)]) (j := 0) rfl hv
        simpa using this
      exact ⟨g, cap, x, c, rfl, hg, row_hit hown, ⟨cc 0 _ rfl, cc 1 _ rfl, cc 2 _ rfl, cc 3 _ rfl⟩, h1⟩
    | [], hl, hn => simp at hl
    | _ :: _ :: _, hl, hn => simp at hl

/-- A term that can be read, and whether. -/
def SOld2 (t : Tm) (b : Bool) (w : World) (e : Ending) (w' : World) : Prop := ∃ u, e = .returned (.tuple #[.agg #[.int .i64 t.kind, .int .i64 t.num, .string t.name, u], .bool b]) ∧ ArgsAt w' u t.args ∧ Below w.heap.size w w'

set_option maxRecDepth 100000 in
set_option maxHeartbeats 4000000 in
theorem implParseTerm_any (s : ByteArray) (w : World) (hf : TabErrs w) (hs : s.size ≤ 1048576) :
    Calls Tryd.prog 9 #[.string s] w (NewTm2 (p1T s) (p1B s) w) := by
  have hal : Below w.heap.size w (w.alloc (.cells #[.int .i64 0, .int .i64 0, .string ⟨#[]⟩, .slice none 0 0] 26)) := belowAlloc (Below.refl _ _) _
  have HR := Lib.hid (at_box w #[.int .i64 0, .int .i64 0, .string ⟨#[]⟩, .slice none 0 0] 26)
  have HW := Lib.hid hal
  have HC := Lib.hid (implParseTerms_any s _ (tabErrs_after hf hal) hs)
  have HONE := Lib.hid (fun (t : Tm) (h : ptT s = [t]) => p1_one h)
  have HNO := Lib.hid (fun h => p1_no (s := s) h)
  have HFL := Lib.hid (fun h => pt_false (s := s) h)
  generalize ptT s = l at HC HONE HNO HFL
  generalize ptB s = b at HC HFL
  generalize p1T s = t at HONE HNO ⊢
  generalize p1B s = b1 at HONE HNO ⊢
  have hsz : (w.alloc (.cells #[.int .i64 0, .int .i64 0, .string ⟨#[]⟩, .slice none 0 0] 26)).heap.size = w.heap.size + 1 := by simp
  clear hal hf
  go_enter Tryd.func9, Tryd.ntmps9
  go_upto_region 1 with (fail)
  generalize hw0 : w.alloc (.cells #[.int .i64 0, .int .i64 0, .string ⟨#[]⟩, .slice none 0 0] 26) = w0 at HR HW HC hsz ⊢
  clear hw0
  go_wp2_with fail
  refine HC.out.mono ?_
  rintro e w1 ⟨v, rfl, hown, hb⟩
  have HRE := Lib.hid (HR.out.read hb).now
  have HB := Lib.hid hb
  have HOWN := Lib.hid hown
  obtain ⟨r0, r1, r2, r3, rf⟩ := box_cells HRE.out
  clear hown hb HC HR
  cases b with
  | false =>
    obtain rfl := HFL.out rfl
    obtain ⟨rfl, rfl⟩ := HNO.out (by simp)
    obtain ⟨xa, xc, rfl⟩ := HOWN.out.argsAt.slice
    go_wp2
    exact newTm2_end (p := 2) (q := 3) (b := w.heap.size) rfl rfl rfl rfl rfl rfl rfl Tryd.underlying26 (by kernel_rfl) HRE.out HW.out (Nat.le_refl _) (by omega) (zero_new HB.out)
  | true =>
    by_cases h1 : l.length = 1
    · obtain ⟨x, rfl⟩ := List.length_eq_one_iff.1 h1
      obtain ⟨rfl, rfl⟩ := HONE.out x rfl
      obtain ⟨g, cap, xa, xc, rfl, hg, hgl, ⟨c0, c1, c2, c3⟩, ho⟩ := HOWN.out.one
      have HN := Lib.hid (And.intro ho HB.out)
      have hne : ¬ g = w.heap.size := by have := hg.1; omega
      have hne2 : ¬ w.heap.size = g := by have := hg.1; omega
      clear ho h1 hg
      go_wp2
      exact newTm2_end (p := 2) (q := 3) (b := w.heap.size) rfl rfl rfl rfl rfl rfl rfl Tryd.underlying26 (by kernel_rfl) HRE.out HW.out (Nat.le_refl _) (by omega) HN.out
    · obtain ⟨rfl, rfl⟩ := HNO.out h1
      obtain ⟨xa, xc, rfl⟩ := HOWN.out.argsAt.slice
      have d : ((l.length : Int) == 1) = false := by rw [beq_eq_false_iff_ne]; omega
      have d2 : ((l.length : Int) != 1) = true := by simp only [bne, d]; rfl
      clear h1
      go_wp2
      exact newTm2_end (p := 2) (q := 3) (b := w.heap.size) rfl rfl rfl rfl rfl rfl rfl Tryd.underlying26 (by kernel_rfl) HRE.out HW.out (Nat.le_refl _) (by omega) (zero_new HB.out)

set_option maxRecDepth 100000 in
set_option maxHeartbeats 4000000 in
theorem specParseTerm_any (s : ByteArray) (w : World) (hs : s.size ≤ 1048576) :
    Calls Tryd.prog 19 #[.string s] w (SOld2 (p1T s) (p1B s) w) := by
  have hal : Below w.heap.size w (w.alloc (.cells #[.int .i64 0, .int .i64 0, .string ⟨#[]⟩, .slice none 0 0] 26)) := belowAlloc (Below.refl _ _) _
  have HR := Lib.hid (at_box w #[.int .i64 0, .int .i64 0, .string ⟨#[]⟩, .slice none 0 0] 26)
  have HW := Lib.hid hal
  have HC := Lib.hid (specParseTerms_any s (w.alloc (.cells #[.int .i64 0, .int .i64 0, .string ⟨#[]⟩, .slice none 0 0] 26)) hs)
  have HONE := Lib.hid (fun (t : Tm) (h : ptT s = [t]) => p1_one h)
  have HNO := Lib.hid (fun h => p1_no (s := s) h)
  have HFL := Lib.hid (fun h => pt_false (s := s) h)
  generalize ptT s = l at HC HONE HNO HFL
  generalize ptB s = b at HC HFL
  generalize p1T s = t at HONE HNO ⊢
  generalize p1B s = b1 at HONE HNO ⊢
  have hsz : (w.alloc (.cells #[.int .i64 0, .int .i64 0, .string ⟨#[]⟩, .slice none 0 0] 26)).heap.size = w.heap.size + 1 := by simp
  clear hal
  go_enter Tryd.func19, Tryd.ntmps19
  go_upto_region 1 with (fail)
  generalize hw0 : w.alloc (.cells #[.int .i64 0, .int .i64 0, .string ⟨#[]⟩, .slice none 0 0] 26) = w0 at HR HW HC hsz ⊢
  clear hw0
  go_wp2_with fail
  refine HC.out.mono ?_
  rintro e w1 ⟨v, rfl, hown, hb⟩
  have HRE := Lib.hid (HR.out.read hb).now
  have HB := Lib.hid (belowOn HW.out (Nat.le_refl _) hb)
  obtain ⟨xa, xc, rfl⟩ := hown.at.slice
  have HOWN := Lib.hid hown
  obtain ⟨r0, r1, r2, r3, rf⟩ := box_cells HRE.out
  have END : ∀ (y : Tm) (bb : Bool) (ya : Option Addr) (yc : Nat) (w' : World), Only (fun k => k = w.heap.size) w1 w' → ArgsS w1 (fun k => ¬ k = w.heap.size) (.slice ya y.args.length yc) y.args → SOld2 y bb w (.returned (.tuple #[.agg #[.int .i64 y.kind, .int .i64 y.num, .string y.name, .slice ya y.args.length yc], .bool bb])) w' := fun y bb ya yc w' ho ha =>
    ⟨_, rfl, (ha.frame ho.size fun k hk hks => ho.block k hks hk).at, HB.out.trans (ho.below (fun k hk => by omega) HB.out.size)⟩
  have HEND := Lib.hid END
  clear hown hb HC HR END
  cases b with
  | false =>
    obtain rfl := HFL.out rfl
    obtain ⟨rfl, rfl⟩ := HNO.out (by simp)
    go_wp2
    refine bodyPost_four2 (p := 2) (q := 3) (b := w.heap.size) (z := .bool false) rfl rfl rfl rfl Tryd.underlying26 rfl (by kernel_rfl) HRE.out fun w' hw => ?_
    exact HEND.out zeroTm false none 0 w' hw (.nil _ _)
  | true =>
    by_cases h1 : l.length = 1
    · obtain ⟨x, rfl⟩ := List.length_eq_one_iff.1 h1
      obtain ⟨rfl, rfl⟩ := HONE.out x rfl
      obtain ⟨g, off, ua, uc, rfl, hg, hn, hc, hu⟩ := HOWN.out.elem (k := 0) (x := t) rfl
      obtain ⟨c0, c1, c2, c3⟩ := hc w1 (Below.refl _ _)
      have HU := Lib.hid (hu.sub (S' := fun k => ¬ k = w.heap.size) fun k hk => by have := hk.1; omega)
      have c0' : w1.cell? ⟨g, off, none⟩ = some (.int .i64 t.kind) := by simpa using c0
      have c1' : w1.cell? ⟨g, off + 1, none⟩ = some (.int .i64 t.num) := by simpa using c1
      have c2' : w1.cell? ⟨g, off + 2, none⟩ = some (.string t.name) := by simpa using c2
      have c3' : w1.cell? ⟨g, off + 3, none⟩ = some (.slice ua t.args.length uc) := by simpa using c3
      clear hc hu h1 c0 c1 c2 c3 HOWN
      go_wp2
      refine bodyPost_four2 (p := 2) (q := 3) (b := w.heap.size) (z := .bool true) rfl rfl rfl rfl Tryd.underlying26 rfl (by kernel_rfl) HRE.out fun w' hw => ?_
      exact HEND.out t true ua uc w' hw HU.out
    · obtain ⟨rfl, rfl⟩ := HNO.out h1
      have d : ((l.length : Int) == 1) = false := by rw [beq_eq_false_iff_ne]; omega
      have d2 : ((l.length : Int) != 1) = true := by simp only [bne, d]; rfl
      clear h1
      go_wp2
      refine bodyPost_four2 (p := 2) (q := 3) (b := w.heap.size) (z := .bool false) rfl rfl rfl rfl Tryd.underlying26 rfl (by kernel_rfl) HRE.out fun w' hw => ?_
      exact HEND.out zeroTm false none 0 w' hw (.nil _ _)
end Go.Proofs.YtokndpmoamjbfaaDoor

