/-
  What a token stands for in the model: l03Atom.
  The model's l03Atom, walked.
-/
import Derived.Test.YtnbnepeikdieaaaDoorReaders
import Derived.Test.YtnbnepeikdieaaaDoorDraws
import Derived.Test.YtnbnepeikdieaaaDoorFits
import Derived.Test.YtnbnepeikdieaaaDoorNums
namespace Go.Proofs.YtnbnepeikdieaaaDoor
open Go.RowKit
set_option linter.unusedVariables false
set_option linter.unusedSimpArgs false

open Classical in
noncomputable def leafS (x : ByteArray) : Option Tm := match leafI x with | none => none | some t => if Good t then some t else none
theorem leafS_no {x : ByteArray} (h : leafI x = none) : leafS x = none := by rw [leafS, h]
theorem leafS_bad {x : ByteArray} {t : Tm} (h : leafI x = some t) (h2 : ¬ Good t) : leafS x = none := by rw [leafS, h]; simp only [if_neg h2]
theorem leafS_yes {x : ByteArray} {t : Tm} (h : leafI x = some t) (h2 : Good t) : leafS x = some t := by rw [leafS, h]; simp only [if_pos h2]
theorem itoa_first (v : Int) : ∃ c r, Lib.itoa v = c :: r ∧ (c.toNat = 45 ∨ (48 ≤ c.toNat ∧ c.toNat ≤ 57)) := by
  by_cases hn : v < 0
  · obtain ⟨m, rfl⟩ : ∃ m : Nat, v = -(m : Int) := ⟨v.natAbs, by omega⟩
    exact ⟨45, Lib.decDigits m, Lib.itoa_neg m (by omega), .inl rfl⟩
  · obtain ⟨m, rfl⟩ : ∃ m : Nat, v = (m : Int) := ⟨v.toNat, by omega⟩
    obtain ⟨c, r, h, h1, h2⟩ := dec_cons m
    exact ⟨c, r, by rw [Lib.itoa_nonneg, h], .inr ⟨h1, h2⟩⟩
theorem parse_first {l : List UInt8} (h : ∀ c r, l = c :: r → ¬ (c.toNat = 45 ∨ (48 ≤ c.toNat ∧ c.toNat ≤ 57))) : (parseOf l).2 = false := by
  rw [parse_no]
  intro v _ e
  obtain ⟨c, r, h1, h2⟩ := itoa_first v
  exact h c r (e.symm.trans h1) h2
theorem name_first {x : ByteArray} (h : isName x = true) : ∃ c r, x.data.toList = c :: r ∧ 97 ≤ c.toNat ∧ c.toNat ≤ 122 := by
  unfold isName at h
  rw [decide_eq_true_eq] at h
  obtain ⟨⟨h1, _⟩, h2⟩ := h
  have h3 := h2 0 (by omega)
  cases hl : x.data.toList with
  | nil => rw [Lib.size_eq, hl] at h1; simp at h1
  | cons c r =>
    have e : x[0] = c := by
      have : x = ⟨(c :: r).toArray⟩ := ByteArray.ext (Array.toList_inj.1 (by rw [hl]))
      subst this
      rfl
    rw [e] at h3
    unfold okByte at h3
    exact ⟨c, r, rfl, by omega⟩
theorem name_no_int {x : ByteArray} (h : isName x = true) : (parseOf x.data.toList).2 = false := by
  obtain ⟨c, r, hl, h1, h2⟩ := name_first h
  refine parse_first fun c' r' e => ?_
  rw [hl] at e
  cases e
  omega
theorem quest_no_int {x : ByteArray} {r : List UInt8} (h : x.data.toList = 63 :: r) : (parseOf x.data.toList).2 = false := by
  refine parse_first fun c' r' e => ?_
  rw [h] at e
  cases e
  decide
theorem cutQ_yes {x : ByteArray} {r : List UInt8} (h : x.data.toList = 63 :: r) : cutQ x = (⟨r.toArray⟩, true) := by rw [cutQ, h]; simp only [if_pos]
theorem cutQ_no {x : ByteArray} (h : ∀ r, ¬ x.data.toList = 63 :: r) : (cutQ x).2 = false := by
  unfold cutQ
  split
  · rename_i c r hl
    split
    · rename_i hc; subst hc; exact absurd hl (h r)
    · rfl
  · rfl
theorem name_good (x : ByteArray) (h : isName x = true) : leafS x = some (.mk 2 0 x []) := leafS_yes (leafI_sym (name_no_int h) h) (.sym x h)
open Classical in
theorem atom_var {x : ByteArray} {r : List UInt8} (hn : isName x = false) (h : x.data.toList = 63 :: r) : leafS x = if (parseOf r).2 = true ∧ Good (.mk 1 (parseOf r).1 ⟨#[]⟩ []) then some (.mk 1 (parseOf r).1 ⟨#[]⟩ []) else none := by
  have hc := cutQ_yes h
  have hq := quest_no_int h
  by_cases hp : (parseOf r).2 = true
  · have hi : leafI x = some (.mk 1 (parseOf r).1 ⟨#[]⟩ []) := by
      have := leafI_var (x := x) hq hn (by rw [hc]) (by rw [hc]; exact hp)
      rw [hc] at this
      exact this
    by_cases hg : Good (.mk 1 (parseOf r).1 ⟨#[]⟩ [])
    · rw [leafS_yes hi hg, if_pos ⟨hp, hg⟩]
    · rw [leafS_bad hi hg, if_neg fun z => hg z.2]
  · rw [leafS_no (leafI_no hq hn (fun z => hp (by have := z.2; rw [hc] at this; exact this))), if_neg fun z => hp z.1]
open Classical in
theorem atom_int {x : ByteArray} (hn : isName x = false) (h : ∀ r, ¬ x.data.toList = 63 :: r) : leafS x = if (parseOf x.data.toList).2 = true ∧ Good (.mk 3 (parseOf x.data.toList).1 ⟨#[]⟩ []) then some (.mk 3 (parseOf x.data.toList).1 ⟨#[]⟩ []) else none := by
  by_cases hp : (parseOf x.data.toList).2 = true
  · by_cases hg : Good (.mk 3 (parseOf x.data.toList).1 ⟨#[]⟩ [])
    · rw [leafS_yes (leafI_int hp) hg, if_pos ⟨hp, hg⟩]
    · rw [leafS_bad (leafI_int hp) hg, if_neg fun z => hg z.2]
  · rw [leafS_no (leafI_no (by simpa using hp) hn (fun z => by rw [cutQ_no h] at z; cases z.1)), if_neg fun z => hp z.1]

/-- The model's reading is the program's, where the term is of the right form. -/
theorem good_pairT {x y : Tm} : Good (pairT x y) ↔ Good x ∧ Good y := by
  have hf : Fit (pairT x y) := .inr (.inr (.inr (.inr ⟨rfl, rfl, rfl, rfl⟩)))
  exact good_two hf rfl
theorem good_zero : Good zeroTm := .nil
def Same (o o' : Option (Tm × Nat)) : Prop := ∀ t j, o = some (t, j) ↔ (o' = some (t, j) ∧ Good t)
theorem same_none : Same none none := fun t j => ⟨fun h => (by cases h), fun h => (by cases h.1)⟩
theorem same_zero (j : Nat) : Same (some (zeroTm, j)) (some (zeroTm, j)) := fun t m => ⟨fun h => ⟨h, by cases h; exact good_zero⟩, fun h => h.1⟩
theorem Same.no {o o' : Option (Tm × Nat)} (h : Same o o') (ho : o = none) {t : Tm} {j : Nat} (h2 : o' = some (t, j)) : ¬ Good t := fun hg => by
  have := (h t j).2 ⟨h2, hg⟩
  rw [ho] at this
  cases this
theorem read_same (T : List ByteArray) (k : Nat) : (∀ i, Same (anyP leafS k T i) (anyP leafI k T i)) ∧ (∀ i, Same (elemP leafS k T i) (elemP leafI k T i)) ∧ (∀ i, Same (restP leafS k T i) (restP leafI k T i)) := by
  induction k with
  | zero => exact ⟨fun i => (by rw [anyP, anyP]; exact same_none), fun i => (by rw [elemP, elemP]; exact same_none), fun i => (by rw [restP, restP]; exact same_none)⟩
  | succ k ih =>
    obtain ⟨ia, ie, ir⟩ := ih
    refine ⟨fun i => ?_, fun i => ?_, fun i => ?_⟩
    · by_cases h1 : T[i]? = some tokL
      · by_cases h2 : T[i + 1]? = some tokR
        · rw [any_open h1 h2, any_open h1 h2]; exact same_zero _
        · rw [any_elem h1 h2, any_elem h1 h2]; exact ie _
      · cases hx : T[i]? with
        | none => rw [any_end hx, any_end hx]; exact same_none
        | some x =>
          have hxl : ¬ x = tokL := fun e => h1 (by rw [hx, e])
          cases hl : leafI x with
          | none => rw [any_no hx hxl hl, any_no hx hxl (leafS_no hl)]; exact same_none
          | some t =>
            rw [any_leaf hx hxl hl]
            by_cases hg : Good t
            · rw [any_leaf hx hxl (leafS_yes hl hg)]
              exact fun t' j => ⟨fun h => ⟨h, by cases h; exact hg⟩, fun h => h.1⟩
            · rw [any_no hx hxl (leafS_bad hl hg)]
              exact fun t' j => ⟨fun h => (by cases h), fun h => (by obtain ⟨h, h2⟩ := h; cases h; exact absurd h2 hg)⟩
    · intro t j
      rw [elemP, elemP]
      constructor
      · intro h
        split at h
        · cases h
        · rename_i x m h1
          split at h
          · cases h
          · rename_i y n h2
            cases h
            obtain ⟨a1, a2⟩ := (ia i x m).1 h1
            obtain ⟨b1, b2⟩ := (ir m y j).1 h2
            rw [a1]; simp only [b1]
            exact ⟨by first | trivial | rfl, good_pairT.2 ⟨a2, b2⟩⟩
      · rintro ⟨h, hg⟩
        split at h
        · cases h
        · rename_i x m h1
          split at h
          · cases h
          · rename_i y n h2
            cases h
            obtain ⟨g1, g2⟩ := good_pairT.1 hg
            rw [(ia i x m).2 ⟨h1, g1⟩]; simp only [(ir m y j).2 ⟨h2, g2⟩]
    · by_cases h1 : T[i]? = some tokR
      · rw [rest_close h1, rest_close h1]; exact same_zero _
      · by_cases h2 : T[i]? = some tokD
        · intro t j
          rw [restP, restP, if_neg h1, if_neg h1, if_pos h2, if_pos h2]
          constructor
          · intro h
            split at h
            · cases h
            · rename_i y m h3
              split at h
              · rename_i h4
                cases h
                obtain ⟨a1, a2⟩ := (ia _ t m).1 h3
                rw [a1]; simp only [if_pos h4]
                exact ⟨by first | trivial | rfl, a2⟩
              · cases h
          · rintro ⟨h, hg⟩
            split at h
            · cases h
            · rename_i y m h3
              split at h
              · rename_i h4
                cases h
                rw [(ia _ t m).2 ⟨h3, hg⟩]; simp only [if_pos h4]
              · cases h
        · rw [rest_elem h1 h2, rest_elem h1 h2]; exact ie _
end Go.Proofs.YtnbnepeikdieaaaDoor

namespace Go.Proofs.YtnbnepeikdieaaaDoor
open Go.RowKit
set_option linter.unusedVariables false
set_option linter.unusedSimpArgs false

theorem good_leaf_sz (k n : Int) : (Tm.mk k n ⟨#[]⟩ []).sz ≤ 1048576 := by rw [Tm.sz, szL]; exact Nat.zero_le _
open Classical in
theorem atom_end (b : Bool) (t : Tm) (o : Option Tm) (h : o = if b = true ∧ Good t then some t else none) : (b = true → Good t → o = some t) ∧ (¬ (b = true ∧ Good t) → o = none) := by
  subst h
  exact ⟨fun h1 h2 => if_pos ⟨h1, h2⟩, fun h => if_neg h⟩

set_option maxHeartbeats 4000000 in
set_option maxRecDepth 100000 in
theorem specAtom_any (x : ByteArray) (w : World) (hx : x.size ≤ 1048576) :
    Calls Tryd.prog 66 #[.string x] w (Leafed (leafS x) w) := by
  have hal : Below w.heap.size w (w.alloc (.cells #[.int .i64 0, .int .i64 0, .string ⟨#[]⟩, .slice none 0 0] 43)) := belowAlloc (Below.refl _ _) _
  have HR := Lib.hid (at_box w #[.int .i64 0, .int .i64 0, .string ⟨#[]⟩, .slice none 0 0] 43)
  have HW := Lib.hid hal
  have hxm : x.size ≤ maxLen := by unfold maxLen; omega
  have HNM := Lib.hid (fun W => specIsName_any x W hxm)
  have hsz1 : (w.alloc (.cells #[.int .i64 0, .int .i64 0, .string ⟨#[]⟩, .slice none 0 0] 43)).heap.size = w.heap.size + 1 := by simp
  clear hal
  generalize hoe : leafS x = o
  have HOE := Lib.hid hoe
  clear hoe
  go_enter Tryd.func66, Tryd.ntmps66
  go_upto_region 1 with (fail)
  generalize hw0 : w.alloc (.cells #[.int .i64 0, .int .i64 0, .string ⟨#[]⟩, .slice none 0 0] 43) = w0 at HR HW hsz1 ⊢
  clear hw0
  go_wp2_with fail
  refine (HNM.out w0).mono ?_
  rintro e w1 ⟨rfl, rfl⟩
  clear HNM
  cases hnm : isName x with
  | true =>
    have HO := Lib.hid (HOE.out.symm.trans (name_good x hnm))
    clear hnm
    go_wp2_with fail
    refine (sym_any x w0).mono ?_
    rintro e w1 ⟨rfl, hb⟩
    have HRE := Lib.hid (HR.out.read hb).now
    obtain ⟨r0, r1, r2, r3, rf⟩ := box_cells (HR.out.read hb).now
    have HW1 := Lib.hid (belowOn HW.out (Nat.le_refl _) hb)
    have zr := (HR.out.read hb).le
    clear hb
    go_wp2
    refine bodyPost_four2 (p := 2) (q := 3) (b := w.heap.size) (z := .bool true) rfl rfl rfl rfl Tryd.underlying43 rfl (by kernel_rfl) HRE.out fun w' hw => ?_
    exact ⟨.inl ⟨_, HO.out, rfl⟩, HW1.out.trans (hw.below (fun k hk => by omega) HW1.out.size)⟩
  | false =>
    obtain ⟨y, kd, hcase, HEQ⟩ : ∃ (y : ByteArray) (kd : Int), ((∃ r, x.data.toList = 63 :: r ∧ y = ⟨r.toArray⟩ ∧ kd = 1) ∨ ((∀ r, ¬ x.data.toList = 63 :: r) ∧ y = x ∧ kd = 3)) ∧
        Hid (((parseOf y.data.toList).2 = true → Good (.mk kd (parseOf y.data.toList).1 ⟨#[]⟩ []) → o = some (.mk kd (parseOf y.data.toList).1 ⟨#[]⟩ [])) ∧ (¬ ((parseOf y.data.toList).2 = true ∧ Good (.mk kd (parseOf y.data.toList).1 ⟨#[]⟩ [])) → o = none)) := by
      by_cases hq : ∃ r, x.data.toList = 63 :: r
      · obtain ⟨r, hr⟩ := hq
        exact ⟨⟨r.toArray⟩, 1, .inl ⟨r, hr, rfl, rfl⟩, Lib.hid (atom_end _ _ _ (by
          have := HOE.out.symm.trans (atom_var hnm hr)
          simpa using this))⟩
      · have hq' : ∀ r, ¬ x.data.toList = 63 :: r := fun r hr => hq ⟨r, hr⟩
        exact ⟨x, 3, .inr ⟨hq', rfl, rfl⟩, Lib.hid (atom_end _ _ _ (HOE.out.symm.trans (atom_int hnm hq')))⟩
    clear hnm
    have hys : y.size ≤ 1048576 := by
      rcases hcase with ⟨r, hr, rfl, _⟩ | ⟨_, rfl, _⟩
      · have := size_cons hr
        show r.toArray.size ≤ _
        simp
        omega
      · exact hx
    have HP := Lib.hid (fun W => specParse_any y W hys)
    generalize parseOf y.data.toList = pp at HEQ HP
    obtain ⟨n, ok⟩ := pp
    have HB0 := Lib.hid (at_box w0 #[.int .i64 kd, .int .i64 0, .string ⟨#[]⟩, .slice none 0 0] 43)
    have halk : Below w0.heap.size w0 (w0.alloc (.cells #[.int .i64 kd, .int .i64 0, .string ⟨#[]⟩, .slice none 0 0] 43)) := belowAlloc (Below.refl _ _) _
    have HR0 := Lib.hid (HR.out.read halk)
    have HW0 := Lib.hid (belowOn HW.out (Nat.le_refl _) halk)
    have hsz2 : (w0.alloc (.cells #[.int .i64 kd, .int .i64 0, .string ⟨#[]⟩, .slice none 0 0] 43)).heap.size = w0.heap.size + 1 := by simp
    clear halk HR HW
    have key : ∀ (W : World) (a : Act), True := fun _ _ => trivial
    have hrest : (∃ c r, x.data.toList = c :: r ∧ ((c = 63 ∧ y = ⟨r.toArray⟩ ∧ kd = 1) ∨ (¬ c = 63 ∧ y = x ∧ kd = 3))) ∨ (x.data.toList = [] ∧ y = x ∧ kd = 3) := by
      cases hl : x.data.toList with
      | nil =>
        rcases hcase with ⟨r, hr, _⟩ | ⟨_, h1, h2⟩
        · rw [hl] at hr; cases hr
        · exact .inr ⟨rfl, h1, h2⟩
      | cons c r =>
        rcases hcase with ⟨r', hr, h1, h2⟩ | ⟨h0, h1, h2⟩
        · rw [hl] at hr; cases hr; exact .inl ⟨63, r, rfl, .inl ⟨rfl, h1, h2⟩⟩
        · exact .inl ⟨c, r, rfl, .inr ⟨fun e => h0 r (by rw [hl, e]), h1, h2⟩⟩
    clear hcase key
    have HRS := Lib.hid hrest
    clear hrest
    have hszl : w.heap.size < w0.heap.size := by omega
    have hne1 : ¬ w0.heap.size = w.heap.size := by omega
    have hne2 : ¬ w.heap.size = w0.heap.size := by omega
    have hk2 : (kd = 1 ∧ ∃ r, x.data.toList = 63 :: r ∧ y = ⟨r.toArray⟩) ∨ (kd = 3 ∧ y = x ∧ (x.size = 0 ∨ (0 < x.size ∧ ∀ h : 0 < x.size, ¬ x[0].toNat = 63))) := by
      rcases HRS.out with ⟨c, r, hl, ⟨h1, h2, h3⟩ | ⟨h1, h2, h3⟩⟩ | ⟨hl, h2, h3⟩
      · exact .inl ⟨h3, r, by rw [hl, h1], h2⟩
      · refine .inr ⟨h3, h2, .inr ⟨by have := size_cons hl; omega, fun h e => ?_⟩⟩
        have h0 := get_byte x 0 h
        rw [hl] at h0
        simp only [List.getElem?_cons_zero, Option.some.injEq] at h0
        exact h1 (by rw [h0]; exact UInt8.toNat_inj.1 e)
      · exact .inr ⟨h3, h2, .inl (by rw [Lib.size_eq, hl]; rfl)⟩
    clear HRS
    have HTAIL : Hid (∀ w2, Below (w0.alloc (.cells #[.int .i64 kd, .int .i64 0, .string ⟨#[]⟩, .slice none 0 0] 43)).heap.size (w0.alloc (.cells #[.int .i64 kd, .int .i64 0, .string ⟨#[]⟩, .slice none 0 0] 43)) w2 → w2.heap[w0.heap.size]? = some (Obj.cells #[.int .i64 kd, .int .i64 0, .string ⟨#[]⟩, .slice none 0 0] 43) ∧ w2.heap[w.heap.size]? = some (Obj.cells #[.int .i64 0, .int .i64 0, .string ⟨#[]⟩, .slice none 0 0] 43) ∧ Below w.heap.size w w2 ∧ w0.heap.size < w2.heap.size) := Lib.hid fun w2 h2 => ⟨(HB0.out.read h2).now, (HR0.out.read h2).now, belowOn HW0.out (Nat.le_refl _) h2, by have := h2.size; omega⟩
    clear HB0 HR0 HW0 hsz2 hsz1
    rcases hk2 with ⟨rfl, r, hl, rfl⟩ | ⟨rfl, rfl, h0 | ⟨h0, hne⟩⟩
    · have hp0 : 0 < x.size := by have := size_cons hl; omega
      obtain ⟨c, c0, c1, HC, hix⟩ := byte_zero (P := Tryd.prog) 9 x hp0 Tryd.underlying9
      have d1 : (c == 63) = true := by
        have hg := get_byte x 0 hp0
        rw [hl] at hg
        simp only [List.getElem?_cons_zero, Option.some.injEq] at hg
        have := HC.out
        rw [← hg] at this
        rw [this]; rfl
      obtain ⟨u, HU, huz, hsl⟩ := tail_at (P := Tryd.prog) 9 x Tryd.underlying9 (by omega)
      obtain rfl : u = ⟨r.toArray⟩ := ByteArray.ext (Array.toList_inj.1 (by rw [HU.out, hl]; simp))
      have hp1 : (0 : Int) < (x.size : Int) := by omega
      clear hl HC HU
      go_wp2_with fail
      refine (HP.out _).mono ?_
      rintro e w2 ⟨rfl, hb⟩
      obtain ⟨hk1, hk0, hwb, hlt⟩ := HTAIL.out w2 hb
      have ho := only_set w2 w0.heap.size (.int .i64 n)
      have HK1 : Hid ((w2.setCell ⟨w0.heap.size, 1, none⟩ (.int .i64 n)).heap[w0.heap.size]? = some (Obj.cells #[.int .i64 1, .int .i64 n, .string ⟨#[]⟩, .slice none 0 0] 43)) := Lib.hid (heap_setCell_same w2 w0.heap.size 1 _ _ _ hk1)
      have HK0 : Hid ((w2.setCell ⟨w0.heap.size, 1, none⟩ (.int .i64 n)).heap[w.heap.size]? = some (Obj.cells #[.int .i64 0, .int .i64 0, .string ⟨#[]⟩, .slice none 0 0] 43)) := Lib.hid ((ho.block w.heap.size (by omega) (fun hh => by have := hh.1; omega)).trans hk0)
      have HWB := Lib.hid (hwb.trans (ho.below (fun k hk => by have := hk.1; omega) hwb.size))
      obtain ⟨q0, q1, q2, q3, qf⟩ := box_cells hk1
      clear hb hk1 hk0 hwb ho HTAIL HP hlt
      go_upto_region 9 with (fail)
      generalize hw3 : w2.setCell ⟨w0.heap.size, 1, none⟩ (.int .i64 n) = w3 at HK1 HK0 HWB ⊢
      clear hw3 q0 q1 q2 q3 qf
      cases ok with
      | false =>
        have HQ := Lib.hid (HEQ.out.2 (fun h => by cases h.1))
        obtain ⟨r0, r1, r2, r3, rf⟩ := box_cells HK0.out
        go_wp2
        refine bodyPost_four2 (p := 2) (q := 3) (b := w.heap.size) (z := .bool false) rfl rfl rfl rfl Tryd.underlying43 rfl (by kernel_rfl) HK0.out fun w' hw => ?_
        exact ⟨.inr ⟨HQ.out, rfl⟩, HWB.out.trans (hw.below (fun k hk => by omega) HWB.out.size)⟩
      | true =>
        obtain ⟨q0, q1, q2, q3, qf⟩ := box_cells HK1.out
        have HSH := Lib.hid (shape_any 2 (.mk 1 n ⟨#[]⟩ []) (.slice none 0 0) w3 (by rw [Tm.nodes, nodesL]; decide) (.nil _ _) (good_leaf_sz 1 n))
        go_wp2_with fail
        refine HSH.out.mono ?_
        rintro e w4 ⟨b, rfl, hbg, hb⟩
        have HRE := Lib.hid ((hb.block w.heap.size (Array.getElem?_eq_some_iff.1 HK0.out).1).trans HK0.out)
        have HTE := Lib.hid ((hb.block w0.heap.size (Array.getElem?_eq_some_iff.1 HK1.out).1).trans HK1.out)
        have HW4 := Lib.hid (belowOn HWB.out (Nat.le_refl _) hb)
        clear hb q0 q1 q2 q3 qf HSH
        cases b with
        | false =>
          have HQ := Lib.hid (HEQ.out.2 (fun h => by have := hbg.2 h.2; cases this))
          clear hbg
          obtain ⟨r0, r1, r2, r3, rf⟩ := box_cells HRE.out
          go_wp2
          refine bodyPost_four2 (p := 2) (q := 3) (b := w.heap.size) (z := .bool false) rfl rfl rfl rfl Tryd.underlying43 rfl (by kernel_rfl) HRE.out fun w' hw => ?_
          exact ⟨.inr ⟨HQ.out, rfl⟩, HW4.out.trans (hw.below (fun k hk => by omega) HW4.out.size)⟩
        | true =>
          have HQ := Lib.hid (HEQ.out.1 (by simp) (hbg.1 rfl))
          clear hbg
          obtain ⟨r0, r1, r2, r3, rf⟩ := box_cells HRE.out
          obtain ⟨q0, q1, q2, q3, qf⟩ := box_cells HTE.out
          go_wp2
          refine bodyPost_four2 (p := 2) (q := 3) (b := w.heap.size) (z := .bool true) rfl rfl rfl rfl Tryd.underlying43 rfl (by kernel_rfl) HRE.out fun w' hw => ?_
          exact ⟨.inl ⟨_, HQ.out, rfl⟩, HW4.out.trans (hw.below (fun k hk => by omega) HW4.out.size)⟩
    · have hs0 : ¬ (0 : Int) < (y.size : Int) := by omega
      have dz : decide ((0 : Int) < (y.size : Int)) = false := decide_eq_false hs0
      clear h0
      go_wp2_with fail
      refine (HP.out _).mono ?_
      rintro e w2 ⟨rfl, hb⟩
      obtain ⟨hk1, hk0, hwb, hlt⟩ := HTAIL.out w2 hb
      have ho := only_set w2 w0.heap.size (.int .i64 n)
      have HK1 : Hid ((w2.setCell ⟨w0.heap.size, 1, none⟩ (.int .i64 n)).heap[w0.heap.size]? = some (Obj.cells #[.int .i64 3, .int .i64 n, .string ⟨#[]⟩, .slice none 0 0] 43)) := Lib.hid (heap_setCell_same w2 w0.heap.size 1 _ _ _ hk1)
      have HK0 : Hid ((w2.setCell ⟨w0.heap.size, 1, none⟩ (.int .i64 n)).heap[w.heap.size]? = some (Obj.cells #[.int .i64 0, .int .i64 0, .string ⟨#[]⟩, .slice none 0 0] 43)) := Lib.hid ((ho.block w.heap.size (by omega) (fun hh => by have := hh.1; omega)).trans hk0)
      have HWB := Lib.hid (hwb.trans (ho.below (fun k hk => by have := hk.1; omega) hwb.size))
      obtain ⟨q0, q1, q2, q3, qf⟩ := box_cells hk1
      clear hb hk1 hk0 hwb ho HTAIL HP hlt
      go_upto_region 9 with (fail)
      generalize hw3 : w2.setCell ⟨w0.heap.size, 1, none⟩ (.int .i64 n) = w3 at HK1 HK0 HWB ⊢
      clear hw3 q0 q1 q2 q3 qf
      cases ok with
      | false =>
        have HQ := Lib.hid (HEQ.out.2 (fun h => by cases h.1))
        obtain ⟨r0, r1, r2, r3, rf⟩ := box_cells HK0.out
        go_wp2
        refine bodyPost_four2 (p := 2) (q := 3) (b := w.heap.size) (z := .bool false) rfl rfl rfl rfl Tryd.underlying43 rfl (by kernel_rfl) HK0.out fun w' hw => ?_
        exact ⟨.inr ⟨HQ.out, rfl⟩, HWB.out.trans (hw.below (fun k hk => by omega) HWB.out.size)⟩
      | true =>
        obtain ⟨q0, q1, q2, q3, qf⟩ := box_cells HK1.out
        have HSH := Lib.hid (shape_any 2 (.mk 3 n ⟨#[]⟩ []) (.slice none 0 0) w3 (by rw [Tm.nodes, nodesL]; decide) (.nil _ _) (good_leaf_sz 3 n))
        go_wp2_with fail
        refine HSH.out.mono ?_
        rintro e w4 ⟨b, rfl, hbg, hb⟩
        have HRE := Lib.hid ((hb.block w.heap.size (Array.getElem?_eq_some_iff.1 HK0.out).1).trans HK0.out)
        have HTE := Lib.hid ((hb.block w0.heap.size (Array.getElem?_eq_some_iff.1 HK1.out).1).trans HK1.out)
        have HW4 := Lib.hid (belowOn HWB.out (Nat.le_refl _) hb)
        clear hb q0 q1 q2 q3 qf HSH
        cases b with
        | false =>
          have HQ := Lib.hid (HEQ.out.2 (fun h => by have := hbg.2 h.2; cases this))
          clear hbg
          obtain ⟨r0, r1, r2, r3, rf⟩ := box_cells HRE.out
          go_wp2
          refine bodyPost_four2 (p := 2) (q := 3) (b := w.heap.size) (z := .bool false) rfl rfl rfl rfl Tryd.underlying43 rfl (by kernel_rfl) HRE.out fun w' hw => ?_
          exact ⟨.inr ⟨HQ.out, rfl⟩, HW4.out.trans (hw.below (fun k hk => by omega) HW4.out.size)⟩
        | true =>
          have HQ := Lib.hid (HEQ.out.1 (by simp) (hbg.1 rfl))
          clear hbg
          obtain ⟨r0, r1, r2, r3, rf⟩ := box_cells HRE.out
          obtain ⟨q0, q1, q2, q3, qf⟩ := box_cells HTE.out
          go_wp2
          refine bodyPost_four2 (p := 2) (q := 3) (b := w.heap.size) (z := .bool true) rfl rfl rfl rfl Tryd.underlying43 rfl (by kernel_rfl) HRE.out fun w' hw => ?_
          exact ⟨.inl ⟨_, HQ.out, rfl⟩, HW4.out.trans (hw.below (fun k hk => by omega) HW4.out.size)⟩
    · obtain ⟨c, c0, c1, HC, hix⟩ := byte_zero (P := Tryd.prog) 9 y h0 Tryd.underlying9
      have d1 : (c == 63) = false := by
        rw [beq_eq_false_iff_ne]
        intro e
        have := HC.out
        exact hne h0 (by omega)
      have hp1 : (0 : Int) < (y.size : Int) := by omega
      clear HC hne
      go_wp2_with fail
      refine (HP.out _).mono ?_
      rintro e w2 ⟨rfl, hb⟩
      obtain ⟨hk1, hk0, hwb, hlt⟩ := HTAIL.out w2 hb
      have ho := only_set w2 w0.heap.size (.int .i64 n)
      have HK1 : Hid ((w2.setCell ⟨w0.heap.size, 1, none⟩ (.int .i64 n)).heap[w0.heap.size]? = some (Obj.cells #[.int .i64 3, .int .i64 n, .string ⟨#[]⟩, .slice none 0 0] 43)) := Lib.hid (heap_setCell_same w2 w0.heap.size 1 _ _ _ hk1)
      have HK0 : Hid ((w2.setCell ⟨w0.heap.size, 1, none⟩ (.int .i64 n)).heap[w.heap.size]? = some (Obj.cells #[.int .i64 0, .int .i64 0, .string ⟨#[]⟩, .slice none 0 0] 43)) := Lib.hid ((ho.block w.heap.size (by omega) (fun hh => by have := hh.1; omega)).trans hk0)
      have HWB := Lib.hid (hwb.trans (ho.below (fun k hk => by have := hk.1; omega) hwb.size))
      obtain ⟨q0, q1, q2, q3, qf⟩ := box_cells hk1
      clear hb hk1 hk0 hwb ho HTAIL HP hlt
      go_upto_region 9 with (fail)
      generalize hw3 : w2.setCell ⟨w0.heap.size, 1, none⟩ (.int .i64 n) = w3 at HK1 HK0 HWB ⊢
      clear hw3 q0 q1 q2 q3 qf
      cases ok with
      | false =>
        have HQ := Lib.hid (HEQ.out.2 (fun h => by cases h.1))
        obtain ⟨r0, r1, r2, r3, rf⟩ := box_cells HK0.out
        go_wp2
        refine bodyPost_four2 (p := 2) (q := 3) (b := w.heap.size) (z := .bool false) rfl rfl rfl rfl Tryd.underlying43 rfl (by kernel_rfl) HK0.out fun w' hw => ?_
        exact ⟨.inr ⟨HQ.out, rfl⟩, HWB.out.trans (hw.below (fun k hk => by omega) HWB.out.size)⟩
      | true =>
        obtain ⟨q0, q1, q2, q3, qf⟩ := box_cells HK1.out
        have HSH := Lib.hid (shape_any 2 (.mk 3 n ⟨#[]⟩ []) (.slice none 0 0) w3 (by rw [Tm.nodes, nodesL]; decide) (.nil _ _) (good_leaf_sz 3 n))
        go_wp2_with fail
        refine HSH.out.mono ?_
        rintro e w4 ⟨b, rfl, hbg, hb⟩
        have HRE := Lib.hid ((hb.block w.heap.size (Array.getElem?_eq_some_iff.1 HK0.out).1).trans HK0.out)
        have HTE := Lib.hid ((hb.block w0.heap.size (Array.getElem?_eq_some_iff.1 HK1.out).1).trans HK1.out)
        have HW4 := Lib.hid (belowOn HWB.out (Nat.le_refl _) hb)
        clear hb q0 q1 q2 q3 qf HSH
        cases b with
        | false =>
          have HQ := Lib.hid (HEQ.out.2 (fun h => by have := hbg.2 h.2; cases this))
          clear hbg
          obtain ⟨r0, r1, r2, r3, rf⟩ := box_cells HRE.out
          go_wp2
          refine bodyPost_four2 (p := 2) (q := 3) (b := w.heap.size) (z := .bool false) rfl rfl rfl rfl Tryd.underlying43 rfl (by kernel_rfl) HRE.out fun w' hw => ?_
          exact ⟨.inr ⟨HQ.out, rfl⟩, HW4.out.trans (hw.below (fun k hk => by omega) HW4.out.size)⟩
        | true =>
          have HQ := Lib.hid (HEQ.out.1 (by simp) (hbg.1 rfl))
          clear hbg
          obtain ⟨r0, r1, r2, r3, rf⟩ := box_cells HRE.out
          obtain ⟨q0, q1, q2, q3, qf⟩ := box_cells HTE.out
          go_wp2
          refine bodyPost_four2 (p := 2) (q := 3) (b := w.heap.size) (z := .bool true) rfl rfl rfl rfl Tryd.underlying43 rfl (by kernel_rfl) HRE.out fun w' hw => ?_
          exact ⟨.inl ⟨_, HQ.out, rfl⟩, HW4.out.trans (hw.below (fun k hk => by omega) HW4.out.size)⟩
end Go.Proofs.YtnbnepeikdieaaaDoor

