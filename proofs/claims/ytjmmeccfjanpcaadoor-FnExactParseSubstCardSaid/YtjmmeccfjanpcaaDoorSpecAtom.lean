/-
  The model's l03Atom, walked.
-/
import Derived.Test.YtjmmeccfjanpcaaDoorAtom
import Derived.Test.YtjmmeccfjanpcaaDoorNums
namespace Go.Proofs.YtjmmeccfjanpcaaDoor
open Go.RowKit
set_option linter.unusedVariables false
set_option linter.unusedSimpArgs false

theorem good_leaf_sz (k n : Int) : (Tm.mk k n ⟨#[]⟩ []).sz ≤ 1048576 := by rw [Tm.sz, szL]; exact Nat.zero_le _
open Classical in
theorem atom_end (b : Bool) (t : Tm) (o : Option Tm) (h : o = if b = true ∧ Good t then some t else none) : (b = true → Good t → o = some t) ∧ (¬ (b = true ∧ Good t) → o = none) := by
  subst h
  exact ⟨fun h1 h2 => if_pos ⟨h1, h2⟩, fun h => if_neg h⟩

set_option maxHeartbeats 4000000 in
set_option maxRecDepth 100000 in
theorem specAtom_any (x : ByteArray) (w : World) (hx : x.size ≤ 1048576) :
    Calls Tryd.prog 66 #[.string x] w (Leafed (leafS x) w) := by
  have hal : Below w.heap.size w (w.alloc (.cells #[.int .i64 0, .int .i64 0, .string ⟨#[]⟩, .slice none 0 0] 43)) := belowAlloc (Below.refl _ _) _
  have HR := Lib.hid (at_box w #[.int .i64 0, .int .i64 0, .string ⟨#[]⟩, .slice none 0 0] 43)
  have HW := Lib.hid hal
  have hxm : x.size ≤ maxLen := by unfold maxLen; omega
  have HNM := Lib.hid (fun W => specIsName_any x W hxm)
  have hsz1 : (w.alloc (.cells #[.int .i64 0, .int .i64 0, .string ⟨#[]⟩, .slice none 0 0] 43)).heap.size = w.heap.size + 1 := by simp
  clear hal
  generalize hoe : leafS x = o
  have HOE := Lib.hid hoe
  clear hoe
  go_enter Tryd.func66, Tryd.ntmps66
  go_upto_region 1 with (fail)
  generalize hw0 : w.alloc (.cells #[.int .i64 0, .int .i64 0, .string ⟨#[]⟩, .slice none 0 0] 43) = w0 at HR HW hsz1 ⊢
  clear hw0
  go_wp2_with fail
  refine (HNM.out w0).mono ?_
  rintro e w1 ⟨rfl, rfl⟩
  clear HNM
  cases hnm : isName x with
  | true =>
    have HO := Lib.hid (HOE.out.symm.trans (name_good x hnm))
    clear hnm
    go_wp2_with fail
    refine (sym_any x w0).mono ?_
    rintro e w1 ⟨rfl, hb⟩
    have HRE := Lib.hid (HR.out.read hb).now
    obtain ⟨r0, r1, r2, r3, rf⟩ := box_cells (HR.out.read hb).now
    have HW1 := Lib.hid (belowOn HW.out (Nat.le_refl _) hb)
    have zr := (HR.out.read hb).le
    clear hb
    go_wp2
    refine bodyPost_four2 (p := 2) (q := 3) (b := w.heap.size) (z := .bool true) rfl rfl rfl rfl Tryd.underlying43 rfl (by kernel_rfl) HRE.out fun w' hw => ?_
    exact ⟨.inl ⟨_, HO.out, rfl⟩, HW1.out.trans (hw.below (fun k hk => by omega) HW1.out.size)⟩
  | false =>
    obtain ⟨y, kd, hcase, HEQ⟩ : ∃ (y : ByteArray) (kd : Int), ((∃ r, x.data.toList = 63 :: r ∧ y = ⟨r.toArray⟩ ∧ kd = 1) ∨ ((∀ r, ¬ x.data.toList = 63 :: r) ∧ y = x ∧ kd = 3)) ∧
        Hid (((parseOf y.data.toList).2 = true → Good (.mk kd (parseOf y.data.toList).1 ⟨#[]⟩ []) → o = some (.mk kd (parseOf y.data.toList).1 ⟨#[]⟩ [])) ∧ (¬ ((parseOf y.data.toList).2 = true ∧ Good (.mk kd (parseOf y.data.toList).1 ⟨#[]⟩ [])) → o = none)) := by
      by_cases hq : ∃ r, x.data.toList = 63 :: r
      · obtain ⟨r, hr⟩ := hq
        exact ⟨⟨r.toArray⟩, 1, .inl ⟨r, hr, rfl, rfl⟩, Lib.hid (atom_end _ _ _ (by
          have := HOE.out.symm.trans (atom_var hnm hr)
          simpa using this))⟩
      · have hq' : ∀ r, ¬ x.data.toList = 63 :: r := fun r hr => hq ⟨r, hr⟩
        exact ⟨x, 3, .inr ⟨hq', rfl, rfl⟩, Lib.hid (atom_end _ _ _ (HOE.out.symm.trans (atom_int hnm hq')))⟩
    clear hnm
    have hys : y.size ≤ 1048576 := by
      rcases hcase with ⟨r, hr, rfl, _⟩ | ⟨_, rfl, _⟩
      · have := size_cons hr
        show r.toArray.size ≤ _
        simp
        omega
      · exact hx
    have HP := Lib.hid (fun W => specParse_any y W hys)
    generalize parseOf y.data.toList = pp at HEQ HP
    obtain ⟨n, ok⟩ := pp
    have HB0 := Lib.hid (at_box w0 #[.int .i64 kd, .int .i64 0, .string ⟨#[]⟩, .slice none 0 0] 43)
    have halk : Below w0.heap.size w0 (w0.alloc (.cells #[.int .i64 kd, .int .i64 0, .string ⟨#[]⟩, .slice none 0 0] 43)) := belowAlloc (Below.refl _ _) _
    have HR0 := Lib.hid (HR.out.read halk)
    have HW0 := Lib.hid (belowOn HW.out (Nat.le_refl _) halk)
    have hsz2 : (w0.alloc (.cells #[.int .i64 kd, .int .i64 0, .string ⟨#[]⟩, .slice none 0 0] 43)).heap.size = w0.heap.size + 1 := by simp
    clear halk HR HW
    have key : ∀ (W : World) (a : Act), True := fun _ _ => trivial
    have hrest : (∃ c r, x.data.toList = c :: r ∧ ((c = 63 ∧ y = ⟨r.toArray⟩ ∧ kd = 1) ∨ (¬ c = 63 ∧ y = x ∧ kd = 3))) ∨ (x.data.toList = [] ∧ y = x ∧ kd = 3) := by
      cases hl : x.data.toList with
      | nil =>
        rcases hcase with ⟨r, hr, _⟩ | ⟨_, h1, h2⟩
        · rw [hl] at hr; cases hr
        · exact .inr ⟨rfl, h1, h2⟩
      | cons c r =>
        rcases hcase with ⟨r', hr, h1, h2⟩ | ⟨h0, h1, h2⟩
        · rw [hl] at hr; cases hr; exact .inl ⟨63, r, rfl, .inl ⟨rfl, h1, h2⟩⟩
        · exact .inl ⟨c, r, rfl, .inr ⟨fun e => h0 r (by rw [hl, e]), h1, h2⟩⟩
    clear hcase key
    have HRS := Lib.hid hrest
    clear hrest
    have hszl : w.heap.size < w0.heap.size := by omega
    have hne1 : ¬ w0.heap.size = w.heap.size := by omega
    have hne2 : ¬ w.heap.size = w0.heap.size := by omega
    have hk2 : (kd = 1 ∧ ∃ r, x.data.toList = 63 :: r ∧ y = ⟨r.toArray⟩) ∨ (kd = 3 ∧ y = x ∧ (x.size = 0 ∨ (0 < x.size ∧ ∀ h : 0 < x.size, ¬ x[0].toNat = 63))) := by
      rcases HRS.out with ⟨c, r, hl, ⟨h1, h2, h3⟩ | ⟨h1, h2, h3⟩⟩ | ⟨hl, h2, h3⟩
      · exact .inl ⟨h3, r, by rw [hl, h1], h2⟩
      · refine .inr ⟨h3, h2, .inr ⟨by have := size_cons hl; omega, fun h e => ?_⟩⟩
        have h0 := get_byte x 0 h
        rw [hl] at h0
        simp only [List.getElem?_cons_zero, Option.some.injEq] at h0
        exact h1 (by rw [h0]; exact UInt8.toNat_inj.1 e)
      · exact .inr ⟨h3, h2, .inl (by rw [Lib.size_eq, hl]; rfl)⟩
    clear HRS
    have HTAIL : Hid (∀ w2, Below (w0.alloc (.cells #[.int .i64 kd, .int .i64 0, .string ⟨#[]⟩, .slice none 0 0] 43)).heap.size (w0.alloc (.cells #[.int .i64 kd, .int .i64 0, .string ⟨#[]⟩, .slice none 0 0] 43)) w2 → w2.heap[w0.heap.size]? = some (Obj.cells #[.int .i64 kd, .int .i64 0, .string ⟨#[]⟩, .slice none 0 0] 43) ∧ w2.heap[w.heap.size]? = some (Obj.cells #[.int .i64 0, .int .i64 0, .string ⟨#[]⟩, .slice none 0 0] 43) ∧ Below w.heap.size w w2 ∧ w0.heap.size < w2.heap.size) := Lib.hid fun w2 h2 => ⟨(HB0.out.read h2).now, (HR0.out.read h2).now, belowOn HW0.out (Nat.le_refl _) h2, by have := h2.size; omega⟩
    clear HB0 HR0 HW0 hsz2 hsz1
    rcases hk2 with ⟨rfl, r, hl, rfl⟩ | ⟨rfl, rfl, h0 | ⟨h0, hne⟩⟩
    · have hp0 : 0 < x.size := by have := size_cons hl; omega
      obtain ⟨c, c0, c1, HC, hix⟩ := byte_zero (P := Tryd.prog) 9 x hp0 Tryd.underlying9
      have d1 : (c == 63) = true := by
        have hg := get_byte x 0 hp0
        rw [hl] at hg
        simp only [List.getElem?_cons_zero, Option.some.injEq] at hg
        have := HC.out
        rw [← hg] at this
        rw [this]; rfl
      obtain ⟨u, HU, huz, hsl⟩ := tail_at (P := Tryd.prog) 9 x Tryd.underlying9 (by omega)
      obtain rfl : u = ⟨r.toArray⟩ := ByteArray.ext (Array.toList_inj.1 (by rw [HU.out, hl]; simp))
      have hp1 : (0 : Int) < (x.size : Int) := by omega
      clear hl HC HU
      go_wp2_with fail
      refine (HP.out _).mono ?_
      rintro e w2 ⟨rfl, hb⟩
      obtain ⟨hk1, hk0, hwb, hlt⟩ := HTAIL.out w2 hb
      have ho := only_set w2 w0.heap.size (.int .i64 n)
      have HK1 : Hid ((w2.setCell ⟨w0.heap.size, 1, none⟩ (.int .i64 n)).heap[w0.heap.size]? = some (Obj.cells #[.int .i64 1, .int .i64 n, .string ⟨#[]⟩, .slice none 0 0] 43)) := Lib.hid (heap_setCell_same w2 w0.heap.size 1 _ _ _ hk1)
      have HK0 : Hid ((w2.setCell ⟨w0.heap.size, 1, none⟩ (.int .i64 n)).heap[w.heap.size]? = some (Obj.cells #[.int .i64 0, .int .i64 0, .string ⟨#[]⟩, .slice none 0 0] 43)) := Lib.hid ((ho.block w.heap.size (by omega) (fun hh => by have := hh.1; omega)).trans hk0)
      have HWB := Lib.hid (hwb.trans (ho.below (fun k hk => by have := hk.1; omega) hwb.size))
      obtain ⟨q0, q1, q2, q3, qf⟩ := box_cells hk1
      clear hb hk1 hk0 hwb ho HTAIL HP hlt
      go_upto_region 9 with (fail)
      generalize hw3 : w2.setCell ⟨w0.heap.size, 1, none⟩ (.int .i64 n) = w3 at HK1 HK0 HWB ⊢
      clear hw3 q0 q1 q2 q3 qf
      cases ok with
      | false =>
        have HQ := Lib.hid (HEQ.out.2 (fun h => by cases h.1))
        obtain ⟨r0, r1, r2, r3, rf⟩ := box_cells HK0.out
        go_wp2
        refine bodyPost_four2 (p := 2) (q := 3) (b := w.heap.size) (z := .bool false) rfl rfl rfl rfl Tryd.underlying43 rfl (by kernel_rfl) HK0.out fun w' hw => ?_
        exact ⟨.inr ⟨HQ.out, rfl⟩, HWB.out.trans (hw.below (fun k hk => by omega) HWB.out.size)⟩
      | true =>
        obtain ⟨q0, q1, q2, q3, qf⟩ := box_cells HK1.out
        have HSH := Lib.hid (shape_any 2 (.mk 1 n ⟨#[]⟩ []) (.slice none 0 0) w3 (by rw [Tm.nodes, nodesL]; decide) (.nil _ _) (good_leaf_sz 1 n))
        go_wp2_with fail
        refine HSH.out.mono ?_
        rintro e w4 ⟨b, rfl, hbg, hb⟩
        have HRE := Lib.hid ((hb.block w.heap.size (Array.getElem?_eq_some_iff.1 HK0.out).1).trans HK0.out)
        have HTE := Lib.hid ((hb.block w0.heap.size (Array.getElem?_eq_some_iff.1 HK1.out).1).trans HK1.out)
        have HW4 := Lib.hid (belowOn HWB.out (Nat.le_refl _) hb)
        clear hb q0 q1 q2 q3 qf HSH
        cases b with
        | false =>
          have HQ := Lib.hid (HEQ.out.2 (fun h => by have := hbg.2 h.2; cases this))
          clear hbg
          obtain ⟨r0, r1, r2, r3, rf⟩ := box_cells HRE.out
          go_wp2
          refine bodyPost_four2 (p := 2) (q := 3) (b := w.heap.size) (z := .bool false) rfl rfl rfl rfl Tryd.underlying43 rfl (by kernel_rfl) HRE.out fun w' hw => ?_
          exact ⟨.inr ⟨HQ.out, rfl⟩, HW4.out.trans (hw.below (fun k hk => by omega) HW4.out.size)⟩
        | true =>
          have HQ := Lib.hid (HEQ.out.1 (by simp) (hbg.1 rfl))
          clear hbg
          obtain ⟨r0, r1, r2, r3, rf⟩ := box_cells HRE.out
          obtain ⟨q0, q1, q2, q3, qf⟩ := box_cells HTE.out
          go_wp2
          refine bodyPost_four2 (p := 2) (q := 3) (b := w.heap.size) (z := .bool true) rfl rfl rfl rfl Tryd.underlying43 rfl (by kernel_rfl) HRE.out fun w' hw => ?_
          exact ⟨.inl ⟨_, HQ.out, rfl⟩, HW4.out.trans (hw.below (fun k hk => by omega) HW4.out.size)⟩
    · have hs0 : ¬ (0 : Int) < (y.size : Int) := by omega
      have dz : decide ((0 : Int) < (y.size : Int)) = false := decide_eq_false hs0
      clear h0
      go_wp2_with fail
      refine (HP.out _).mono ?_
      rintro e w2 ⟨rfl, hb⟩
      obtain ⟨hk1, hk0, hwb, hlt⟩ := HTAIL.out w2 hb
      have ho := only_set w2 w0.heap.size (.int .i64 n)
      have HK1 : Hid ((w2.setCell ⟨w0.heap.size, 1, none⟩ (.int .i64 n)).heap[w0.heap.size]? = some (Obj.cells #[.int .i64 3, .int .i64 n, .string ⟨#[]⟩, .slice none 0 0] 43)) := Lib.hid (heap_setCell_same w2 w0.heap.size 1 _ _ _ hk1)
      have HK0 : Hid ((w2.setCell ⟨w0.heap.size, 1, none⟩ (.int .i64 n)).heap[w.heap.size]? = some (Obj.cells #[.int .i64 0, .int .i64 0, .string ⟨#[]⟩, .slice none 0 0] 43)) := Lib.hid ((ho.block w.heap.size (by omega) (fun hh => by have := hh.1; omega)).trans hk0)
      have HWB := Lib.hid (hwb.trans (ho.below (fun k hk => by have := hk.1; omega) hwb.size))
      obtain ⟨q0, q1, q2, q3, qf⟩ := box_cells hk1
      clear hb hk1 hk0 hwb ho HTAIL HP hlt
      go_upto_region 9 with (fail)
      generalize hw3 : w2.setCell ⟨w0.heap.size, 1, none⟩ (.int .i64 n) = w3 at HK1 HK0 HWB ⊢
      clear hw3 q0 q1 q2 q3 qf
      cases ok with
      | false =>
        have HQ := Lib.hid (HEQ.out.2 (fun h => by cases h.1))
        obtain ⟨r0, r1, r2, r3, rf⟩ := box_cells HK0.out
        go_wp2
        refine bodyPost_four2 (p := 2) (q := 3) (b := w.heap.size) (z := .bool false) rfl rfl rfl rfl Tryd.underlying43 rfl (by kernel_rfl) HK0.out fun w' hw => ?_
        exact ⟨.inr ⟨HQ.out, rfl⟩, HWB.out.trans (hw.below (fun k hk => by omega) HWB.out.size)⟩
      | true =>
        obtain ⟨q0, q1, q2, q3, qf⟩ := box_cells HK1.out
        have HSH := Lib.hid (shape_any 2 (.mk 3 n ⟨#[]⟩ []) (.slice none 0 0) w3 (by rw [Tm.nodes, nodesL]; decide) (.nil _ _) (good_leaf_sz 3 n))
        go_wp2_with fail
        refine HSH.out.mono ?_
        rintro e w4 ⟨b, rfl, hbg, hb⟩
        have HRE := Lib.hid ((hb.block w.heap.size (Array.getElem?_eq_some_iff.1 HK0.out).1).trans HK0.out)
        have HTE := Lib.hid ((hb.block w0.heap.size (Array.getElem?_eq_some_iff.1 HK1.out).1).trans HK1.out)
        have HW4 := Lib.hid (belowOn HWB.out (Nat.le_refl _) hb)
        clear hb q0 q1 q2 q3 qf HSH
        cases b with
        | false =>
          have HQ := Lib.hid (HEQ.out.2 (fun h => by have := hbg.2 h.2; cases this))
          clear hbg
          obtain ⟨r0, r1, r2, r3, rf⟩ := box_cells HRE.out
          go_wp2
          refine bodyPost_four2 (p := 2) (q := 3) (b := w.heap.size) (z := .bool false) rfl rfl rfl rfl Tryd.underlying43 rfl (by kernel_rfl) HRE.out fun w' hw => ?_
          exact ⟨.inr ⟨HQ.out, rfl⟩, HW4.out.trans (hw.below (fun k hk => by omega) HW4.out.size)⟩
        | true =>
          have HQ := Lib.hid (HEQ.out.1 (by simp) (hbg.1 rfl))
          clear hbg
          obtain ⟨r0, r1, r2, r3, rf⟩ := box_cells HRE.out
          obtain ⟨q0, q1, q2, q3, qf⟩ := box_cells HTE.out
          go_wp2
          refine bodyPost_four2 (p := 2) (q := 3) (b := w.heap.size) (z := .bool true) rfl rfl rfl rfl Tryd.underlying43 rfl (by kernel_rfl) HRE.out fun w' hw => ?_
          exact ⟨.inl ⟨_, HQ.out, rfl⟩, HW4.out.trans (hw.below (fun k hk => by omega) HW4.out.size)⟩
    · obtain ⟨c, c0, c1, HC, hix⟩ := byte_zero (P := Tryd.prog) 9 y h0 Tryd.underlying9
      have d1 : (c == 63) = false := by
        rw [beq_eq_false_iff_ne]
        intro e
        have := HC.out
        exact hne h0 (by omega)
      have hp1 : (0 : Int) < (y.size : Int) := by omega
      clear HC hne
      go_wp2_with fail
      refine (HP.out _).mono ?_
      rintro e w2 ⟨rfl, hb⟩
      obtain ⟨hk1, hk0, hwb, hlt⟩ := HTAIL.out w2 hb
      have ho := only_set w2 w0.heap.size (.int .i64 n)
      have HK1 : Hid ((w2.setCell ⟨w0.heap.size, 1, none⟩ (.int .i64 n)).heap[w0.heap.size]? = some (Obj.cells #[.int .i64 3, .int .i64 n, .string ⟨#[]⟩, .slice none 0 0] 43)) := Lib.hid (heap_setCell_same w2 w0.heap.size 1 _ _ _ hk1)
      have HK0 : Hid ((w2.setCell ⟨w0.heap.size, 1, none⟩ (.int .i64 n)).heap[w.heap.size]? = some (Obj.cells #[.int .i64 0, .int .i64 0, .string ⟨#[]⟩, .slice none 0 0] 43)) := Lib.hid ((ho.block w.heap.size (by omega) (fun hh => by have := hh.1; omega)).trans hk0)
      have HWB := Lib.hid (hwb.trans (ho.below (fun k hk => by have := hk.1; omega) hwb.size))
      obtain ⟨q0, q1, q2, q3, qf⟩ := box_cells hk1
      clear hb hk1 hk0 hwb ho HTAIL HP hlt
      go_upto_region 9 with (fail)
      generalize hw3 : w2.setCell ⟨w0.heap.size, 1, none⟩ (.int .i64 n) = w3 at HK1 HK0 HWB ⊢
      clear hw3 q0 q1 q2 q3 qf
      cases ok with
      | false =>
        have HQ := Lib.hid (HEQ.out.2 (fun h => by cases h.1))
        obtain ⟨r0, r1, r2, r3, rf⟩ := box_cells HK0.out
        go_wp2
        refine bodyPost_four2 (p := 2) (q := 3) (b := w.heap.size) (z := .bool false) rfl rfl rfl rfl Tryd.underlying43 rfl (by kernel_rfl) HK0.out fun w' hw => ?_
        exact ⟨.inr ⟨HQ.out, rfl⟩, HWB.out.trans (hw.below (fun k hk => by omega) HWB.out.size)⟩
      | true =>
        obtain ⟨q0, q1, q2, q3, qf⟩ := box_cells HK1.out
        have HSH := Lib.hid (shape_any 2 (.mk 3 n ⟨#[]⟩ []) (.slice none 0 0) w3 (by rw [Tm.nodes, nodesL]; decide) (.nil _ _) (good_leaf_sz 3 n))
        go_wp2_with fail
        refine HSH.out.mono ?_
        rintro e w4 ⟨b, rfl, hbg, hb⟩
        have HRE := Lib.hid ((hb.block w.heap.size (Array.getElem?_eq_some_iff.1 HK0.out).1).trans HK0.out)
        have HTE := Lib.hid ((hb.block w0.heap.size (Array.getElem?_eq_some_iff.1 HK1.out).1).trans HK1.out)
        have HW4 := Lib.hid (belowOn HWB.out (Nat.le_refl _) hb)
        clear hb q0 q1 q2 q3 qf HSH
        cases b with
        | false =>
          have HQ := Lib.hid (HEQ.out.2 (fun h => by have := hbg.2 h.2; cases this))
          clear hbg
          obtain ⟨r0, r1, r2, r3, rf⟩ := box_cells HRE.out
          go_wp2
          refine bodyPost_four2 (p := 2) (q := 3) (b := w.heap.size) (z := .bool false) rfl rfl rfl rfl Tryd.underlying43 rfl (by kernel_rfl) HRE.out fun w' hw => ?_
          exact ⟨.inr ⟨HQ.out, rfl⟩, HW4.out.trans (hw.below (fun k hk => by omega) HW4.out.size)⟩
        | true =>
          have HQ := Lib.hid (HEQ.out.1 (by simp) (hbg.1 rfl))
          clear hbg
          obtain ⟨r0, r1, r2, r3, rf⟩ := box_cells HRE.out
          obtain ⟨q0, q1, q2, q3, qf⟩ := box_cells HTE.out
          go_wp2
          refine bodyPost_four2 (p := 2) (q := 3) (b := w.heap.size) (z := .bool true) rfl rfl rfl rfl Tryd.underlying43 rfl (by kernel_rfl) HRE.out fun w' hw => ?_
          exact ⟨.inl ⟨_, HQ.out, rfl⟩, HW4.out.trans (hw.below (fun k hk => by omega) HW4.out.size)⟩
end Go.Proofs.YtjmmeccfjanpcaaDoor

