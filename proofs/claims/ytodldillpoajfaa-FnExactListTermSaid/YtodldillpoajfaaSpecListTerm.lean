/-
  ListTerm: what it answers; the model's. (Written by gen_list.py.)
-/
import Derived.Test.YtodldillpoajfaaSpecList
namespace Go.Proofs.Ytodldillpoajfaa
open Go.RowKit
set_option linter.unusedVariables false
set_option linter.unusedSimpArgs false

def LtOk (l : List Tm) (t : Tm) : Prop := (∀ x ∈ l, Ok x) ∧ Ok t ∧ (listT l t).nodes ≤ 5000
open Classical in
noncomputable def ltB (l : List Tm) (t : Tm) : Bool := decide (LtOk l t)
open Classical in
noncomputable def ltT (l : List Tm) (t : Tm) : Tm := if LtOk l t then listT l t else zeroTm
theorem lt_no {l : List Tm} {t : Tm} (h : ¬ LtOk l t) : ltT l t = zeroTm ∧ ltB l t = false := ⟨by rw [ltT, if_neg h], by simp [ltB, h]⟩
theorem lt_yes {l : List Tm} {t : Tm} (h : LtOk l t) : ltT l t = listT l t ∧ ltB l t = true := ⟨by rw [ltT, if_pos h], by simp [ltB, h]⟩
theorem lt_sz (l : List Tm) (t : Tm) : (ltT l t).sz ≤ 1048576 := by
  by_cases h : LtOk l t
  · rw [(lt_yes h).1]
    have h1 := good_sz (listT_good (fun x hx => (h.1 x hx).2) h.2.1.2)
    have h2 := h.2.2
    omega
  · rw [(lt_no h).1]
    simp [zeroTm, Tm.sz, szL, ByteArray.size]
theorem all_ok {l : List Tm} : l.all okB = true ↔ ∀ x ∈ l, Ok x := by
  rw [List.all_eq_true]
  exact ⟨fun h x hx => okB_true.1 (h x hx), fun h x hx => okB_true.2 (h x hx)⟩
theorem all_no {l : List Tm} (h : l.all okB = false) : ¬ ∀ x ∈ l, Ok x := fun hh => by rw [all_ok.2 hh] at h; exact Bool.noConfusion h

set_option maxRecDepth 100000 in
set_option maxHeartbeats 4000000 in
theorem specListTerm_any (l : List Tm) (V : Value) (t : Tm) (Vt : Value) (w : World) (hA : ArgsAt w V l) (hZ : szL l ≤ 1048576) (hB : ArgsAt w Vt t.args) (hZt : t.sz ≤ 1048576) :
    Calls Try.prog 41 #[V, .agg #[.int .i64 t.kind, .int .i64 t.num, .string t.name, Vt]] w (OldTm2 (ltT l t) (ltB l t) w) := by
  obtain ⟨aa, ca, rfl⟩ := hA.slice
  obtain ⟨ab, cb, rfl⟩ := hB.slice
  have HNO : Hid (¬ LtOk l t → ltT l t = zeroTm ∧ ltB l t = false) := Lib.hid lt_no
  have HYES : Hid (LtOk l t → ltT l t = listT l t ∧ ltB l t = true) := Lib.hid lt_yes
  generalize ltT l t = r at HNO HYES ⊢
  generalize ltB l t = c at HNO HYES ⊢
  have hLn : l.length ≤ 1048576 := by have := length_szL l; omega
  have HZP : Hid ((listT l t).sz ≤ 1099511627776) := Lib.hid (by have := listT_sz l t; omega)
  have HA := Lib.hid (at_args hA)
  have HB := Lib.hid (at_args hB)
  have HW : Hid (Below w.heap.size w w) := Lib.hid (Below.refl _ _)
  clear hA hB
  have hb : Below w.heap.size w (w.alloc (.cells #[.int .i64 t.kind, .int .i64 t.num, .string t.name, .slice ab t.args.length cb] 25)) := (Below.refl _ _).alloc (Nat.le_refl _) _
  replace HA := Lib.hid (HA.out.read hb)
  replace HB := Lib.hid (HB.out.read hb)
  replace HW := Lib.hid (belowOn HW.out (Nat.le_refl _) hb)
  clear hb
  have HX := Lib.hid (at_box_of w #[.int .i64 t.kind, .int .i64 t.num, .string t.name, .slice ab t.args.length cb] 25 (w.heap.size) (by simp))
  have hb : Below (w.alloc (.cells #[.int .i64 t.kind, .int .i64 t.num, .string t.name, .slice ab t.args.length cb] 25)).heap.size (w.alloc (.cells #[.int .i64 t.kind, .int .i64 t.num, .string t.name, .slice ab t.args.length cb] 25)) ((w.alloc (.cells #[.int .i64 t.kind, .int .i64 t.num, .string t.name, .slice ab t.args.length cb] 25)).alloc (.cells #[.int .i64 0, .int .i64 0, .string ⟨#[]⟩, .slice none 0 0] 25)) := (Below.refl _ _).alloc (Nat.le_refl _) _
  replace HA := Lib.hid (HA.out.read hb)
  replace HB := Lib.hid (HB.out.read hb)
  replace HX := Lib.hid (HX.out.read hb)
  replace HW := Lib.hid (belowOn HW.out (Nat.le_refl _) hb)
  clear hb
  have HR := Lib.hid (at_box_of (w.alloc (.cells #[.int .i64 t.kind, .int .i64 t.num, .string t.name, .slice ab t.args.length cb] 25)) #[.int .i64 0, .int .i64 0, .string ⟨#[]⟩, .slice none 0 0] 25 (w.heap.size + 1) (by simp))
  go_enter Try.func41, Try.ntmps41
  go_upto_region 1 with (fail)
  generalize hw0 : (w.alloc (.cells #[.int .i64 t.kind, .int .i64 t.num, .string t.name, .slice ab t.args.length cb] 25)).alloc (.cells #[.int .i64 0, .int .i64 0, .string ⟨#[]⟩, .slice none 0 0] 25) = w0 at HA HB HX HR HW ⊢
  clear hw0
  have HO := Lib.hid (specAllOk_any l _ w0 HA.out.argsAt hZ)
  go_wp2_with fail
  refine HO.out.mono ?_
  rintro e w1 ⟨rfl, hb⟩
  clear HO
  replace HA := Lib.hid (HA.out.read hb)
  replace HB := Lib.hid (HB.out.read hb)
  replace HX := Lib.hid (HX.out.read hb)
  replace HR := Lib.hid (HR.out.read hb)
  replace HW := Lib.hid (belowOn HW.out (Nat.le_refl _) hb)
  clear hb
  cases hoa : l.all okB with
  | false =>
    obtain ⟨rfl, rfl⟩ := HNO.out fun h => all_no hoa h.1
    clear HNO HYES hoa
    have HRE := Lib.hid HR.out.now
    obtain ⟨r0, r1, r2, r3, rf⟩ := box_cells HR.out.now
    have zr := HR.out.le
    go_wp2
    exact oldTm2_end (t := zeroTm) (C := fun _ => False) (p := 4) (q := 5) (b := w.heap.size + 1) rfl rfl rfl rfl rfl rfl rfl Try.underlying25 (by kernel_rfl) HRE.out HW.out (by omega) (fun h => h) (fun k h => h.elim) (.nil _ _)
  | true =>
    have HOA := Lib.hid (all_ok.1 hoa)
    clear hoa
    have HO := Lib.hid (specTermOk_any t _ w1 HB.out.argsAt hZt)
    obtain ⟨c0a, c0b, c0c, c0d⟩ := HX.out.cells
    have z0 := HX.out.le
    go_wp2_with fail
    refine HO.out.mono ?_
    rintro e w2 ⟨rfl, hb⟩
    clear c0a c0b c0c c0d z0 HO
    replace HA := Lib.hid (HA.out.read hb)
    replace HB := Lib.hid (HB.out.read hb)
    replace HX := Lib.hid (HX.out.read hb)
    replace HR := Lib.hid (HR.out.read hb)
    replace HW := Lib.hid (belowOn HW.out (Nat.le_refl _) hb)
    clear hb
    cases hob : okB t with
    | false =>
      obtain ⟨rfl, rfl⟩ := HNO.out fun h => okB_false.1 hob h.2.1
      clear HNO HYES hob
      have HRE := Lib.hid HR.out.now
      obtain ⟨r0, r1, r2, r3, rf⟩ := box_cells HR.out.now
      have zr := HR.out.le
      go_wp2
      exact oldTm2_end (t := zeroTm) (C := fun _ => False) (p := 4) (q := 5) (b := w.heap.size + 1) rfl rfl rfl rfl rfl rfl rfl Try.underlying25 (by kernel_rfl) HRE.out HW.out (by omega) (fun h => h) (fun k h => h.elim) (.nil _ _)
    | true =>
      have HOB := Lib.hid (okB_true.1 hob)
      clear hob
      have HC := Lib.hid (specList_any l t _ _ w2 HA.out.argsAt HB.out.argsAt hLn)
      obtain ⟨c0a, c0b, c0c, c0d⟩ := HX.out.cells
      have z0 := HX.out.le
      go_wp2_with fail
      refine HC.out.mono ?_
      rintro e w3 ⟨u, rfl, hu, hb⟩
      obtain ⟨a0, c0, rfl⟩ := hu.slice
      clear c0a c0b c0c c0d z0 HC
      replace HA := Lib.hid (HA.out.read hb)
      replace HB := Lib.hid (HB.out.read hb)
      replace HX := Lib.hid (HX.out.read hb)
      replace HR := Lib.hid (HR.out.read hb)
      replace HW := Lib.hid (belowOn HW.out (Nat.le_refl _) hb)
      clear hb
      have HU := Lib.hid (at_args hu)
      clear hu
      have HF := Lib.hid (specFits_any (listT l t) _ w3 HU.out.argsAt HZP.out)
      go_wp2_with fail
      refine HF.out.mono ?_
      rintro e w4 ⟨rfl, hb⟩
      clear HF
      replace HA := Lib.hid (HA.out.read hb)
      replace HB := Lib.hid (HB.out.read hb)
      replace HX := Lib.hid (HX.out.read hb)
      replace HR := Lib.hid (HR.out.read hb)
      replace HW := Lib.hid (belowOn HW.out (Nat.le_refl _) hb)
      clear hb
      by_cases hbig : (listT l t).nodes ≤ 5000
      · rw [decide_eq_true hbig]
        obtain ⟨hr1, hr2⟩ := HYES.out ⟨HOA.out, HOB.out, hbig⟩
        have HR1 := Lib.hid hr1
        subst hr2
        clear hbig HNO HYES hr1 HU
        have HC := Lib.hid (specList_any l t _ _ w4 HA.out.argsAt HB.out.argsAt hLn)
        obtain ⟨c0a, c0b, c0c, c0d⟩ := HX.out.cells
        have z0 := HX.out.le
        go_wp2_with fail
        refine HC.out.mono ?_
        rintro e w5 ⟨u, rfl, hu, hb⟩
        obtain ⟨a0, c0, rfl⟩ := hu.slice
        clear c0a c0b c0c c0d z0 HC
        replace HA := Lib.hid (HA.out.read hb)
        replace HB := Lib.hid (HB.out.read hb)
        replace HX := Lib.hid (HX.out.read hb)
        replace HR := Lib.hid (HR.out.read hb)
        replace HW := Lib.hid (belowOn HW.out (Nat.le_refl _) hb)
        clear hb
        have HC := Lib.hid (specCopy_any ((listT l t).nodes + 1) (listT l t) _ w5 (by omega) hu HZP.out)
        clear hu
        go_wp2_with fail
        refine HC.out.mono ?_
        rintro e w6 ⟨u, rfl, hu, hb⟩
        have hl2 := HR.out.le
        have HRE := Lib.hid (HR.out.read hb).now
        obtain ⟨r0, r1, r2, r3, rf⟩ := box_cells (HR.out.read hb).now
        have HRL : Hid (w.heap.size ≤ w.heap.size + 1 ∧ ¬ iv w5.heap.size w6.heap.size (w.heap.size + 1)) := Lib.hid ⟨by omega, by unfold iv; omega⟩
        obtain ⟨a1, c1, rfl⟩ := hu.at.slice
        have HN := Lib.hid hu
        have hl1 := hb.size
        have HW5 := Lib.hid (belowOn HW.out (Nat.le_refl _) hb)
        clear hu hb HC
        go_wp2
        exact oldTm2_end (C := iv w5.heap.size w6.heap.size) (p := 4) (q := 5) (b := w.heap.size + 1) (by rw [HR1.out]) (by rw [HR1.out]) (by rw [HR1.out]) rfl rfl rfl rfl Try.underlying25 (by kernel_rfl) HRE.out HW5.out HRL.out.1 HRL.out.2 (fun k hk => ⟨Nat.le_trans HW.out.size hk.1, hk.2⟩) (by rw [HR1.out]; exact HN.out)
      · rw [decide_eq_false hbig]
        obtain ⟨rfl, rfl⟩ := HNO.out fun h => hbig h.2.2
        clear HNO HYES hbig HU
        have HRE := Lib.hid HR.out.now
        obtain ⟨r0, r1, r2, r3, rf⟩ := box_cells HR.out.now
        have zr := HR.out.le
        go_wp2
        exact oldTm2_end (t := zeroTm) (C := fun _ => False) (p := 4) (q := 5) (b := w.heap.size + 1) rfl rfl rfl rfl rfl rfl rfl Try.underlying25 (by kernel_rfl) HRE.out HW.out (by omega) (fun h => h) (fun k h => h.elim) (.nil _ _)
end Go.Proofs.Ytodldillpoajfaa
