/-
  The program's Generalize.
-/
import Derived.Test.YtoihimdfmncdoaaOver
import Derived.Test.YtoihimdfmncdoaaTermsOk
namespace Go.Proofs.Ytoihimdfmncdoaa
open Go.RowKit
set_option linter.unusedVariables false
set_option linter.unusedSimpArgs false

theorem nodesL_max {l : List Tm} (h : ∀ t ∈ l, t.nodes ≤ 5000) : nodesL l ≤ 5000 * l.length := by
  induction l with
  | nil => rw [nodesL]; exact Nat.zero_le _
  | cons t l ih =>
    have h1 := ih fun u hu => h u (List.mem_cons_of_mem _ hu)
    have h2 := h t (List.mem_cons_self ..)
    rw [nodesL, List.length_cons]
    omega

set_option maxRecDepth 100000 in
set_option maxHeartbeats 4000000 in
theorem implGeneralize_any (l : List Tm) (V : Value) (w : World) (hA : ArgsAt w V l) (hZ : szL l ≤ 1048576) :
    Calls Try.prog 13 #[V] w (NewTm2 (gzT l) (gzB l) w) := by
  obtain ⟨aa, ac, rfl⟩ := hA.slice
  have HNO := Lib.hid (fun h => gz_no (l := l) h)
  have HYES := Lib.hid (fun h => gz_yes (l := l) h)
  generalize gzT l = r at HNO HYES ⊢
  generalize gzB l = c at HNO HYES ⊢
  have hal : Below w.heap.size w (w.alloc (.cells #[.int .i64 0, .int .i64 0, .string ⟨#[]⟩, .slice none 0 0] 25)) := belowAlloc (Below.refl _ _) _
  have HA := Lib.hid (hA.kept hal)
  have HR := Lib.hid (at_box_of w #[.int .i64 0, .int .i64 0, .string ⟨#[]⟩, .slice none 0 0] 25 w.heap.size rfl)
  have HW := Lib.hid hal
  have HZ := Lib.hid hZ
  have hL : l.length ≤ 1048576 := by have := length_szL l; omega
  clear hA hZ hal
  go_enter Try.func13, Try.ntmps13
  go_upto_region 1 with (fail)
  generalize hw0 : w.alloc (.cells #[.int .i64 0, .int .i64 0, .string ⟨#[]⟩, .slice none 0 0] 25) = w0 at HA HR HW ⊢
  clear hw0
  have hbx : w.heap.size < w0.heap.size := HR.out.le
  by_cases h0 : l.length = 0
  · obtain ⟨rfl, rfl⟩ := HNO.out fun h => by have := h.1.1; omega
    have d0 : ((l.length : Int) == 0) = true := by rw [h0]; rfl
    have HRE := Lib.hid HR.out.now
    obtain ⟨r0, r1, r2, r3, rf⟩ := box_cells HR.out.now
    have HBX := Lib.hid hbx
    clear h0
    go_wp2
    exact newTm2_end (t := zeroTm) (p := 2) (q := 3) (b := w.heap.size) (W := w0) rfl rfl rfl rfl rfl rfl rfl Try.underlying25 (by kernel_rfl) HRE.out HW.out (Nat.le_refl _) HBX.out (zero_new (Below.refl _ _))
  · have d0 : ((l.length : Int) == 0) = false := by rw [beq_eq_false_iff_ne]; omega
    by_cases h40 : 40 < l.length
    · obtain ⟨rfl, rfl⟩ := HNO.out fun h => by have := h.1.2; omega
      have h40I : (40 : Int) < (l.length : Int) := by omega
      have HRE := Lib.hid HR.out.now
      obtain ⟨r0, r1, r2, r3, rf⟩ := box_cells HR.out.now
      have HBX := Lib.hid hbx
      clear h0
      go_wp2
      exact newTm2_end (t := zeroTm) (p := 2) (q := 3) (b := w.heap.size) (W := w0) rfl rfl rfl rfl rfl rfl rfl Try.underlying25 (by kernel_rfl) HRE.out HW.out (Nat.le_refl _) HBX.out (zero_new (Below.refl _ _))
    · have h40I : ¬ (40 : Int) < (l.length : Int) := by omega
      have HL := Lib.hid (And.intro h0 h40)
      have HO := Lib.hid (termsOk_any l _ w0 HA.out (by have := HZ.out; omega))
      clear h0
      go_wp2_with fail
      refine HO.out.mono ?_
      rintro e w1 ⟨rfl, hb⟩
      replace HA := Lib.hid (HA.out.kept hb)
      replace HR := Lib.hid (HR.out.read hb)
      replace HW := Lib.hid (belowOn HW.out (Nat.le_refl _) hb)
      have HBX := Lib.hid (Nat.lt_of_lt_of_le hbx hb.size)
      clear hb HO hbx
      cases hoa : allOkB l with
      | false =>
        obtain ⟨rfl, rfl⟩ := HNO.out fun h => by
          have : allOkB l = true := allOk_true.2 fun t ht => okB_true.1 (List.all_eq_true.1 h.2 t ht)
          rw [hoa] at this
          cases this
        clear hoa
        have HRE := Lib.hid HR.out.now
        obtain ⟨r0, r1, r2, r3, rf⟩ := box_cells HR.out.now
        go_wp2
        exact newTm2_end (t := zeroTm) (p := 2) (q := 3) (b := w.heap.size) (W := w1) rfl rfl rfl rfl rfl rfl rfl Try.underlying25 (by kernel_rfl) HRE.out HW.out (Nat.le_refl _) HBX.out (zero_new (Below.refl _ _))
      | true =>
        have HOK : Hid (GzOk l) := Lib.hid ⟨by have := HL.out; omega, List.all_eq_true.2 fun t ht => okB_true.2 (allOk_true.1 hoa t ht)⟩
        obtain ⟨hr, rfl⟩ := HYES.out HOK.out
        have HRR := Lib.hid hr
        clear hoa HNO HYES hr
        obtain ⟨f, hf, hn, hg⟩ := gz_first HOK.out
        have h5 : ∀ t ∈ l, t.nodes ≤ 5000 := fun t ht => (okB_true.1 (List.all_eq_true.1 HOK.out.2 t ht)).1
        have hnl := nodesL_max h5
        have hmul : f.nodes * (l.length + 1) ≤ 5000 * 41 := Nat.mul_le_mul hn (by have := HOK.out.1.2; omega)
        have hmm := @run_makeMap Try.prog
        go_upto_region 4 with (fail)
        have hb : Below w1.heap.size w1 (((w1.alloc (.map #[] 0)).alloc (.map #[] 0)).alloc (.cells #[.map (some w1.heap.size), .map (some (w1.heap.size + 1))] 63)) := belowAlloc (belowAlloc (belowAlloc (Below.refl _ _) _) _) _
        have HGW : Hid (GenW w1.heap.size (w1.heap.size + 1) (fun _ => none) 0 (fun _ => none) [] (fun _ => none) (((w1.alloc (.map #[] 0)).alloc (.map #[] 0)).alloc (.cells #[.map (some w1.heap.size), .map (some (w1.heap.size + 1))] 63))) := Lib.hid ⟨num_none, tab_none, ((mapN_made w1).kept (belowAlloc (Below.refl _ _) _)).kept (belowAlloc (Below.refl _ _) _), by
          have h := (mapN_made (kt := 3) (val := Value.int .i64) (ok := wfI) (w1.alloc (.map #[] 0))).kept (belowAlloc (Below.refl _ _) (.cells #[.map (some w1.heap.size), .map (some (w1.heap.size + 1))] 63))
          rwa [World.size_alloc] at h, varsN_nil⟩
        have HG4 : Hid ((((w1.alloc (.map #[] 0)).alloc (.map #[] 0)).alloc (.cells #[.map (some w1.heap.size), .map (some (w1.heap.size + 1))] 63)).heap[w1.heap.size + 1 + 1]? = some (.cells #[.map (some w1.heap.size), .map (some (w1.heap.size + 1))] 63)) := Lib.hid (heap3_2 _ _ _ _)
        replace HA := Lib.hid (HA.out.kept hb)
        have HR5 := Lib.hid (HR.out.read hb)
        have HB5 := Lib.hid hb
        clear hb
        generalize hw5 : ((w1.alloc (.map #[] 0)).alloc (.map #[] 0)).alloc (.cells #[.map (some w1.heap.size), .map (some (w1.heap.size + 1))] 63) = w5 at HGW HG4 HA HR5 HB5 ⊢
        clear hw5
        have HC := Lib.hid (over_any w1.heap.size (w1.heap.size + 1) (by omega) 5000 l _ _ 0 _ [] _ f w5 HGW.out HA.out hf hg h5 (by have := HOK.out.1.2; omega) (fun x hx => by cases hx) (by simp; omega) hn (by have := HOK.out.1.2; omega))
        rw [← HRR.out] at HC
        obtain ⟨g0, g1⟩ := cells2_of HG4.out
        have zg := (Array.getElem?_eq_some_iff.1 HG4.out).1
        clear hf hn hg h5 hnl hmul
        go_wp2_with fail
        refine HC.out.mono ?_
        rintro e w9 ⟨u, ν', n', F', G', rfl, _, _, hown, ho⟩
        obtain ⟨ua, uc, rfl⟩ := hown.argsAt.slice
        have HT : Hid (NewTree r.args w1 (.slice ua r.args.length uc) w9) := Lib.hid ⟨hown.sub fun j hj => ⟨by have := HB5.out.size; have := hj.1; omega, hj.2⟩, HB5.out.trans ⟨ho.os, ho.tape, ho.output, Nat.le_trans (Nat.le_refl _) ho.size, fun j hj => ho.block j (by have := HB5.out.size; omega) (by omega)⟩⟩
        have HR9 : Hid (w9.heap[w.heap.size]? = some (.cells #[.int .i64 0, .int .i64 0, .string ⟨#[]⟩, .slice none 0 0] 25)) := Lib.hid ((ho.block _ HR5.out.le (by have := HBX.out; omega)).trans HR5.out.now)
        clear hown ho HC g0 g1 zg
        obtain ⟨r0, r1, r2, r3, rf⟩ := box_cells HR9.out
        go_wp2
        exact newTm2_end (t := r) (p := 2) (q := 3) (b := w.heap.size) (W := w1) rfl rfl rfl rfl rfl rfl rfl Try.underlying25 (by kernel_rfl) HR9.out HW.out (Nat.le_refl _) HBX.out HT.out
end Go.Proofs.Ytoihimdfmncdoaa

