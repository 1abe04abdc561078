/-
  The program's ShiftTerm. (Written by wip/tools/gen_implshift.py.)
-/
import Derived.Test.YtdgkhimledcfbaaImplName
import Derived.Test.YtdgkhimledcfbaaNamingS
namespace Go.Proofs.Ytdgkhimledcfbaa
open Go.RowKit
set_option linter.unusedVariables false
set_option linter.unusedSimpArgs false

theorem args_single {w : World} {g : Nat} {t : Tm} {V : Value} {e : TypeId} (h : w.heap[g]? = some (.cells #[.int .i64 t.kind, .int .i64 t.num, .string t.name, V] e)) (hV : ArgsAt w V t.args) : ArgsAt w (.slice (some ⟨g, 0, none⟩) 1 1) [t] := by
  obtain ⟨c0, c1, c2, c3, _⟩ := box_cells h
  refine .row g 0 1 1 (fun _ => V) [t] rfl (Array.getElem?_eq_some_iff.1 h).1 (fun j x hx i u hi => ?_) (fun j x hx => ?_)
  · match j, hx with
    | 0, hx =>
      simp at hx
      subst hx
      match i, hi with
      | 0, hi => simp [cells4] at hi; subst hi; simpa using c0
      | 1, hi => simp [cells4] at hi; subst hi; simpa using c1
      | 2, hi => simp [cells4] at hi; subst hi; simpa using c2
      | 3, hi => simp [cells4] at hi; subst hi; simpa using c3
      | i + 4, hi => simp [cells4] at hi
  · match j, hx with
    | 0, hx =>
      simp at hx
      subst hx
      exact hV

set_option maxRecDepth 100000 in
set_option maxHeartbeats 1000000 in
theorem addN_any (n v : Int) (nb : Nat) (w : World) (h : w.heap[nb]? = some (.cells #[.int .i64 n] 3)) (h1 : -1000000000 ≤ v + n) (h2 : v + n ≤ 1000000000) :
    Calls Try.prog 64 #[.int .i64 v, .pointer (some ⟨nb, 0, none⟩)] w fun e w' => e = .returned (.int .i64 (v + n)) ∧ Below w.heap.size w w' := by
  have hc : w.cell? ⟨nb, 0, none⟩ = some (.int .i64 n) := cell_of_row w nb 0 _ _ _ h
  have hz : nb < w.heap.size := (Array.getElem?_eq_some_iff.1 h).1
  have hw : IntKind.i64.wrap (v + n) = v + n := IntWalk.i64_in _ (by omega)
  clear h
  go_enter Try.func64, Try.ntmps64
  go_wp2
  go_ret
  exact ⟨rfl, Below.refl _ _⟩
theorem shiftNamer (n : Int) (nb : Nat) : Namer 64 (.pointer (some ⟨nb, 0, none⟩)) (fun v => v + n) (fun _ => False) (nb + 1) (fun vs W => W.heap[nb]? = some (.cells #[.int .i64 n] 3) ∧ ∀ v ∈ vs, -1000000000 ≤ v + n ∧ v + n ≤ 1000000000) where
  call v vs w h _ := (addN_any n v nb w h.1 (h.2 v (List.mem_cons_self ..)).1 (h.2 v (List.mem_cons_self ..)).2).mono fun e w' ⟨he, hb⟩ =>
    ⟨he, ⟨(hb.block _ (Array.getElem?_eq_some_iff.1 h.1).1).trans h.1, fun x hx => h.2 x (List.mem_cons_of_mem _ hx)⟩, Only.of_below hb⟩
  off vs w w' S h ho hS := ⟨(ho.block _ (Array.getElem?_eq_some_iff.1 h.1).1 (fun hs => by have := hS _ hs; omega)).trans h.1, h.2⟩
  low vs w h := by have := (Array.getElem?_eq_some_iff.1 h.1).1; omega
  maps vs w h j hj := hj.elim
  tlo j hj := hj.elim
theorem bnd_small2 {vs : List Int} (h : ∀ v ∈ vs, 0 ≤ v ∧ v ≤ 100000) : bndL vs ≤ 100001 := bnd_le.2 ⟨by decide, fun v hv => by have := (h v hv).2; omega⟩
/-- ShiftTerm's boxes: its term's, its number's, its result's. -/
structure BxS (m : Nat) (t : Tm) (V : Value) (n : Int) (W : World) : Prop where
  ft : W.heap[m]? = some (.cells #[.int .i64 t.kind, .int .i64 t.num, .string t.name, V] 25)
  fn : W.heap[m + 1]? = some (.cells #[.int .i64 n] 3)
  fr : W.heap[m + 1 + 1]? = some (.cells #[.int .i64 0, .int .i64 0, .string ⟨#[]⟩, .slice none 0 0] 25)
theorem BxS.kept {m : Nat} {t : Tm} {V : Value} {n : Int} {W W' : World} (H : BxS m t V n W) (hb : Below W.heap.size W W') : BxS m t V n W' :=
  ⟨(hb.block _ (Array.getElem?_eq_some_iff.1 H.ft).1).trans H.ft, (hb.block _ (Array.getElem?_eq_some_iff.1 H.fn).1).trans H.fn, (hb.block _ (Array.getElem?_eq_some_iff.1 H.fr).1).trans H.fr⟩
theorem vb_one {t : Tm} (h : okB t = true) : vbI [t] = bndL t.vl := by
  rw [vb_yes (by simp [h]), vlL, vlL, List.append_nil]
theorem vb_bad {t : Tm} (h : okB t = false) : vbI [t] = -1 := vb_no (by simp [h])

set_option maxRecDepth 100000 in
set_option maxHeartbeats 4000000 in
theorem implShiftTerm_any (t : Tm) (V : Value) (n : Int) (w : World) (hA : ArgsAt w V t.args) (hZ : t.sz ≤ 1048576) :
    Calls Try.prog 22 #[.agg #[.int .i64 t.kind, .int .i64 t.num, .string t.name, V], .int .i64 n] w (NewTm2 (shT t n) (shB t n) w) := by
  obtain ⟨aa, ac, rfl⟩ := hA.slice
  have HNO := Lib.hid (fun h => sh_no (t := t) (n := n) h)
  have HYES := Lib.hid (fun h => sh_yes (t := t) (n := n) h)
  generalize shT t n = r at HNO HYES ⊢
  generalize shB t n = c at HNO HYES ⊢
  have HA := Lib.hid hA
  have hb0 : Below w.heap.size w (((w.alloc (.cells #[.int .i64 t.kind, .int .i64 t.num, .string t.name, .slice aa t.args.length ac] 25)).alloc (.cells #[.int .i64 n] 3)).alloc (.cells #[.int .i64 0, .int .i64 0, .string ⟨#[]⟩, .slice none 0 0] 25)) := belowAlloc (belowAlloc (belowAlloc (Below.refl _ _) _) _) _
  have HBX : Hid (BxS w.heap.size t (.slice aa t.args.length ac) n (((w.alloc (.cells #[.int .i64 t.kind, .int .i64 t.num, .string t.name, .slice aa t.args.length ac] 25)).alloc (.cells #[.int .i64 n] 3)).alloc (.cells #[.int .i64 0, .int .i64 0, .string ⟨#[]⟩, .slice none 0 0] 25))) := Lib.hid ⟨by
    rw [Below.heap_alloc _ _ _ (by simp; omega), Below.heap_alloc _ _ _ (by simp)]; exact heap_new w _, heap3_1 _ _ _ _, heap3_2 _ _ _ _⟩
  have HW := Lib.hid hb0
  clear hA hb0
  go_enter Try.func22, Try.ntmps22
  go_upto_region 1 with (fail)
  generalize hw0 : (((w.alloc (.cells #[.int .i64 t.kind, .int .i64 t.num, .string t.name, .slice aa t.args.length ac] 25)).alloc (.cells #[.int .i64 n] 3)).alloc (.cells #[.int .i64 0, .int .i64 0, .string ⟨#[]⟩, .slice none 0 0] 25)) = w0 at HBX HW ⊢
  clear hw0
  have hal : Below w0.heap.size w0 (w0.alloc (.cells #[.int .i64 t.kind, .int .i64 t.num, .string t.name, .slice aa t.args.length ac] 25)) := belowAlloc (Below.refl _ _) _
  have HC := Lib.hid (implVarBound_e [t] (.slice (some ⟨w0.heap.size, 0, none⟩) 1 1) (w0.alloc (.cells #[.int .i64 t.kind, .int .i64 t.num, .string t.name, .slice aa t.args.length ac] 25)) (args_single (heap_new w0 _) ((HA.out.kept HW.out).kept hal)) (eachT_one hZ))
  have HAL := Lib.hid hal
  obtain ⟨c0, c1, c2, c3, _⟩ := box_cells HBX.out.ft
  have zt := (Array.getElem?_eq_some_iff.1 HBX.out.ft).1
  clear hal
  go_wp2_with fail
  refine HC.out.mono ?_
  rintro e w1 ⟨rfl, hb⟩
  clear c0 c1 c2 c3 zt HC
  replace HBX := Lib.hid ((HBX.out.kept HAL.out).kept hb)
  replace HW := Lib.hid (belowOn (belowOn HW.out (Nat.le_refl _) HAL.out) (Nat.le_refl _) hb)
  clear hb HAL
  cases hoa : okB t with
  | false =>
    have HNP : Hid (¬ ShP t n) := Lib.hid fun h => okB_false.1 hoa h.1
    rw [vb_bad hoa]
    clear hoa
    obtain ⟨rfl, rfl⟩ := HNO.out HNP.out
    have HRE := Lib.hid HBX.out.fr
    obtain ⟨r0, r1, r2, r3, rf⟩ := box_cells HBX.out.fr
    have zr := (Array.getElem?_eq_some_iff.1 HBX.out.fr).1
    have hcn : w1.cell? ⟨w.heap.size + 1, 0, none⟩ = some (.int .i64 n) := cell_of_row w1 _ 0 _ _ _ HBX.out.fn
    have HZR := Lib.hid zr
    go_wp2
    exact newTm2_end (t := zeroTm) (p := 4) (q := 5) (b := w.heap.size + 1 + 1) (W := w1) rfl rfl rfl rfl rfl rfl rfl Try.underlying25 (by kernel_rfl) HRE.out HW.out (by omega) HZR.out (zero_new (Below.refl _ _))
  | true =>
    have HOK := Lib.hid (okB_true.1 hoa)
    have HBL : Hid (∀ b : Int, bndL t.vl ≤ b ↔ 0 ≤ b ∧ ∀ v ∈ t.vl, v + 1 ≤ b) := Lib.hid fun b => bnd_le
    have hb0 := bnd_pos t.vl
    have hb1 := bnd_small2 (good_vrange (okB_true.1 hoa).2)
    rw [vb_one hoa]
    clear hoa
    generalize bndL t.vl = m at HBL hb0 hb1 ⊢
    by_cases hn0 : n < 0
    · have HNP : Hid (¬ ShP t n) := Lib.hid fun h => by have := h.2.1; omega
      have hm0 : ¬ m < 0 := by omega
      obtain ⟨rfl, rfl⟩ := HNO.out HNP.out
      have HRE := Lib.hid HBX.out.fr
      obtain ⟨r0, r1, r2, r3, rf⟩ := box_cells HBX.out.fr
      have zr := (Array.getElem?_eq_some_iff.1 HBX.out.fr).1
      have hcn : w1.cell? ⟨w.heap.size + 1, 0, none⟩ = some (.int .i64 n) := cell_of_row w1 _ 0 _ _ _ HBX.out.fn
      have HZR := Lib.hid zr
      go_wp2
      exact newTm2_end (t := zeroTm) (p := 4) (q := 5) (b := w.heap.size + 1 + 1) (W := w1) rfl rfl rfl rfl rfl rfl rfl Try.underlying25 (by kernel_rfl) HRE.out HW.out (by omega) HZR.out (zero_new (Below.refl _ _))
    · have HN0 : Hid (0 ≤ n) := Lib.hid (by omega)
      have hm0 : ¬ m < 0 := by omega
      by_cases hp : 0 < m
      · have hws : IntKind.i64.wrap (100001 - m) = 100001 - m := IntWalk.i64_in _ (by omega)
        by_cases hg : 100001 - m < n
        · have HNP : Hid (¬ ShP t n) := Lib.hid fun h => by
            have h1 := HBL.out (100001 - n)
            by_cases h2 : 0 ≤ 100001 - n
            · have := h1.2 ⟨h2, fun v hv => by have := h.2.2 v hv; omega⟩
              omega
            · have := (HBL.out 0).2 ⟨Int.le_refl _, fun v hv => by have h3 := h.2.2 v hv; have h4 := (good_vrange h.1.2 v hv).1; omega⟩
              omega
          obtain ⟨rfl, rfl⟩ := HNO.out HNP.out
          have HRE := Lib.hid HBX.out.fr
          obtain ⟨r0, r1, r2, r3, rf⟩ := box_cells HBX.out.fr
          have zr := (Array.getElem?_eq_some_iff.1 HBX.out.fr).1
          have hcn : w1.cell? ⟨w.heap.size + 1, 0, none⟩ = some (.int .i64 n) := cell_of_row w1 _ 0 _ _ _ HBX.out.fn
          have HZR := Lib.hid zr
          go_wp2
          exact newTm2_end (t := zeroTm) (p := 4) (q := 5) (b := w.heap.size + 1 + 1) (W := w1) rfl rfl rfl rfl rfl rfl rfl Try.underlying25 (by kernel_rfl) HRE.out HW.out (by omega) HZR.out (zero_new (Below.refl _ _))
        · have HVR : Hid (∀ v ∈ t.vl, v + n ≤ 100000) := Lib.hid fun v hv => by
            have := ((HBL.out m).1 (Int.le_refl _)).2 v hv
            omega
          have HSP : Hid (ShP t n) := Lib.hid ⟨HOK.out, HN0.out, HVR.out⟩
          obtain ⟨hr, rfl⟩ := HYES.out HSP.out
          have HRR := Lib.hid hr
          clear hr HNO HYES
          have HC := Lib.hid (renamedS_any (shiftNamer n (w.heap.size + 1)) (t.nodes + 1) t (.slice aa t.args.length ac) [] w1 (Nat.lt_succ_self _) (HA.out.kept HW.out) HOK.out.2 hZ ⟨HBX.out.fn, fun v hv => by
            rw [List.append_nil] at hv
            have h1 := HVR.out v hv
            have h2 := good_vrange HOK.out.2 v hv
            have h3 := HN0.out
            omega⟩)
          have hcn : w1.cell? ⟨w.heap.size + 1, 0, none⟩ = some (.int .i64 n) := cell_of_row w1 _ 0 _ _ _ HBX.out.fn
          have zn := (Array.getElem?_eq_some_iff.1 HBX.out.fn).1
          obtain ⟨c0, c1, c2, c3, _⟩ := box_cells HBX.out.ft
          have zt := (Array.getElem?_eq_some_iff.1 HBX.out.ft).1
          have hmf : ∀ (fn : Fn) (first cap : Array Value) (w : World), (Instr.makeFunc fn first cap).run Try.prog w = .ok (.func fn first cap) w := fun _ _ _ _ => rfl
          unfold RenR at HC
          rw [← HRR.out] at HC
          go_wp2_with fail
          refine HC.out.mono ?_
          rintro e w2 ⟨u, rfl, hown, _, ho⟩
          obtain ⟨ua, uc, rfl⟩ := hown.argsAt.slice
          have HT : Hid (NewTree r.args w1 (.slice ua r.args.length uc) w2) := Lib.hid ⟨hown, ⟨ho.os, ho.tape, ho.output, ho.size, fun j hj => ho.block j hj id⟩⟩
          have HRE : Hid (w2.heap[w.heap.size + 1 + 1]? = some (.cells #[.int .i64 0, .int .i64 0, .string ⟨#[]⟩, .slice none 0 0] 25)) := Lib.hid ((HT.out.2.block _ (Array.getElem?_eq_some_iff.1 HBX.out.fr).1).trans HBX.out.fr)
          have HZR : Hid (w.heap.size + 1 + 1 < w1.heap.size) := Lib.hid (Array.getElem?_eq_some_iff.1 HBX.out.fr).1
          clear hown ho HC hcn zn c0 c1 c2 c3 zt
          obtain ⟨r0, r1, r2, r3, rf⟩ := box_cells HRE.out
          go_wp2
          exact newTm2_end (t := r) (p := 4) (q := 5) (b := w.heap.size + 1 + 1) (W := w1) rfl rfl rfl rfl rfl rfl rfl Try.underlying25 (by kernel_rfl) HRE.out HW.out (by omega) HZR.out HT.out
      · have HVR : Hid (∀ v ∈ t.vl, v + n ≤ 100000) := Lib.hid fun v hv => by
          have h1 := ((HBL.out m).1 (Int.le_refl _)).2 v hv
          have h2 := (good_vrange HOK.out.2 v hv).1
          omega
        have HSP : Hid (ShP t n) := Lib.hid ⟨HOK.out, HN0.out, HVR.out⟩
        obtain ⟨hr, rfl⟩ := HYES.out HSP.out
        have HRR := Lib.hid hr
        clear hr HNO HYES
        have HC := Lib.hid (renamedS_any (shiftNamer n (w.heap.size + 1)) (t.nodes + 1) t (.slice aa t.args.length ac) [] w1 (Nat.lt_succ_self _) (HA.out.kept HW.out) HOK.out.2 hZ ⟨HBX.out.fn, fun v hv => by
          rw [List.append_nil] at hv
          have h1 := HVR.out v hv
          have h2 := good_vrange HOK.out.2 v hv
          have h3 := HN0.out
          omega⟩)
        have hcn : w1.cell? ⟨w.heap.size + 1, 0, none⟩ = some (.int .i64 n) := cell_of_row w1 _ 0 _ _ _ HBX.out.fn
        have zn := (Array.getElem?_eq_some_iff.1 HBX.out.fn).1
        obtain ⟨c0, c1, c2, c3, _⟩ := box_cells HBX.out.ft
        have zt := (Array.getElem?_eq_some_iff.1 HBX.out.ft).1
        have hmf : ∀ (fn : Fn) (first cap : Array Value) (w : World), (Instr.makeFunc fn first cap).run Try.prog w = .ok (.func fn first cap) w := fun _ _ _ _ => rfl
        unfold RenR at HC
        rw [← HRR.out] at HC
        go_wp2_with fail
        refine HC.out.mono ?_
        rintro e w2 ⟨u, rfl, hown, _, ho⟩
        obtain ⟨ua, uc, rfl⟩ := hown.argsAt.slice
        have HT : Hid (NewTree r.args w1 (.slice ua r.args.length uc) w2) := Lib.hid ⟨hown, ⟨ho.os, ho.tape, ho.output, ho.size, fun j hj => ho.block j hj id⟩⟩
        have HRE : Hid (w2.heap[w.heap.size + 1 + 1]? = some (.cells #[.int .i64 0, .int .i64 0, .string ⟨#[]⟩, .slice none 0 0] 25)) := Lib.hid ((HT.out.2.block _ (Array.getElem?_eq_some_iff.1 HBX.out.fr).1).trans HBX.out.fr)
        have HZR : Hid (w.heap.size + 1 + 1 < w1.heap.size) := Lib.hid (Array.getElem?_eq_some_iff.1 HBX.out.fr).1
        clear hown ho HC hcn zn c0 c1 c2 c3 zt
        obtain ⟨r0, r1, r2, r3, rf⟩ := box_cells HRE.out
        go_wp2
        exact newTm2_end (t := r) (p := 4) (q := 5) (b := w.heap.size + 1 + 1) (W := w1) rfl rfl rfl rfl rfl rfl rfl Try.underlying25 (by kernel_rfl) HRE.out HW.out (by omega) HZR.out HT.out
end Go.Proofs.Ytdgkhimledcfbaa

