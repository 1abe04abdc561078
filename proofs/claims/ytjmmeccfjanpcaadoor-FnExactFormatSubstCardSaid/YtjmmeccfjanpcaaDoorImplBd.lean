/-
  A term looked up in the program's map; a binding's variable, a binding looked at alone, a binding copied.
-/
import Derived.Test.YtjmmeccfjanpcaaDoorImplMap
namespace Go.Proofs.YtjmmeccfjanpcaaDoor
open Go.RowKit
set_option linter.unusedVariables false
set_option linter.unusedSimpArgs false

/-- What a map says of a term, if it is a variable. -/
def ofG (g : Int → Option Tm) (t : Tm) : Option Tm := if t.kind = 1 then g t.num else none
theorem ofG_var {g : Int → Option Tm} {t : Tm} (h : t.kind = 1) : ofG g t = g t.num := if_pos h
theorem ofG_no {g : Int → Option Tm} {t : Tm} (h : ¬ t.kind = 1) : ofG g t = none := if_neg h
/-- A term that lies somewhere, and whether. -/
def Found (o : Option Tm) (w : World) (e : Ending) (w' : World) : Prop := ∃ a c, e = .returned (.tuple #[.agg #[.int .i64 (orZero o).kind, .int .i64 (orZero o).num, .string (orZero o).name, .slice a (orZero o).args.length c], .bool o.isSome]) ∧ ArgsAt w' (.slice a (orZero o).args.length c) (orZero o).args ∧ Below w.heap.size w w'

set_option maxRecDepth 100000 in
set_option maxHeartbeats 1000000 in
theorem termFor_any (b : Nat) (g : Int → Option Tm) (t : Tm) (V : Value) (w : World) (hM : MapG w b g) (hv : t.kind = 1 → wfI t.num) (hA : ArgsAt w V t.args) :
    Calls Tryd.prog 56 #[.map (some b), .agg #[.int .i64 t.kind, .int .i64 t.num, .string t.name, V]] w (Found (ofG g t) w) := by
  obtain ⟨aa, ca, rfl⟩ := hA.slice
  have hal1 : Below w.heap.size w (w.alloc (.cells #[.int .i64 t.kind, .int .i64 t.num, .string t.name, .slice aa t.args.length ca] 43)) := belowAlloc (Below.refl _ _) _
  have HX := Lib.hid (at_box_of w #[.int .i64 t.kind, .int .i64 t.num, .string t.name, .slice aa t.args.length ca] 43 w.heap.size rfl)
  have HR := Lib.hid (at_box_of (w.alloc (.cells #[.int .i64 t.kind, .int .i64 t.num, .string t.name, .slice aa t.args.length ca] 43)) #[.int .i64 0, .int .i64 0, .string ⟨#[]⟩, .slice none 0 0] 43 (w.heap.size + 1) (by simp))
  replace HX := Lib.hid (HX.out.read (belowAlloc (Below.refl _ _) (.cells #[.int .i64 0, .int .i64 0, .string ⟨#[]⟩, .slice none 0 0] 43)))
  have HW := Lib.hid (belowAlloc hal1 (.cells #[.int .i64 0, .int .i64 0, .string ⟨#[]⟩, .slice none 0 0] 43))
  have HM := Lib.hid hM
  have HSZ : Hid (w.heap.size + 1 < ((w.alloc (.cells #[.int .i64 t.kind, .int .i64 t.num, .string t.name, .slice aa t.args.length ca] 43)).alloc (.cells #[.int .i64 0, .int .i64 0, .string ⟨#[]⟩, .slice none 0 0] 43)).heap.size) := Lib.hid (by simp)
  clear hal1 hM hA
  by_cases hk : t.kind = 1
  · have HO := Lib.hid (ofG_var (g := g) hk)
    have hwf := hv hk
    have HWF := Lib.hid hwf
    have d0 : (t.kind != 1) = false := by rw [hk]; rfl
    have d1 : (t.kind == 1) = true := by rw [hk]; rfl
    generalize ofG g t = o at HO ⊢
    clear hk hv hwf
    go_enter Tryd.func56, Tryd.ntmps56
    go_upto_region 1 with (fail)
    generalize hw0 : (w.alloc (.cells #[.int .i64 t.kind, .int .i64 t.num, .string t.name, .slice aa t.args.length ca] 43)).alloc (.cells #[.int .i64 0, .int .i64 0, .string ⟨#[]⟩, .slice none 0 0] 43) = w0 at HX HR HW HSZ ⊢
    clear hw0
    obtain ⟨c0, c1, c2, c3⟩ := HX.out.cells
    have z0 := HX.out.le
    rcases HM.out.lookW HWF.out with ⟨hg, hrun0⟩ | ⟨x, xa, xc, hg, hax, hrun0⟩
    · have HG : Hid (o = none) := Lib.hid (by rw [HO.out, hg])
      have hrun := hrun0 w0 HW.out
      clear hg hrun0
      go_upto_region 4 with (fail)
      have HB1 : Hid (Below w.heap.size w (w0.alloc (.cells #[.int .i64 0, .int .i64 0, .string ⟨#[]⟩, .slice none 0 0] 43))) := Lib.hid (belowAlloc HW.out _)
      have HY := Lib.hid (at_box_of w0 #[.int .i64 0, .int .i64 0, .string ⟨#[]⟩, .slice none 0 0] 43 w0.heap.size rfl)
      have HR1 := Lib.hid (HR.out.read (belowAlloc (Below.refl _ _) (.cells #[.int .i64 0, .int .i64 0, .string ⟨#[]⟩, .slice none 0 0] 43)))
      clear hrun c0 c1 c2 c3 z0 HX HR HM HSZ
      generalize hw1 : w0.alloc (.cells #[.int .i64 0, .int .i64 0, .string ⟨#[]⟩, .slice none 0 0] 43) = w1 at HB1 HY HR1 ⊢
      clear hw1
      generalize w0.heap.size = nb at HY ⊢
      obtain ⟨y0, y1, y2, y3⟩ := HY.out.cells
      have z1 := HY.out.le
      obtain ⟨r0, r1, r2, r3, rf⟩ := box_cells HR1.out.now
      go_wp2
      refine bodyPost_four2 (p := 4) (q := 5) (b := w.heap.size + 1) (z := .bool false) rfl rfl rfl rfl Tryd.underlying43 rfl (by kernel_rfl) HR1.out.now fun w' hw => ?_
      obtain rfl := HG.out
      exact ⟨none, 0, rfl, .nil _ _, HB1.out.trans (hw.below (fun k hk => by omega) HB1.out.size)⟩
    · have HG : Hid (o = some x) := Lib.hid (by rw [HO.out, hg])
      have HAX := Lib.hid hax
      have hrun := hrun0 w0 HW.out
      clear hg hax hrun0
      go_upto_region 4 with (fail)
      have HB1 : Hid (Below w.heap.size w (w0.alloc (.cells #[.int .i64 x.kind, .int .i64 x.num, .string x.name, .slice xa x.args.length xc] 43))) := Lib.hid (belowAlloc HW.out _)
      have HY := Lib.hid (at_box_of w0 #[.int .i64 x.kind, .int .i64 x.num, .string x.name, .slice xa x.args.length xc] 43 w0.heap.size rfl)
      have HR1 := Lib.hid (HR.out.read (belowAlloc (Below.refl _ _) (.cells #[.int .i64 x.kind, .int .i64 x.num, .string x.name, .slice xa x.args.length xc] 43)))
      clear hrun c0 c1 c2 c3 z0 HX HR HM HSZ
      generalize hw1 : w0.alloc (.cells #[.int .i64 x.kind, .int .i64 x.num, .string x.name, .slice xa x.args.length xc] 43) = w1 at HB1 HY HR1 ⊢
      clear hw1
      generalize w0.heap.size = nb at HY ⊢
      obtain ⟨y0, y1, y2, y3⟩ := HY.out.cells
      have z1 := HY.out.le
      obtain ⟨r0, r1, r2, r3, rf⟩ := box_cells HR1.out.now
      go_wp2
      refine bodyPost_four2 (p := 4) (q := 5) (b := w.heap.size + 1) (z := .bool true) rfl rfl rfl rfl Tryd.underlying43 rfl (by kernel_rfl) HR1.out.now fun w' hw => ?_
      obtain rfl := HG.out
      have hbb := HB1.out.trans (hw.below (fun k hk => by omega) HB1.out.size)
      exact ⟨xa, xc, rfl, HAX.out.kept hbb, hbb⟩
  · have HO := Lib.hid (ofG_no (g := g) hk)
    have d0 : (t.kind != 1) = true := by simp [hk]
    have d1 : (t.kind == 1) = false := by simp [hk]
    generalize ofG g t = o at HO ⊢
    clear hk hv
    go_enter Tryd.func56, Tryd.ntmps56
    go_upto_region 1 with (fail)
    generalize hw0 : (w.alloc (.cells #[.int .i64 t.kind, .int .i64 t.num, .string t.name, .slice aa t.args.length ca] 43)).alloc (.cells #[.int .i64 0, .int .i64 0, .string ⟨#[]⟩, .slice none 0 0] 43) = w0 at HX HR HW HSZ ⊢
    clear hw0
    obtain ⟨c0, c1, c2, c3⟩ := HX.out.cells
    have z0 := HX.out.le
    obtain ⟨r0, r1, r2, r3, rf⟩ := box_cells HR.out.now
    go_wp2
    refine bodyPost_four2 (p := 4) (q := 5) (b := w.heap.size + 1) (z := .bool false) rfl rfl rfl rfl Tryd.underlying43 rfl (by kernel_rfl) HR.out.now fun w' hw => ?_
    obtain rfl := HO.out
    exact ⟨none, 0, rfl, .nil _ _, HW.out.trans (hw.below (fun k hk => by omega) HW.out.size)⟩

set_option maxHeartbeats 400000 in
theorem variable_any (b : Bd) (V : Value) (w : World) (hA : ArgsAt w V b.t.args) :
    Calls Tryd.prog 22 #[.agg #[.int .i64 b.v, .int .i64 b.t.kind, .int .i64 b.t.num, .string b.t.name, V]] w fun e w' => e = .returned (.agg #[.int .i64 1, .int .i64 b.v, .string ⟨#[]⟩, .slice none 0 0]) ∧ Below w.heap.size w w' := by
  obtain ⟨aa, ca, rfl⟩ := hA.slice
  clear hA
  go_enter Tryd.func22, Tryd.ntmps22
  go_wp2
  exact bodyPost_ret (v := .agg #[.int .i64 1, .int .i64 b.v, .string ⟨#[]⟩, .slice none 0 0]) (by simp [results, Tryd.results22, go_sem]) rfl ⟨rfl, ((Below.refl _ _).alloc (Nat.le_refl _) _).alloc (by simp) _⟩

set_option maxHeartbeats 1000000 in
theorem standsAlone_any (b : Bd) (V : Value) (w : World) (hA : ArgsAt w V b.t.args) (hZ : b.t.sz ≤ 1048576) :
    Calls Tryd.prog 39 #[.agg #[.int .i64 b.v, .int .i64 b.t.kind, .int .i64 b.t.num, .string b.t.name, V]] w fun e w' => e = .returned (.bool (aloneB b)) ∧ Below w.heap.size w w' := by
  obtain ⟨aa, ca, rfl⟩ := hA.slice
  have HNO := Lib.hid (fun (h : ¬ AloneP b) => aloneB_false.2 h)
  have HYES := Lib.hid (fun (h : AloneP b) => aloneB_true.2 h)
  generalize aloneB b = r at HNO HYES ⊢
  have HW := Lib.hid (belowAlloc (Below.refl w.heap.size w) (.cells #[.int .i64 b.v, .int .i64 b.t.kind, .int .i64 b.t.num, .string b.t.name, .slice aa b.t.args.length ca] 45))
  have HX := Lib.hid (at_box_of w #[.int .i64 b.v, .int .i64 b.t.kind, .int .i64 b.t.num, .string b.t.name, .slice aa b.t.args.length ca] 45 w.heap.size rfl)
  have HA := Lib.hid (hA.kept HW.out)
  clear hA
  by_cases h0 : b.v < 0
  · obtain rfl := HNO.out fun h => by have := h.1.1; omega
    clear HA HX
    go_enter Tryd.func39, Tryd.ntmps39
    go_wp2
    go_ret
    exact ⟨rfl, HW.out⟩
  by_cases h1 : 100000 < b.v
  · obtain rfl := HNO.out fun h => by have := h.1.2; omega
    clear HA HX
    go_enter Tryd.func39, Tryd.ntmps39
    go_wp2
    go_ret
    exact ⟨rfl, HW.out⟩
  go_enter Tryd.func39, Tryd.ntmps39
  go_upto_region 1 with (fail)
  generalize hw0 : w.alloc (.cells #[.int .i64 b.v, .int .i64 b.t.kind, .int .i64 b.t.num, .string b.t.name, .slice aa b.t.args.length ca] 45) = w0 at HA HX HW ⊢
  clear hw0
  have HC := Lib.hid (implTermOk_any b.t _ w0 HA.out hZ)
  obtain ⟨c0, c1, c2, c3, c4, cf⟩ := box_cells5 HX.out.now
  go_wp2_with fail
  refine HC.out.mono ?_
  rintro e w1 ⟨rfl, hb⟩
  have HX1 := Lib.hid (HX.out.read hb)
  have HW1 := Lib.hid (belowOn HW.out (Nat.le_refl _) hb)
  clear hb HC c0 c1 c2 c3 c4 cf HX HA
  cases hok : okB b.t with
  | false =>
    obtain rfl := HNO.out fun h => by rw [okB_true.2 h.2.1] at hok; cases hok
    clear hok
    go_wp2
    go_ret
    exact ⟨rfl, HW1.out⟩
  | true =>
    have HOK := Lib.hid (okB_true.1 hok)
    clear hok
    obtain ⟨c0, c1, c2, c3, c4, cf⟩ := box_cells5 HX1.out.now
    by_cases hk : b.t.kind = 1
    · have d0 : (b.t.kind != 1) = false := by rw [hk]; rfl
      have d1 : (b.t.kind == 1) = true := by rw [hk]; rfl
      have HK := Lib.hid hk
      clear hk
      by_cases hl : b.t.num < b.v
      · obtain rfl := HYES.out ⟨⟨by omega, by omega⟩, HOK.out, fun h => by have := h.2; omega⟩
        have d2 : decide (b.t.num < b.v) = true := decide_eq_true hl
        go_wp2
        go_ret
        exact ⟨rfl, HW1.out⟩
      · obtain rfl := HNO.out fun h => h.2.2 ⟨HK.out, by omega⟩
        have d2 : decide (b.t.num < b.v) = false := decide_eq_false hl
        go_wp2
        go_ret
        exact ⟨rfl, HW1.out⟩
    · have d0 : (b.t.kind != 1) = true := by simp [hk]
      have d1 : (b.t.kind == 1) = false := by simp [hk]
      obtain rfl := HYES.out ⟨⟨by omega, by omega⟩, HOK.out, fun h => hk h.1⟩
      clear hk
      go_wp2
      go_ret
      exact ⟨rfl, HW1.out⟩

/-- The answer is a binding, its term a new tree of the call's own. -/
def NewBd (b : Bd) (w : World) (e : Ending) (w' : World) : Prop := ∃ u, e = .returned (.agg #[.int .i64 b.v, .int .i64 b.t.kind, .int .i64 b.t.num, .string b.t.name, u]) ∧ NewTree b.t.args w u w'
end Go.Proofs.YtjmmeccfjanpcaaDoor

