/-
  validTerm of the program; how far a reading has come.
-/
import Derived.Test.YtjmmeccfjanpcaaDoorReadAll
import Derived.Test.YtjmmeccfjanpcaaDoorItems
namespace Go.Proofs.YtjmmeccfjanpcaaDoor
open Go.RowKit
set_option linter.unusedVariables false
set_option linter.unusedSimpArgs false

set_option maxHeartbeats 4000000 in
set_option maxRecDepth 100000 in
theorem validTerm_any (w0 : World) (hf : TabErrs w0) (p : Nat) (sa : Option Addr) (cap : Nat) (T : List ByteArray) (hT : ∀ x ∈ T, x.size ≤ 1048576) (hTl : T.length ≤ 20000) (k : Nat) :
    ∀ (i : Nat) (w : World), 3 * (T.length - i) + 1 ≤ k → Rd w0 p sa cap T i w → Calls Tryd.prog 52 #[.pointer (some ⟨p, 0, none⟩)] w (Read w0 p sa cap T (validP k T i) w) := by
  intro i w hk hrd
  have HTF := Lib.hid hf
  have HT := Lib.hid hT
  have hwl := hrd.old.size
  have hil := hrd.le
  clear hf hT
  generalize hoe : validP k T i = o
  have HEQ := Lib.hid hoe
  clear hoe
  have hal : Below w.heap.size w (w.alloc (.cells #[.int .i64 0, .int .i64 0, .string ⟨#[]⟩, .slice none 0 0] 43)) := belowAlloc (Below.refl _ _) _
  have HB := Lib.hid (at_box w #[.int .i64 0, .int .i64 0, .string ⟨#[]⟩, .slice none 0 0] 43)
  have HR := Lib.hid (hrd.below hal)
  have HO := Lib.hid (Only.of_below (S := iv p (p + 1)) hal)
  have hp := hrd.hi
  have hlo := hrd.lo
  have hsz : (w.alloc (.cells #[.int .i64 0, .int .i64 0, .string ⟨#[]⟩, .slice none 0 0] 43)).heap.size = w.heap.size + 1 := by simp
  clear hal hrd
  go_enter Tryd.func52, Tryd.ntmps52
  go_upto_region 1 with (fail)
  generalize hw0 : w.alloc (.cells #[.int .i64 0, .int .i64 0, .string ⟨#[]⟩, .slice none 0 0] 43) = w1 at HB HR HO hsz ⊢
  clear hw0
  have HC := Lib.hid ((reader_any w0 HTF.out p sa cap T HT.out k).1 i w1 hk HR.out)
  go_wp2_with fail
  refine HC.out.mono ?_
  rintro e w2 ⟨⟨x, j, xa, xc, he, rfl, hown, hr⟩ | ⟨he, rfl, j, hr⟩, ho⟩
  · replace HB := Lib.hid (HB.out.only ho (by omega))
    have hsn := ho.size
    replace HO := Lib.hid (HO.out.trans ho)
    clear HC ho
    replace HR := Lib.hid hr
    clear hr
    have HE1 := Lib.hid he
    have hrk := (read_ok T k).1 _ _ _ he
    clear he
    have HOX := Lib.hid hown
    clear hown
    have hjl := HR.out.le
    have hxz : x.sz ≤ 1048576 := by have h1 := hrk.2.1; have h2 := hrk.2.2; omega
    clear hrk
    go_upto_region 2 with (fail)
    have hal : Below w2.heap.size w2 (w2.alloc (.cells #[.int .i64 x.kind, .int .i64 x.num, .string x.name, .slice xa x.args.length xc] 43)) := belowAlloc (Below.refl _ _) _
    replace HB := Lib.hid (HB.out.read hal)
    replace HO := Lib.hid (only_then HO.out hal)
    replace HR := Lib.hid (HR.out.below hal)
    have HBX := Lib.hid (at_box w2 #[.int .i64 x.kind, .int .i64 x.num, .string x.name, .slice xa x.args.length xc] 43)
    have hsw2x : (w2.alloc (.cells #[.int .i64 x.kind, .int .i64 x.num, .string x.name, .slice xa x.args.length xc] 43)).heap.size = w2.heap.size + 1 := by simp
    replace HOX := Lib.hid (HOX.out.kept hal)
    clear hal
    generalize hwx : w2.alloc (.cells #[.int .i64 x.kind, .int .i64 x.num, .string x.name, .slice xa x.args.length xc] 43) = w2x at HB HBX HOX HO HR hsw2x ⊢
    clear hwx
    have HC := Lib.hid (implTermOk_any x _ w2x HOX.out.argsAt hxz)
    obtain ⟨q0, q1, q2, q3⟩ := HBX.out.cells
    have zx := HBX.out.le
    go_wp2_with fail
    refine HC.out.mono ?_
    rintro e w3 ⟨rfl, hb⟩
    clear q0 q1 q2 q3 zx HC
    replace HB := Lib.hid (HB.out.read hb)
    replace HBX := Lib.hid (HBX.out.read hb)
    replace HO := Lib.hid (only_then HO.out hb)
    replace HR := Lib.hid (HR.out.below hb)
    have hsm := hb.size
    replace HOX := Lib.hid ((HOX.out.kept hb).sub fun k hk => (⟨hk.1, by have := hk.2; omega⟩ : iv w1.heap.size w3.heap.size k))
    clear hb
    cases hok : okB x with
    | true =>
      have HQ := Lib.hid (HEQ.out.symm.trans (valid_yes HE1.out hok))
      clear hok
      obtain ⟨q0, q1, q2, q3⟩ := HBX.out.cells
      have zx := HBX.out.le
      have HRE := Lib.hid HB.out.now
      obtain ⟨r0, r1, r2, r3, rf⟩ := box_cells HB.out.now
      have zr := HB.out.le
      go_wp2
      exact read_yes (t := x) (lo := w1.heap.size) (b := w.heap.size) HQ.out rfl rfl rfl rfl rfl rfl rfl rfl Tryd.underlying43 (by kernel_rfl) HRE.out (Nat.le_refl _) (by omega) (by omega) (by omega) HR.out HO.out HOX.out
    | false =>
      have HQ := Lib.hid (HEQ.out.symm.trans (valid_bad HE1.out hok))
      clear hok
      have HRE := Lib.hid HB.out.now
      obtain ⟨r0, r1, r2, r3, rf⟩ := box_cells HB.out.now
      have zr := HB.out.le
      go_wp2
      exact read_no HQ.out (b := w.heap.size) rfl rfl rfl rfl Tryd.underlying43 (by kernel_rfl) HRE.out (Nat.le_refl _) (by omega) (by omega) HR.out HO.out
  · have HQ := Lib.hid (HEQ.out.symm.trans (valid_none he))
    replace HB := Lib.hid (HB.out.only ho (by omega))
    have hsn := ho.size
    replace HO := Lib.hid (HO.out.trans ho)
    clear HC ho he
    replace HR := Lib.hid hr
    clear hr
    go_upto_region 2 with (fail)
    have hal : Below w2.heap.size w2 (w2.alloc (.cells #[.int .i64 0, .int .i64 0, .string ⟨#[]⟩, .slice none 0 0] 43)) := belowAlloc (Below.refl _ _) _
    replace HB := Lib.hid (HB.out.read hal)
    replace HO := Lib.hid (only_then HO.out hal)
    replace HR := Lib.hid (HR.out.below hal)
    have HBX := Lib.hid (at_box w2 #[.int .i64 0, .int .i64 0, .string ⟨#[]⟩, .slice none 0 0] 43)
    have hsw2x : (w2.alloc (.cells #[.int .i64 0, .int .i64 0, .string ⟨#[]⟩, .slice none 0 0] 43)).heap.size = w2.heap.size + 1 := by simp
    clear hal
    generalize hwx : w2.alloc (.cells #[.int .i64 0, .int .i64 0, .string ⟨#[]⟩, .slice none 0 0] 43) = w2x at HB HBX HO HR hsw2x ⊢
    clear hwx
    have HRE := Lib.hid HB.out.now
    obtain ⟨r0, r1, r2, r3, rf⟩ := box_cells HB.out.now
    have zr := HB.out.le
    go_wp2
    exact read_no HQ.out (b := w.heap.size) rfl rfl rfl rfl Tryd.underlying43 (by kernel_rfl) HRE.out (Nat.le_refl _) (by omega) (by omega) HR.out HO.out

/-- The answers: a list of terms of the call's own, and whether. -/
def NewL (l : List Tm) (b : Bool) (w : World) (e : Ending) (w' : World) : Prop := ∃ v, e = .returned (.tuple #[v, .bool b]) ∧ Own w' 43 (iv w.heap.size w'.heap.size) v l ∧ Below w.heap.size w w'
theorem map_app {α : Type} (o : Option (List α)) (xs : List α) (t : α) : (o.map (fun l => t :: l)).map (fun l => xs ++ l) = o.map (fun l => (xs ++ [t]) ++ l) := by
  cases o <;> simp
/-- How far the reading has come: what is read, what the rest will be. -/
def Come (K : Nat) (T : List ByteArray) (A : Option (List Tm)) (xs : List Tm) (i : Nat) : Prop := ∃ n, T.length - i ≤ n ∧ A = (allP K T n i).map (fun l => xs ++ l)
theorem come_start (K : Nat) (T : List ByteArray) : Come K T (allP K T T.length 0) [] 0 := ⟨T.length, by omega, by cases allP K T T.length 0 <;> simp⟩
theorem come_end {K i : Nat} {T : List ByteArray} {A : Option (List Tm)} {xs : List Tm} (h : Come K T A xs i) (hi : T.length ≤ i) : A = some xs := by
  obtain ⟨n, _, h⟩ := h
  rw [h, all_end hi]; simp
theorem come_no {K i : Nat} {T : List ByteArray} {A : Option (List Tm)} {xs : List Tm} (h : Come K T A xs i) (hi : ¬ T.length ≤ i) (hv : validP K T i = none) : A = none := by
  obtain ⟨n, hn, h⟩ := h
  obtain ⟨m, rfl⟩ : ∃ m, n = m + 1 := ⟨n - 1, by omega⟩
  rw [h, all_no1 hi hv]; rfl
theorem come_step {K i j : Nat} {T : List ByteArray} {A : Option (List Tm)} {xs : List Tm} {t : Tm} (h : Come K T A xs i) (hi : ¬ T.length ≤ i) (hv : validP K T i = some (t, j)) (hj : i < j) : Come K T A (xs ++ [t]) j := by
  obtain ⟨n, hn, h⟩ := h
  obtain ⟨m, rfl⟩ : ∃ m, n = m + 1 := ⟨n - 1, by omega⟩
  exact ⟨m, by omega, by rw [h, all_step hi hv, map_app]⟩
theorem come_long {K i : Nat} {T : List ByteArray} {A : Option (List Tm)} {xs l : List Tm} (h : Come K T A xs i) (hA : A = some l) : xs.length ≤ l.length := by
  obtain ⟨n, _, h⟩ := h
  rw [hA] at h
  cases ha : allP K T n i with
  | none => rw [ha] at h; cases h
  | some m => rw [ha] at h; simp at h; rw [h]; simp
end Go.Proofs.YtjmmeccfjanpcaaDoor

