/-
  The program's reader: anyTerm, elements, rest.
-/
import Derived.Test.YtjmmeccfjanpcaaDoorReadLeaf
import Derived.Test.YtjmmeccfjanpcaaDoorNews
namespace Go.Proofs.YtjmmeccfjanpcaaDoor
open Go.RowKit
set_option linter.unusedVariables false
set_option linter.unusedSimpArgs false

theorem read_gt (L : ByteArray → Option Tm) (T : List ByteArray) (k : Nat) : (∀ i t j, anyP L k T i = some (t, j) → i < j) ∧ (∀ i t j, elemP L k T i = some (t, j) → i < j) ∧ (∀ i t j, restP L k T i = some (t, j) → i < j) := by
  induction k with
  | zero => exact ⟨fun i t j h => (by rw [anyP] at h; cases h), fun i t j h => (by rw [elemP] at h; cases h), fun i t j h => (by rw [restP] at h; cases h)⟩
  | succ k ih =>
    obtain ⟨ia, ie, ir⟩ := ih
    refine ⟨fun i t j h => ?_, fun i t j h => ?_, fun i t j h => ?_⟩
    · rw [anyP] at h
      split at h
      · split at h
        · cases h; omega
        · have := ie _ _ _ h; omega
      · split at h
        · cases h
        · split at h
          · cases h
          · cases h; omega
    · rw [elemP] at h
      split at h
      · cases h
      · rename_i x j1 h1
        split at h
        · cases h
        · rename_i y j2 h2
          cases h
          have := ia _ _ _ h1
          have := ir _ _ _ h2
          omega
    · rw [restP] at h
      split at h
      · cases h; omega
      · split at h
        · split at h
          · cases h
          · rename_i y j1 h1
            split at h
            · cases h
              have := ia _ _ _ h1
              omega
            · cases h
        · exact ie _ _ _ h
theorem leafI_empty : leafI ⟨#[]⟩ = none := by
  refine leafI_no ?_ (by decide) ?_
  · rw [parse_no]
    intro v _ e
    have : (Lib.itoa v).length = 0 := by rw [e]; rfl
    by_cases hn : v < 0
    · obtain ⟨m, rfl⟩ : ∃ m : Nat, v = -(m : Int) := ⟨v.natAbs, by omega⟩
      rw [Lib.itoa_neg m (by omega)] at this
      simp at this
    · obtain ⟨m, rfl⟩ : ∃ m : Nat, v = (m : Int) := ⟨v.toNat, by omega⟩
      obtain ⟨c, r, h, _, _⟩ := dec_cons m
      rw [Lib.itoa_nonneg, h] at this
      simp at this
  · intro h
    exact absurd h.1 (by decide)

/-- What the reader answers. -/
def Read (w0 : World) (p : Nat) (sa : Option Addr) (cap : Nat) (T : List ByteArray) (o : Option (Tm × Nat)) (w : World) (e : Ending) (w' : World) : Prop :=
  ((∃ (t : Tm) (j : Nat) (x : Option Addr) (c : Nat), o = some (t, j) ∧ e = .returned (.tuple #[.agg #[.int .i64 t.kind, .int .i64 t.num, .string t.name, .slice x t.args.length c], .bool true]) ∧ Own w' 43 (iv w.heap.size w'.heap.size) (.slice x t.args.length c) t.args ∧ Rd w0 p sa cap T j w') ∨
    (o = none ∧ e = .returned (.tuple #[.agg #[.int .i64 0, .int .i64 0, .string ⟨#[]⟩, .slice none 0 0], .bool false]) ∧ ∃ j, Rd w0 p sa cap T j w')) ∧ Only (iv p (p + 1)) w w'
theorem read_yes {P : Program} {fn : Func} {w0 w W : World} {pr : Nat} {sa : Option Addr} {cap : Nat} {T : List ByteArray} {t : Tm} {j : Nat} {x : Option Addr} {c lo : Nat} {a : Act} {b : Nat} {x0 x1 x2 x3 : Value} {fs : Array Field} {k i : Int} {s : ByteArray} {m : Nat} {o : Option (Tm × Nat)}
    (heq : o = some (t, j)) (h1 : t.kind = k) (h2 : t.num = i) (h3 : t.name = s) (h4 : t.args.length = m) (h : fn.results = #[.cell 2 43, .tmp 3]) (hp : a.tmps.getD 2 undef = .pointer (some ⟨b, 0, none⟩)) (hq : a.tmps.getD 3 undef = .bool true) (hd : a.defers = [])
    (hu : P.underlying 43 = some (.struct fs)) (hi : (P.info? 43).map (·.size) = some 4) (hb : W.heap[b]? = some (Obj.cells #[x0, x1, x2, x3] 43))
    (hlo : w.heap.size ≤ b) (hbl : b < lo) (hne : ¬ b = pr) (hw : w0.heap.size ≤ w.heap.size) (hr : Rd w0 pr sa cap T j W) (ho : Only (iv pr (pr + 1)) w W) (hO : Own W 43 (iv lo W.heap.size) (.slice x m c) t.args) :
    bodyPost P fn (Read w0 pr sa cap T o w) .ret a ((((W.setCell ⟨b, 0, none⟩ (.int .i64 k)).setCell ⟨b, 1, none⟩ (.int .i64 i)).setCell ⟨b, 2, none⟩ (.string s)).setCell ⟨b, 3, none⟩ (.slice x m c)) := by
  subst heq
  subst h1
  subst h2
  subst h3
  subst h4
  refine bodyPost_four2 h hp hq hd hu rfl hi hb fun w' hw' => ?_
  have hw2 : Only (iv b (b + 1)) W w' := hw'.sub fun k hk => by subst hk; exact ⟨Nat.le_refl _, Nat.lt_succ_self _⟩
  have hs := hw'.size
  refine ⟨.inl ⟨t, j, x, c, rfl, rfl, (hO.frame fun k hk hks => hw'.block k hks fun e => by have := hk.1; omega).sub fun k hk => ⟨by have := hk.1; omega, by have := hk.2; omega⟩, hr.only hw2 (by omega) hne⟩, ?_⟩
  exact ⟨hw2.os.trans ho.os, hw2.tape.trans ho.tape, hw2.output.trans ho.output, Nat.le_trans ho.size hw2.size, fun k hk hn => (hw2.block k (Nat.lt_of_lt_of_le hk ho.size) fun x => by have := x.1; omega).trans (ho.block k hk hn)⟩
theorem read_no {P : Program} {fn : Func} {w0 w W : World} {pr : Nat} {sa : Option Addr} {cap : Nat} {T : List ByteArray} {j : Nat} {a : Act} {b : Nat} {x0 x1 x2 x3 : Value} {fs : Array Field} {o : Option (Tm × Nat)}
    (heq : o = none) (h : fn.results = #[.cell 2 43, .tmp 3]) (hp : a.tmps.getD 2 undef = .pointer (some ⟨b, 0, none⟩)) (hq : a.tmps.getD 3 undef = .bool false) (hd : a.defers = [])
    (hu : P.underlying 43 = some (.struct fs)) (hi : (P.info? 43).map (·.size) = some 4) (hb : W.heap[b]? = some (Obj.cells #[x0, x1, x2, x3] 43))
    (hlo : w.heap.size ≤ b) (hne : ¬ b = pr) (hw : w0.heap.size ≤ w.heap.size) (hr : Rd w0 pr sa cap T j W) (ho : Only (iv pr (pr + 1)) w W) :
    bodyPost P fn (Read w0 pr sa cap T o w) .ret a ((((W.setCell ⟨b, 0, none⟩ (.int .i64 0)).setCell ⟨b, 1, none⟩ (.int .i64 0)).setCell ⟨b, 2, none⟩ (.string ⟨#[]⟩)).setCell ⟨b, 3, none⟩ (.slice none 0 0)) := by
  subst heq
  refine bodyPost_four2 h hp hq hd hu rfl hi hb fun w' hw' => ?_
  have hw2 : Only (iv b (b + 1)) W w' := hw'.sub fun k hk => by subst hk; exact ⟨Nat.le_refl _, Nat.lt_succ_self _⟩
  refine ⟨.inr ⟨rfl, rfl, j, hr.only hw2 (by omega) hne⟩, ?_⟩
  exact ⟨hw2.os.trans ho.os, hw2.tape.trans ho.tape, hw2.output.trans ho.output, Nat.le_trans ho.size hw2.size, fun k hk hn => (hw2.block k (Nat.lt_of_lt_of_le hk ho.size) fun x => by have := x.1; omega).trans (ho.block k hk hn)⟩
theorem only_then {S : Nat → Prop} {w w1 w2 : World} (h : Only S w w1) (hb : Below w1.heap.size w1 w2) : Only S w w2 := h.trans (Only.of_below hb)

set_option maxHeartbeats 4000000 in
set_option maxRecDepth 100000 in
theorem anyStep (w0 : World) (hf : TabErrs w0) (p : Nat) (sa : Option Addr) (cap : Nat) (T : List ByteArray) (hT : ∀ x ∈ T, x.size ≤ 1048576) (k : Nat)
    (IA : Hid (∀ (i : Nat) (w : World), 3 * (T.length - i) + 1 ≤ k → Rd w0 p sa cap T i w → Calls Tryd.prog 71 #[.pointer (some ⟨p, 0, none⟩)] w (Read w0 p sa cap T (anyP leafI k T i) w))) (IE : Hid (∀ (i : Nat) (w : World), 3 * (T.length - i) + 2 ≤ k → Rd w0 p sa cap T i w → Calls Tryd.prog 83 #[.pointer (some ⟨p, 0, none⟩)] w (Read w0 p sa cap T (elemP leafI k T i) w))) (IR : Hid (∀ (i : Nat) (w : World), 3 * (T.length - i) + 3 ≤ k → Rd w0 p sa cap T i w → Calls Tryd.prog 89 #[.pointer (some ⟨p, 0, none⟩)] w (Read w0 p sa cap T (restP leafI k T i) w))) :
    ∀ (i : Nat) (w : World), 3 * (T.length - i) + 1 ≤ k + 1 → Rd w0 p sa cap T i w → Calls Tryd.prog 71 #[.pointer (some ⟨p, 0, none⟩)] w (Read w0 p sa cap T (anyP leafI (k + 1) T i) w) := by
  intro i w hk hrd
  have HTF := Lib.hid hf
  have HT := Lib.hid hT
  have hwl := hrd.old.size
  have hil := hrd.le
  clear hf hT
  generalize hoe : anyP leafI (k + 1) T i = o
  have HEQ := Lib.hid hoe
  clear hoe
  have hal : Below w.heap.size w (w.alloc (.cells #[.int .i64 0, .int .i64 0, .string ⟨#[]⟩, .slice none 0 0] 43)) := belowAlloc (Below.refl _ _) _
  have HB := Lib.hid (at_box w #[.int .i64 0, .int .i64 0, .string ⟨#[]⟩, .slice none 0 0] 43)
  have HR := Lib.hid (hrd.below hal)
  have HO := Lib.hid (Only.of_below (S := iv p (p + 1)) hal)
  have hp := hrd.hi
  have hlo := hrd.lo
  have hsz : (w.alloc (.cells #[.int .i64 0, .int .i64 0, .string ⟨#[]⟩, .slice none 0 0] 43)).heap.size = w.heap.size + 1 := by simp
  clear hal hrd
  go_enter Tryd.func71, Tryd.ntmps71
  go_upto_region 1 with (fail)
  generalize hw0 : w.alloc (.cells #[.int .i64 0, .int .i64 0, .string ⟨#[]⟩, .slice none 0 0] 43) = w1 at HB HR HO hsz ⊢
  clear hw0
  have HC := Lib.hid (took_any tokL w0 p sa cap T i w1 HR.out)
  unfold tokL at HC
  go_wp2_with fail
  refine HC.out.mono ?_
  rintro e w2 (⟨hy, rfl, hr, ho⟩ | ⟨hy, rfl, hr, ho⟩)
  · replace HB := Lib.hid (HB.out.only ho (by omega))
    have hsn := ho.size
    replace HO := Lib.hid (HO.out.trans ho)
    clear HC ho
    replace HR := Lib.hid hr
    clear hr
    have HY := Lib.hid hy
    have hlt := at_lt hy
    clear hy
    have HC := Lib.hid (took_any tokR w0 p sa cap T (i + 1) w2 HR.out)
    unfold tokR at HC
    go_wp2_with fail
    refine HC.out.mono ?_
    rintro e w3 (⟨hy, rfl, hr, ho⟩ | ⟨hy, rfl, hr, ho⟩)
    · replace HB := Lib.hid (HB.out.only ho (by omega))
      have hsn := ho.size
      replace HO := Lib.hid (HO.out.trans ho)
      clear HC ho
      replace HR := Lib.hid hr
      clear hr
      have HQ := Lib.hid (HEQ.out.symm.trans (any_open HY.out hy))
      clear hy
      have HRE := Lib.hid HB.out.now
      obtain ⟨r0, r1, r2, r3, rf⟩ := box_cells HB.out.now
      have zr := HB.out.le
      go_wp2
      exact read_yes (t := zeroTm) (lo := w3.heap.size) (b := w.heap.size) HQ.out rfl rfl rfl rfl rfl rfl rfl rfl Tryd.underlying43 (by kernel_rfl) HRE.out (Nat.le_refl _) (by omega) (by omega) (by omega) HR.out HO.out (.nil _)
    · replace HB := Lib.hid (HB.out.only ho (by omega))
      have hsn := ho.size
      replace HO := Lib.hid (HO.out.trans ho)
      clear HC ho
      replace HR := Lib.hid hr
      clear hr
      have HEL := Lib.hid (HEQ.out.symm.trans (any_elem HY.out hy))
      clear hy
      have HC := Lib.hid (IE.out (i + 1) w3 (by omega) HR.out)
      go_wp2_with fail
      refine HC.out.mono ?_
      rintro e w4 ⟨⟨t, j, x, c, he, rfl, hown, hr⟩ | ⟨he, rfl, j, hr⟩, ho⟩
      · have HQ := Lib.hid (HEL.out.trans he)
        replace HB := Lib.hid (HB.out.only ho (by omega))
        have hsn := ho.size
        replace HO := Lib.hid (HO.out.trans ho)
        clear HC ho he
        replace HR := Lib.hid hr
        clear hr
        have HOWN := Lib.hid hown
        clear hown
        have HRE := Lib.hid HB.out.now
        obtain ⟨r0, r1, r2, r3, rf⟩ := box_cells HB.out.now
        have zr := HB.out.le
        go_wp2
        exact read_yes (t := t) (lo := w3.heap.size) (b := w.heap.size) HQ.out rfl rfl rfl rfl rfl rfl rfl rfl Tryd.underlying43 (by kernel_rfl) HRE.out (Nat.le_refl _) (by omega) (by omega) (by omega) HR.out HO.out HOWN.out
      · have HQ := Lib.hid (HEL.out.trans he)
        replace HB := Lib.hid (HB.out.only ho (by omega))
        have hsn := ho.size
        replace HO := Lib.hid (HO.out.trans ho)
        clear HC ho he
        replace HR := Lib.hid hr
        clear hr
        have HRE := Lib.hid HB.out.now
        obtain ⟨r0, r1, r2, r3, rf⟩ := box_cells HB.out.now
        have zr := HB.out.le
        go_wp2
        exact read_no HQ.out (b := w.heap.size) rfl rfl rfl rfl Tryd.underlying43 (by kernel_rfl) HRE.out (Nat.le_refl _) (by omega) (by omega) HR.out HO.out
  · replace HB := Lib.hid (HB.out.only ho (by omega))
    have hsn := ho.size
    replace HO := Lib.hid (HO.out.trans ho)
    clear HC ho
    replace HR := Lib.hid hr
    clear hr
    have HY := Lib.hid hy
    clear hy
    have HC := Lib.hid (next_any w0 p sa cap T i w2 HR.out)
    go_wp2_with fail
    refine HC.out.mono ?_
    rintro e w3 (⟨x, hx, rfl, hr, ho⟩ | ⟨hx, rfl, hr, ho⟩)
    · replace HB := Lib.hid (HB.out.only ho (by omega))
      have hsn := ho.size
      replace HO := Lib.hid (HO.out.trans ho)
      clear HC ho
      replace HR := Lib.hid hr
      clear hr
      have HX := Lib.hid hx
      clear hx
      have HC := Lib.hid (leafOf_any x w3 (tabErrs_after HTF.out HR.out.old) (HT.out x (List.mem_of_getElem? HX.out)))
      go_wp2_with fail
      refine HC.out.mono ?_
      rintro e w4 ⟨⟨t, ht, rfl⟩ | ⟨ht, rfl⟩, hb⟩
      · have hargs := leafI_args ht
        have HQ := Lib.hid (HEQ.out.symm.trans (any_leaf HX.out (fun e => HY.out (by rw [HX.out, e]; rfl)) ht))
        replace HB := Lib.hid (HB.out.read hb)
        replace HO := Lib.hid (only_then HO.out hb)
        replace HR := Lib.hid (HR.out.below hb)
        have hsm := hb.size
        have HAR := Lib.hid hargs
        clear hb HC ht hargs
        have HRE := Lib.hid HB.out.now
        obtain ⟨r0, r1, r2, r3, rf⟩ := box_cells HB.out.now
        have zr := HB.out.le
        go_wp2
        exact read_yes (t := t) (lo := w4.heap.size) (b := w.heap.size) HQ.out rfl rfl rfl (by rw [HAR.out]; rfl) rfl rfl rfl rfl Tryd.underlying43 (by kernel_rfl) HRE.out (Nat.le_refl _) (by omega) (by omega) (by omega) HR.out HO.out (by rw [HAR.out]; exact .nil _)
      · have HQ := Lib.hid (HEQ.out.symm.trans (any_no HX.out (fun e => HY.out (by rw [HX.out, e]; rfl)) ht))
        replace HB := Lib.hid (HB.out.read hb)
        replace HO := Lib.hid (only_then HO.out hb)
        replace HR := Lib.hid (HR.out.below hb)
        have hsm := hb.size
        clear hb HC ht
        have HRE := Lib.hid HB.out.now
        obtain ⟨r0, r1, r2, r3, rf⟩ := box_cells HB.out.now
        have zr := HB.out.le
        go_wp2
        exact read_no HQ.out (b := w.heap.size) rfl rfl rfl rfl Tryd.underlying43 (by kernel_rfl) HRE.out (Nat.le_refl _) (by omega) (by omega) HR.out HO.out
    · replace HB := Lib.hid (HB.out.only ho (by omega))
      have hsn := ho.size
      replace HO := Lib.hid (HO.out.trans ho)
      clear HC ho
      replace HR := Lib.hid hr
      clear hr
      have HQ := Lib.hid (HEQ.out.symm.trans (any_end hx))
      clear hx
      have HC := Lib.hid (leafOf_any ⟨#[]⟩ w3 (tabErrs_after HTF.out HR.out.old) (by decide))
      rw [leafI_empty] at HC
      go_wp2_with fail
      refine HC.out.mono ?_
      rintro e w4 ⟨⟨t, ht, rfl⟩ | ⟨ht, rfl⟩, hb⟩
      · cases ht
      · replace HB := Lib.hid (HB.out.read hb)
        replace HO := Lib.hid (only_then HO.out hb)
        replace HR := Lib.hid (HR.out.below hb)
        have hsm := hb.size
        clear hb HC ht
        have HRE := Lib.hid HB.out.now
        obtain ⟨r0, r1, r2, r3, rf⟩ := box_cells HB.out.now
        have zr := HB.out.le
        go_wp2
        exact read_no HQ.out (b := w.heap.size) rfl rfl rfl rfl Tryd.underlying43 (by kernel_rfl) HRE.out (Nat.le_refl _) (by omega) (by omega) HR.out HO.out

set_option maxHeartbeats 4000000 in
set_option maxRecDepth 100000 in
theorem elemStep (w0 : World) (hf : TabErrs w0) (p : Nat) (sa : Option Addr) (cap : Nat) (T : List ByteArray) (hT : ∀ x ∈ T, x.size ≤ 1048576) (k : Nat)
    (IA : Hid (∀ (i : Nat) (w : World), 3 * (T.length - i) + 1 ≤ k → Rd w0 p sa cap T i w → Calls Tryd.prog 71 #[.pointer (some ⟨p, 0, none⟩)] w (Read w0 p sa cap T (anyP leafI k T i) w))) (IE : Hid (∀ (i : Nat) (w : World), 3 * (T.length - i) + 2 ≤ k → Rd w0 p sa cap T i w → Calls Tryd.prog 83 #[.pointer (some ⟨p, 0, none⟩)] w (Read w0 p sa cap T (elemP leafI k T i) w))) (IR : Hid (∀ (i : Nat) (w : World), 3 * (T.length - i) + 3 ≤ k → Rd w0 p sa cap T i w → Calls Tryd.prog 89 #[.pointer (some ⟨p, 0, none⟩)] w (Read w0 p sa cap T (restP leafI k T i) w))) :
    ∀ (i : Nat) (w : World), 3 * (T.length - i) + 2 ≤ k + 1 → Rd w0 p sa cap T i w → Calls Tryd.prog 83 #[.pointer (some ⟨p, 0, none⟩)] w (Read w0 p sa cap T (elemP leafI (k + 1) T i) w) := by
  intro i w hk hrd
  have HTF := Lib.hid hf
  have HT := Lib.hid hT
  have hwl := hrd.old.size
  have hil := hrd.le
  clear hf hT
  generalize hoe : elemP leafI (k + 1) T i = o
  have HEQ := Lib.hid hoe
  clear hoe
  have hal : Below w.heap.size w (w.alloc (.cells #[.int .i64 0, .int .i64 0, .string ⟨#[]⟩, .slice none 0 0] 43)) := belowAlloc (Below.refl _ _) _
  have HB := Lib.hid (at_box w #[.int .i64 0, .int .i64 0, .string ⟨#[]⟩, .slice none 0 0] 43)
  have HR := Lib.hid (hrd.below hal)
  have HO := Lib.hid (Only.of_below (S := iv p (p + 1)) hal)
  have hp := hrd.hi
  have hlo := hrd.lo
  have hsz : (w.alloc (.cells #[.int .i64 0, .int .i64 0, .string ⟨#[]⟩, .slice none 0 0] 43)).heap.size = w.heap.size + 1 := by simp
  clear hal hrd
  go_enter Tryd.func83, Tryd.ntmps83
  go_upto_region 1 with (fail)
  generalize hw0 : w.alloc (.cells #[.int .i64 0, .int .i64 0, .string ⟨#[]⟩, .slice none 0 0] 43) = w1 at HB HR HO hsz ⊢
  clear hw0
  have HC := Lib.hid (IA.out i w1 (by omega) HR.out)
  go_wp2_with fail
  refine HC.out.mono ?_
  rintro e w2 ⟨⟨x, j, xa, xc, he, rfl, hown, hr⟩ | ⟨he, rfl, j, hr⟩, ho⟩
  · replace HB := Lib.hid (HB.out.only ho (by omega))
    have hsn := ho.size
    replace HO := Lib.hid (HO.out.trans ho)
    clear HC ho
    replace HR := Lib.hid hr
    clear hr
    have HE1 := Lib.hid he
    have hgt := (read_gt leafI T k).1 _ _ _ he
    clear he
    have HOX := Lib.hid hown
    clear hown
    have hjl := HR.out.le
    go_upto_region 2 with (fail)
    have hal : Below w2.heap.size w2 (w2.alloc (.cells #[.int .i64 x.kind, .int .i64 x.num, .string x.name, .slice xa x.args.length xc] 43)) := belowAlloc (Below.refl _ _) _
    replace HB := Lib.hid (HB.out.read hal)
    replace HO := Lib.hid (only_then HO.out hal)
    replace HR := Lib.hid (HR.out.below hal)
    have HBX := Lib.hid (at_box w2 #[.int .i64 x.kind, .int .i64 x.num, .string x.name, .slice xa x.args.length xc] 43)
    have hsw2x : (w2.alloc (.cells #[.int .i64 x.kind, .int .i64 x.num, .string x.name, .slice xa x.args.length xc] 43)).heap.size = w2.heap.size + 1 := by simp
    replace HOX := Lib.hid (HOX.out.kept hal)
    clear hal
    generalize hwx : w2.alloc (.cells #[.int .i64 x.kind, .int .i64 x.num, .string x.name, .slice xa x.args.length xc] 43) = w2x at HB HBX HOX HO HR hsw2x ⊢
    clear hwx
    have HC := Lib.hid (IR.out j w2x (by omega) HR.out)
    go_wp2_with fail
    refine HC.out.mono ?_
    rintro e w3 ⟨⟨y, m, ya, yc, he, rfl, hown, hr⟩ | ⟨he, rfl, m, hr⟩, ho⟩
    · have HQ := Lib.hid (HEQ.out.symm.trans (elem_yes HE1.out he))
      replace HBX := Lib.hid (HBX.out.only ho (by omega))
      replace HOX := Lib.hid (HOX.out.frame fun k hk hks => ho.block k hks fun hh => by have h1 := hh.1; have h2 := hh.2; have h3 := hk.1; omega)
      replace HB := Lib.hid (HB.out.only ho (by omega))
      have hsn := ho.size
      replace HO := Lib.hid (HO.out.trans ho)
      clear HC ho he
      replace HR := Lib.hid hr
      clear hr
      have HOY := Lib.hid hown
      clear hown
      go_upto_region 5 with (fail)
      have hal : Below w3.heap.size w3 (w3.alloc (.cells #[.int .i64 y.kind, .int .i64 y.num, .string y.name, .slice ya y.args.length yc] 43)) := belowAlloc (Below.refl _ _) _
      replace HB := Lib.hid (HB.out.read hal)
      replace HBX := Lib.hid (HBX.out.read hal)
      replace HO := Lib.hid (only_then HO.out hal)
      replace HR := Lib.hid (HR.out.below hal)
      have HBY := Lib.hid (at_box w3 #[.int .i64 y.kind, .int .i64 y.num, .string y.name, .slice ya y.args.length yc] 43)
      have hsw3x : (w3.alloc (.cells #[.int .i64 y.kind, .int .i64 y.num, .string y.name, .slice ya y.args.length yc] 43)).heap.size = w3.heap.size + 1 := by simp
      replace HOX := Lib.hid (HOX.out.kept hal)
      replace HOY := Lib.hid (HOY.out.kept hal)
      clear hal
      generalize hwx : w3.alloc (.cells #[.int .i64 y.kind, .int .i64 y.num, .string y.name, .slice ya y.args.length yc] 43) = w3x at HB HBX HBY HOX HOY HO HR hsw3x ⊢
      clear hwx
      obtain ⟨p0, p1, p2, p3⟩ := HBX.out.cells
      have zx := HBX.out.le
      obtain ⟨q0, q1, q2, q3⟩ := HBY.out.cells
      have zy := HBY.out.le
      go_wp2_with fail
      refine (pairOf_any _ _ _ _ _ _ _ _ _ _ _ _ _).mono ?_
      rintro e w4 ⟨g, rfl, hg1, hg2, hgh, hb⟩
      replace HB := Lib.hid (HB.out.read hb)
      replace HO := Lib.hid (only_then HO.out hb)
      replace HR := Lib.hid (HR.out.below hb)
      have HOP : Hid (Own w4 43 (iv (w.heap.size + 1) w4.heap.size) (.slice (some ⟨g, 0, none⟩) 2 2) [x, y]) := Lib.hid (own_pair hgh ⟨by omega, hg2⟩ (HOX.out.kept hb) (HOY.out.kept hb) (fun k hk => ⟨⟨by have := hk.1; omega, by have := hk.2; omega⟩, by have := hk.2; omega⟩) (fun k hk => ⟨⟨by have := hk.1; omega, by have := hk.2; omega⟩, by have := hk.2; omega⟩) (fun k hk hk2 => by have h1 := hk.2; have h2 := hk2.1; omega))
      have hsm := hb.size
      clear hb hgh p0 p1 p2 p3 zx q0 q1 q2 q3 zy
      have HRE := Lib.hid HB.out.now
      obtain ⟨r0, r1, r2, r3, rf⟩ := box_cells HB.out.now
      have zr := HB.out.le
      go_wp2
      exact read_yes (t := pairT x y) (lo := (w.heap.size + 1)) (b := w.heap.size) HQ.out rfl rfl rfl rfl rfl rfl rfl rfl Tryd.underlying43 (by kernel_rfl) HRE.out (Nat.le_refl _) (by omega) (by omega) (by omega) HR.out HO.out HOP.out
    · have HQ := Lib.hid (HEQ.out.symm.trans (elem_no2 HE1.out he))
      replace HB := Lib.hid (HB.out.only ho (by omega))
      have hsn := ho.size
      replace HO := Lib.hid (HO.out.trans ho)
      clear HC ho he HBX HOX
      replace HR := Lib.hid hr
      clear hr
      go_upto_region 5 with (fail)
      have hal : Below w3.heap.size w3 (w3.alloc (.cells #[.int .i64 0, .int .i64 0, .string ⟨#[]⟩, .slice none 0 0] 43)) := belowAlloc (Below.refl _ _) _
      replace HB := Lib.hid (HB.out.read hal)
      replace HO := Lib.hid (only_then HO.out hal)
      replace HR := Lib.hid (HR.out.below hal)
      have HBY := Lib.hid (at_box w3 #[.int .i64 0, .int .i64 0, .string ⟨#[]⟩, .slice none 0 0] 43)
      have hsw3x : (w3.alloc (.cells #[.int .i64 0, .int .i64 0, .string ⟨#[]⟩, .slice none 0 0] 43)).heap.size = w3.heap.size + 1 := by simp
      clear hal
      generalize hwx : w3.alloc (.cells #[.int .i64 0, .int .i64 0, .string ⟨#[]⟩, .slice none 0 0] 43) = w3x at HB HBY HO HR hsw3x ⊢
      clear hwx
      have HRE := Lib.hid HB.out.now
      obtain ⟨r0, r1, r2, r3, rf⟩ := box_cells HB.out.now
      have zr := HB.out.le
      go_wp2
      exact read_no HQ.out (b := w.heap.size) rfl rfl rfl rfl Tryd.underlying43 (by kernel_rfl) HRE.out (Nat.le_refl _) (by omega) (by omega) HR.out HO.out
  · have HQ := Lib.hid (HEQ.out.symm.trans (elem_no1 he))
    replace HB := Lib.hid (HB.out.only ho (by omega))
    have hsn := ho.size
    replace HO := Lib.hid (HO.out.trans ho)
    clear HC ho he
    replace HR := Lib.hid hr
    clear hr
    go_upto_region 2 with (fail)
    have hal : Below w2.heap.size w2 (w2.alloc (.cells #[.int .i64 0, .int .i64 0, .string ⟨#[]⟩, .slice none 0 0] 43)) := belowAlloc (Below.refl _ _) _
    replace HB := Lib.hid (HB.out.read hal)
    replace HO := Lib.hid (only_then HO.out hal)
    replace HR := Lib.hid (HR.out.below hal)
    have HBX := Lib.hid (at_box w2 #[.int .i64 0, .int .i64 0, .string ⟨#[]⟩, .slice none 0 0] 43)
    have hsw2x : (w2.alloc (.cells #[.int .i64 0, .int .i64 0, .string ⟨#[]⟩, .slice none 0 0] 43)).heap.size = w2.heap.size + 1 := by simp
    clear hal
    generalize hwx : w2.alloc (.cells #[.int .i64 0, .int .i64 0, .string ⟨#[]⟩, .slice none 0 0] 43) = w2x at HB HBX HO HR hsw2x ⊢
    clear hwx
    have HRE := Lib.hid HB.out.now
    obtain ⟨r0, r1, r2, r3, rf⟩ := box_cells HB.out.now
    have zr := HB.out.le
    go_wp2
    exact read_no HQ.out (b := w.heap.size) rfl rfl rfl rfl Tryd.underlying43 (by kernel_rfl) HRE.out (Nat.le_refl _) (by omega) (by omega) HR.out HO.out

set_option maxHeartbeats 4000000 in
set_option maxRecDepth 100000 in
theorem restStep (w0 : World) (hf : TabErrs w0) (p : Nat) (sa : Option Addr) (cap : Nat) (T : List ByteArray) (hT : ∀ x ∈ T, x.size ≤ 1048576) (k : Nat)
    (IA : Hid (∀ (i : Nat) (w : World), 3 * (T.length - i) + 1 ≤ k → Rd w0 p sa cap T i w → Calls Tryd.prog 71 #[.pointer (some ⟨p, 0, none⟩)] w (Read w0 p sa cap T (anyP leafI k T i) w))) (IE : Hid (∀ (i : Nat) (w : World), 3 * (T.length - i) + 2 ≤ k → Rd w0 p sa cap T i w → Calls Tryd.prog 83 #[.pointer (some ⟨p, 0, none⟩)] w (Read w0 p sa cap T (elemP leafI k T i) w))) (IR : Hid (∀ (i : Nat) (w : World), 3 * (T.length - i) + 3 ≤ k → Rd w0 p sa cap T i w → Calls Tryd.prog 89 #[.pointer (some ⟨p, 0, none⟩)] w (Read w0 p sa cap T (restP leafI k T i) w))) :
    ∀ (i : Nat) (w : World), 3 * (T.length - i) + 3 ≤ k + 1 → Rd w0 p sa cap T i w → Calls Tryd.prog 89 #[.pointer (some ⟨p, 0, none⟩)] w (Read w0 p sa cap T (restP leafI (k + 1) T i) w) := by
  intro i w hk hrd
  have HTF := Lib.hid hf
  have HT := Lib.hid hT
  have hwl := hrd.old.size
  have hil := hrd.le
  clear hf hT
  generalize hoe : restP leafI (k + 1) T i = o
  have HEQ := Lib.hid hoe
  clear hoe
  have hal : Below w.heap.size w (w.alloc (.cells #[.int .i64 0, .int .i64 0, .string ⟨#[]⟩, .slice none 0 0] 43)) := belowAlloc (Below.refl _ _) _
  have HB := Lib.hid (at_box w #[.int .i64 0, .int .i64 0, .string ⟨#[]⟩, .slice none 0 0] 43)
  have HR := Lib.hid (hrd.below hal)
  have HO := Lib.hid (Only.of_below (S := iv p (p + 1)) hal)
  have hp := hrd.hi
  have hlo := hrd.lo
  have hsz : (w.alloc (.cells #[.int .i64 0, .int .i64 0, .string ⟨#[]⟩, .slice none 0 0] 43)).heap.size = w.heap.size + 1 := by simp
  clear hal hrd
  go_enter Tryd.func89, Tryd.ntmps89
  go_upto_region 1 with (fail)
  generalize hw0 : w.alloc (.cells #[.int .i64 0, .int .i64 0, .string ⟨#[]⟩, .slice none 0 0] 43) = w1 at HB HR HO hsz ⊢
  clear hw0
  have HC := Lib.hid (took_any tokR w0 p sa cap T i w1 HR.out)
  unfold tokR at HC
  go_wp2_with fail
  refine HC.out.mono ?_
  rintro e w2 (⟨hy, rfl, hr, ho⟩ | ⟨hy, rfl, hr, ho⟩)
  · replace HB := Lib.hid (HB.out.only ho (by omega))
    have hsn := ho.size
    replace HO := Lib.hid (HO.out.trans ho)
    clear HC ho
    replace HR := Lib.hid hr
    clear hr
    have HQ := Lib.hid (HEQ.out.symm.trans (rest_close hy))
    clear hy
    have HRE := Lib.hid HB.out.now
    obtain ⟨r0, r1, r2, r3, rf⟩ := box_cells HB.out.now
    have zr := HB.out.le
    go_wp2
    exact read_yes (t := zeroTm) (lo := w2.heap.size) (b := w.heap.size) HQ.out rfl rfl rfl rfl rfl rfl rfl rfl Tryd.underlying43 (by kernel_rfl) HRE.out (Nat.le_refl _) (by omega) (by omega) (by omega) HR.out HO.out (.nil _)
  · replace HB := Lib.hid (HB.out.only ho (by omega))
    have hsn := ho.size
    replace HO := Lib.hid (HO.out.trans ho)
    clear HC ho
    replace HR := Lib.hid hr
    clear hr
    have HY := Lib.hid hy
    clear hy
    have HC := Lib.hid (took_any tokD w0 p sa cap T i w2 HR.out)
    unfold tokD at HC
    go_wp2_with fail
    refine HC.out.mono ?_
    rintro e w3 (⟨hy, rfl, hr, ho⟩ | ⟨hy, rfl, hr, ho⟩)
    · replace HB := Lib.hid (HB.out.only ho (by omega))
      have hsn := ho.size
      replace HO := Lib.hid (HO.out.trans ho)
      clear HC ho
      replace HR := Lib.hid hr
      clear hr
      have HY2 := Lib.hid hy
      have hlt := at_lt hy
      clear hy
      have HC := Lib.hid (IA.out (i + 1) w3 (by omega) HR.out)
      go_wp2_with fail
      refine HC.out.mono ?_
      rintro e w4 ⟨⟨y, j, ya, yc, he, rfl, hown, hr⟩ | ⟨he, rfl, j, hr⟩, ho⟩
      · replace HB := Lib.hid (HB.out.only ho (by omega))
        have hsn := ho.size
        replace HO := Lib.hid (HO.out.trans ho)
        clear HC ho
        replace HR := Lib.hid hr
        clear hr
        have HE1 := Lib.hid he
        clear he
        have HOY := Lib.hid hown
        clear hown
        go_upto_region 6 with (fail)
        have hal : Below w4.heap.size w4 (w4.alloc (.cells #[.int .i64 y.kind, .int .i64 y.num, .string y.name, .slice ya y.args.length yc] 43)) := belowAlloc (Below.refl _ _) _
        replace HB := Lib.hid (HB.out.read hal)
        replace HO := Lib.hid (only_then HO.out hal)
        replace HR := Lib.hid (HR.out.below hal)
        have HBY := Lib.hid (at_box w4 #[.int .i64 y.kind, .int .i64 y.num, .string y.name, .slice ya y.args.length yc] 43)
        have hsw4x : (w4.alloc (.cells #[.int .i64 y.kind, .int .i64 y.num, .string y.name, .slice ya y.args.length yc] 43)).heap.size = w4.heap.size + 1 := by simp
        replace HOY := Lib.hid (HOY.out.kept hal)
        clear hal
        generalize hwx : w4.alloc (.cells #[.int .i64 y.kind, .int .i64 y.num, .string y.name, .slice ya y.args.length yc] 43) = w4x at HB HBY HOY HO HR hsw4x ⊢
        clear hwx
        have HC := Lib.hid (took_any tokR w0 p sa cap T j w4x HR.out)
        unfold tokR at HC
        go_wp2_with fail
        refine HC.out.mono ?_
        rintro e w5 (⟨hy, rfl, hr, ho⟩ | ⟨hy, rfl, hr, ho⟩)
        · have HQ := Lib.hid (HEQ.out.symm.trans (rest_yes HY2.out HE1.out hy))
          clear hy
          replace HBY := Lib.hid (HBY.out.only ho (by omega))
          replace HOY := Lib.hid ((HOY.out.frame fun k hk hks => ho.block k hks fun hh => by have h1 := hh.1; have h2 := hh.2; have h3 := hk.1; omega).sub fun k hk => (⟨hk.1, by have := hk.2; have := ho.size; omega⟩ : iv w3.heap.size w5.heap.size k))
          replace HB := Lib.hid (HB.out.only ho (by omega))
          have hsn := ho.size
          replace HO := Lib.hid (HO.out.trans ho)
          clear HC ho
          replace HR := Lib.hid hr
          clear hr
          obtain ⟨q0, q1, q2, q3⟩ := HBY.out.cells
          have zy := HBY.out.le
          have HRE := Lib.hid HB.out.now
          obtain ⟨r0, r1, r2, r3, rf⟩ := box_cells HB.out.now
          have zr := HB.out.le
          go_wp2
          exact read_yes (t := y) (lo := w3.heap.size) (b := w.heap.size) HQ.out rfl rfl rfl rfl rfl rfl rfl rfl Tryd.underlying43 (by kernel_rfl) HRE.out (Nat.le_refl _) (by omega) (by omega) (by omega) HR.out HO.out HOY.out
        · have HQ := Lib.hid (HEQ.out.symm.trans (rest_no2 HY2.out HE1.out hy))
          clear hy
          replace HB := Lib.hid (HB.out.only ho (by omega))
          have hsn := ho.size
          replace HO := Lib.hid (HO.out.trans ho)
          clear HC ho HBY HOY
          replace HR := Lib.hid hr
          clear hr
          have HRE := Lib.hid HB.out.now
          obtain ⟨r0, r1, r2, r3, rf⟩ := box_cells HB.out.now
          have zr := HB.out.le
          go_wp2
          exact read_no HQ.out (b := w.heap.size) rfl rfl rfl rfl Tryd.underlying43 (by kernel_rfl) HRE.out (Nat.le_refl _) (by omega) (by omega) HR.out HO.out
      · have HQ := Lib.hid (HEQ.out.symm.trans (rest_no1 HY2.out he))
        replace HB := Lib.hid (HB.out.only ho (by omega))
        have hsn := ho.size
        replace HO := Lib.hid (HO.out.trans ho)
        clear HC ho he
        replace HR := Lib.hid hr
        clear hr
        go_upto_region 6 with (fail)
        have hal : Below w4.heap.size w4 (w4.alloc (.cells #[.int .i64 0, .int .i64 0, .string ⟨#[]⟩, .slice none 0 0] 43)) := belowAlloc (Below.refl _ _) _
        replace HB := Lib.hid (HB.out.read hal)
        replace HO := Lib.hid (only_then HO.out hal)
        replace HR := Lib.hid (HR.out.below hal)
        have HBY := Lib.hid (at_box w4 #[.int .i64 0, .int .i64 0, .string ⟨#[]⟩, .slice none 0 0] 43)
        have hsw4x : (w4.alloc (.cells #[.int .i64 0, .int .i64 0, .string ⟨#[]⟩, .slice none 0 0] 43)).heap.size = w4.heap.size + 1 := by simp
        clear hal
        generalize hwx : w4.alloc (.cells #[.int .i64 0, .int .i64 0, .string ⟨#[]⟩, .slice none 0 0] 43) = w4x at HB HBY HO HR hsw4x ⊢
        clear hwx
        have HRE := Lib.hid HB.out.now
        obtain ⟨r0, r1, r2, r3, rf⟩ := box_cells HB.out.now
        have zr := HB.out.le
        go_wp2
        exact read_no HQ.out (b := w.heap.size) rfl rfl rfl rfl Tryd.underlying43 (by kernel_rfl) HRE.out (Nat.le_refl _) (by omega) (by omega) HR.out HO.out
    · replace HB := Lib.hid (HB.out.only ho (by omega))
      have hsn := ho.size
      replace HO := Lib.hid (HO.out.trans ho)
      clear HC ho
      replace HR := Lib.hid hr
      clear hr
      have HEL := Lib.hid (HEQ.out.symm.trans (rest_elem HY.out hy))
      clear hy
      have HC := Lib.hid (IE.out i w3 (by omega) HR.out)
      go_wp2_with fail
      refine HC.out.mono ?_
      rintro e w4 ⟨⟨t, j, x, c, he, rfl, hown, hr⟩ | ⟨he, rfl, j, hr⟩, ho⟩
      · have HQ := Lib.hid (HEL.out.trans he)
        replace HB := Lib.hid (HB.out.only ho (by omega))
        have hsn := ho.size
        replace HO := Lib.hid (HO.out.trans ho)
        clear HC ho he
        replace HR := Lib.hid hr
        clear hr
        have HOWN := Lib.hid hown
        clear hown
        have HRE := Lib.hid HB.out.now
        obtain ⟨r0, r1, r2, r3, rf⟩ := box_cells HB.out.now
        have zr := HB.out.le
        go_wp2
        exact read_yes (t := t) (lo := w3.heap.size) (b := w.heap.size) HQ.out rfl rfl rfl rfl rfl rfl rfl rfl Tryd.underlying43 (by kernel_rfl) HRE.out (Nat.le_refl _) (by omega) (by omega) (by omega) HR.out HO.out HOWN.out
      · have HQ := Lib.hid (HEL.out.trans he)
        replace HB := Lib.hid (HB.out.only ho (by omega))
        have hsn := ho.size
        replace HO := Lib.hid (HO.out.trans ho)
        clear HC ho he
        replace HR := Lib.hid hr
        clear hr
        have HRE := Lib.hid HB.out.now
        obtain ⟨r0, r1, r2, r3, rf⟩ := box_cells HB.out.now
        have zr := HB.out.le
        go_wp2
        exact read_no HQ.out (b := w.heap.size) rfl rfl rfl rfl Tryd.underlying43 (by kernel_rfl) HRE.out (Nat.le_refl _) (by omega) (by omega) HR.out HO.out

theorem reader_any (w0 : World) (hf : TabErrs w0) (p : Nat) (sa : Option Addr) (cap : Nat) (T : List ByteArray) (hT : ∀ x ∈ T, x.size ≤ 1048576) (k : Nat) :
    (∀ (i : Nat) (w : World), 3 * (T.length - i) + 1 ≤ k → Rd w0 p sa cap T i w → Calls Tryd.prog 71 #[.pointer (some ⟨p, 0, none⟩)] w (Read w0 p sa cap T (anyP leafI k T i) w)) ∧
    (∀ (i : Nat) (w : World), 3 * (T.length - i) + 2 ≤ k → Rd w0 p sa cap T i w → Calls Tryd.prog 83 #[.pointer (some ⟨p, 0, none⟩)] w (Read w0 p sa cap T (elemP leafI k T i) w)) ∧
    (∀ (i : Nat) (w : World), 3 * (T.length - i) + 3 ≤ k → Rd w0 p sa cap T i w → Calls Tryd.prog 89 #[.pointer (some ⟨p, 0, none⟩)] w (Read w0 p sa cap T (restP leafI k T i) w)) := by
  induction k with
  | zero => exact ⟨fun i w hk => by omega, fun i w hk => by omega, fun i w hk => by omega⟩
  | succ k ih =>
    exact ⟨anyStep w0 hf p sa cap T hT k (Lib.hid ih.1) (Lib.hid ih.2.1) (Lib.hid ih.2.2), elemStep w0 hf p sa cap T hT k (Lib.hid ih.1) (Lib.hid ih.2.1) (Lib.hid ih.2.2), restStep w0 hf p sa cap T hT k (Lib.hid ih.1) (Lib.hid ih.2.1) (Lib.hid ih.2.2)⟩
end Go.Proofs.YtjmmeccfjanpcaaDoor

