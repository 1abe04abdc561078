/-
  The model's l03Read where the token opens no list; a triple's return.
  Reading in rounds, plain: what is left of a list when some of its elements have come.
  The model's l02List.
  The model's l03Read where the token opens a list.
-/
import Derived.Test.YtnbnepeikdieaaaDoorAtoms
import Derived.Test.YtnbnepeikdieaaaDoorReaders
import Derived.Test.YtnbnepeikdieaaaDoorListOk
import Derived.Test.YtnbnepeikdieaaaDoorItems
import Derived.Deep.LoopGhost
namespace Go.Proofs.YtnbnepeikdieaaaDoor
open Go.RowKit
set_option linter.unusedVariables false
set_option linter.unusedSimpArgs false

theorem results_cell_row3 {P : Program} {fn : Func} {p q r : Tmp} {ty : TypeId} (h : fn.results = #[.cell p ty, .tmp q, .tmp r]) (tmps : Array Value) (w : World) (g : Nat) (t : TypeId) (cs : Array Value) (fr : Nat × Nat) (d : TypeDesc)
    (hp : tmps.getD p undef = .pointer (some ⟨g, 0, none⟩)) (hg : w.heap[g]? = some (.cells cs t fr))
    (hu : P.underlying ty = some d) (hd : (match d with | .struct _ | .array _ _ => true | _ => false) = true) (hi : (P.info? ty).map (·.size) = some cs.size) :
    (results fn tmps).run P w = .ok (.tuple #[.agg cs, tmps.getD q undef, tmps.getD r undef]) w := by
  have hp' : tmps[p]?.getD undef = .pointer (some ⟨g, 0, none⟩) := by simpa using hp
  simp [results, h, hp', asAddr, run_loadVar_row w g t ty cs fr d hg hu hd hi]
/-- The return of a struct of four cells that has just been stored into the result's variable, and of two more results. -/
theorem bodyPost_fourT {P : Program} {fn : Func} {R : Ending → World → Prop} {a : Act} {w : World} {p q r : Tmp} {ty e : TypeId} {b : Nat} {x0 x1 x2 x3 y0 y1 y2 y3 z1 z2 : Value} {d : TypeDesc} (h : fn.results = #[.cell p ty, .tmp q, .tmp r]) (hp : a.tmps.getD p undef = .pointer (some ⟨b, 0, none⟩)) (hq : a.tmps.getD q undef = z1) (hr : a.tmps.getD r undef = z2) (hd : a.defers = [])
    (hu : P.underlying ty = some d) (hdd : (match d with | .struct _ | .array _ _ => true | _ => false) = true) (hi : (P.info? ty).map (·.size) = some 4) (hb : w.heap[b]? = some (Obj.cells #[x0, x1, x2, x3] e))
    (hR : ∀ w', Only (fun k => k = b) w w' → R (.returned (.tuple #[.agg #[y0, y1, y2, y3], z1, z2])) w') :
    bodyPost P fn R .ret a ((((w.setCell ⟨b, 0, none⟩ y0).setCell ⟨b, 1, none⟩ y1).setCell ⟨b, 2, none⟩ y2).setCell ⟨b, 3, none⟩ y3) := by
  subst hq
  subst hr
  have h0 := heap_setCell_same w b 0 _ e y0 hb
  have h1 := heap_setCell_same _ b 1 _ e y1 h0
  have h2 := heap_setCell_same _ b 2 _ e y2 h1
  have h3 := heap_setCell_same _ b 3 _ e y3 h2
  refine bodyPost_ret (results_cell_row3 h _ _ b e #[y0, y1, y2, y3] (0, 0) d hp h3 hu hdd hi) hd (hR _ ?_)
  have one : ∀ (W : World) (j : Nat) (u : Value), Only (fun k => k = b) W (W.setCell ⟨b, j, none⟩ u) := fun W j u => ⟨rfl, rfl, rfl, by simp, fun k _ hk => Below.heap_setCell _ _ _ _ hk⟩
  exact (((one _ _ _).trans (one _ _ _)).trans (one _ _ _)).trans (one _ _ _)

/-- Tokens in a slice that came in. -/
def Toks (w : World) (sa : Option Addr) (T : List ByteArray) : Prop := T = [] ∨ ∃ g off, sa = some ⟨g, off, none⟩ ∧ g < w.heap.size ∧ ∀ j x, T[j]? = some x → w.cell? ⟨g, off + j, none⟩ = some (.string x)
theorem Toks.kept {w w' : World} {sa : Option Addr} {T : List ByteArray} (h : Toks w sa T) (hb : Below w.heap.size w w') : Toks w' sa T := by
  rcases h with h | ⟨g, off, h1, h2, h3⟩
  · exact .inl h
  · exact .inr ⟨g, off, h1, Nat.lt_of_lt_of_le h2 hb.size, fun j x hx => (hb.cell (p := ⟨g, off + j, none⟩) h2).trans (h3 j x hx)⟩
theorem Toks.at {w : World} {sa : Option Addr} {T : List ByteArray} (h : Toks w sa T) {j : Nat} {x : ByteArray} (hx : T[j]? = some x) : ∃ g off, sa = some ⟨g, off, none⟩ ∧ w.cell? ⟨g, off + j, none⟩ = some (.string x) := by
  rcases h with h | ⟨g, off, h1, _, h3⟩
  · subst h; simp at hx
  · exact ⟨g, off, h1, h3 j x hx⟩
/-- What the model's reading answers. -/
def SRead (o : Option (Tm × Nat)) (w : World) (e : Ending) (w' : World) : Prop :=
  ((∃ (t : Tm) (j : Nat) (x : Option Addr) (c : Nat), o = some (t, j) ∧ e = .returned (.tuple #[.agg #[.int .i64 t.kind, .int .i64 t.num, .string t.name, .slice x t.args.length c], .int .i64 j, .bool true]) ∧ ArgsS w' (iv w.heap.size w'.heap.size) (.slice x t.args.length c) t.args) ∨
    (o = none ∧ ∃ m : Int, e = .returned (.tuple #[.agg #[.int .i64 0, .int .i64 0, .string ⟨#[]⟩, .slice none 0 0], .int .i64 m, .bool false]))) ∧ Below w.heap.size w w'

theorem leafS_args {x : ByteArray} {t : Tm} (h : leafS x = some t) : t.args = [] := by
  cases hl : leafI x with
  | none => rw [leafS_no hl] at h; cases h
  | some u =>
    by_cases hg : Good u
    · rw [leafS_yes hl hg] at h; cases h; exact leafI_args hl
    · rw [leafS_bad hl hg] at h; cases h
theorem one_list (c : UInt8) : (⟨#[c]⟩ : ByteArray).toList = [c] := by rw [Lib.toList_data]
theorem leafS_R : leafS tokR = none := by
  refine leafS_no (leafI_no (parse_first fun c r h => ?_) (by decide) (fun h => absurd h.1 (by decide)))
  cases h; decide
theorem leafS_D : leafS tokD = none := by
  refine leafS_no (leafI_no (parse_first fun c r h => ?_) (by decide) (fun h => absurd h.1 (by decide)))
  cases h; decide

set_option maxHeartbeats 4000000 in
set_option maxRecDepth 100000 in
theorem specRead_leaf (sa : Option Addr) (cap : Nat) (T : List ByteArray) (hT : ∀ x ∈ T, x.size ≤ 1048576) (hTl : T.length ≤ 1048576) (k i : Nat) (w : World) (ht : Toks w sa T) (hi : i ≤ 1048577) (hno : ¬ T[i]? = some tokL) :
    Calls Tryd.prog 48 #[.slice sa T.length cap, .int .i64 i] w (SRead (anyP leafS (k + 1) T i) w) := by
  have hal : Below w.heap.size w (w.alloc (.cells #[.int .i64 0, .int .i64 0, .string ⟨#[]⟩, .slice none 0 0] 43)) := belowAlloc (Below.refl _ _) _
  have HR := Lib.hid (at_box w #[.int .i64 0, .int .i64 0, .string ⟨#[]⟩, .slice none 0 0] 43)
  have HW := Lib.hid hal
  have HTK := Lib.hid (ht.kept hal)
  clear hal ht
  have hi0 : (0 : Int) ≤ (i : Int) := by omega
  have NOEND : True := trivial
  by_cases hlt : i < T.length
  · obtain ⟨x, hx⟩ : ∃ x, T[i]? = some x := ⟨_, List.getElem?_eq_getElem hlt⟩
    have hxl : ¬ x = tokL := fun e => hno (by rw [hx, e])
    have hge : decide ((T.length : Int) ≤ (i : Int)) = false := decide_eq_false (by omega)
    have hi1 : (i : Int) < (T.length : Int) := by omega
    have hxs := hT x (List.mem_of_getElem? hx)
    obtain ⟨g, off, rfl, hc⟩ := HTK.out.at hx
    have HCX := Lib.hid hc
    by_cases hR : x = tokR
    · have HQ := Lib.hid (any_no (L := leafS) (k := k) hx hxl (by rw [hR]; exact leafS_R))
      generalize anyP leafS (k + 1) T i = o at HQ ⊢
      subst hR
      unfold tokR at HCX
      clear hno hx hxl hT hc HTK
      go_enter Tryd.func48, Tryd.ntmps48
      go_upto_region 1 with (fail)
      generalize hw0 : w.alloc (.cells #[.int .i64 0, .int .i64 0, .string ⟨#[]⟩, .slice none 0 0] 43) = w0 at HR HW HCX ⊢
      clear hw0
      have hc := HCX.out
      have HRE := Lib.hid HR.out.now
      obtain ⟨r0, r1, r2, r3, rf⟩ := box_cells HR.out.now
      go_wp2
      refine bodyPost_fourT (p := 4) (q := 5) (r := 6) (b := w.heap.size) rfl rfl rfl rfl rfl Tryd.underlying43 rfl (by kernel_rfl) HRE.out fun w' hw => ?_
      exact ⟨.inr ⟨HQ.out, 0, rfl⟩, HW.out.trans (hw.below (fun k hk => by omega) HW.out.size)⟩
    · by_cases hD : x = tokD
      · have HQ := Lib.hid (any_no (L := leafS) (k := k) hx hxl (by rw [hD]; exact leafS_D))
        generalize anyP leafS (k + 1) T i = o at HQ ⊢
        subst hD
        unfold tokD at HCX
        clear hno hx hxl hT hc HTK
        go_enter Tryd.func48, Tryd.ntmps48
        go_upto_region 1 with (fail)
        generalize hw0 : w.alloc (.cells #[.int .i64 0, .int .i64 0, .string ⟨#[]⟩, .slice none 0 0] 43) = w0 at HR HW HCX ⊢
        clear hw0
        have hc := HCX.out
        have HRE := Lib.hid HR.out.now
        obtain ⟨r0, r1, r2, r3, rf⟩ := box_cells HR.out.now
        go_wp2
        refine bodyPost_fourT (p := 4) (q := 5) (r := 6) (b := w.heap.size) rfl rfl rfl rfl rfl Tryd.underlying43 rfl (by kernel_rfl) HRE.out fun w' hw => ?_
        exact ⟨.inr ⟨HQ.out, 0, rfl⟩, HW.out.trans (hw.below (fun k hk => by omega) HW.out.size)⟩
      · have HAT := Lib.hid (fun W => specAtom_any x W hxs)
        have HLF := Lib.hid (fun (t : Tm) (h : leafS x = some t) => any_leaf (L := leafS) (k := k) hx hxl h)
        have HLN := Lib.hid (fun (h : leafS x = none) => any_no (L := leafS) (k := k) hx hxl h)
        have HLA := Lib.hid (fun (t : Tm) (h : leafS x = some t) => leafS_args h)
        generalize anyP leafS (k + 1) T i = o at HLF HLN ⊢
        have d1 := string_eq_no hR
        have d2 := string_eq_no hD
        have d3 := string_eq_no hxl
        unfold tokR at d1
        unfold tokD at d2
        unfold tokL at d3
        have e1 : (x.toList == [41]) = false := by have h := d1; rw [one_list] at h; exact h
        have e2 : (x.toList == [46]) = false := by have h := d2; rw [one_list] at h; exact h
        have e3 : (x.toList == [40]) = false := by have h := d3; rw [one_list] at h; exact h
        have e4 : (x.toList != (⟨#[40]⟩ : ByteArray).toList) = true := by simp only [bne, d3]; rfl
        have e5 : (x.toList != [40]) = true := by simp only [bne, e3]; rfl
        clear hno hx hxl hT hc HTK hR hD
        go_enter Tryd.func48, Tryd.ntmps48
        go_upto_region 1 with (fail)
        generalize hw0 : w.alloc (.cells #[.int .i64 0, .int .i64 0, .string ⟨#[]⟩, .slice none 0 0] 43) = w0 at HR HW HCX ⊢
        clear hw0
        have hc := HCX.out
        go_wp2_with fail
        refine (HAT.out w0).mono ?_
        rintro e w2 ⟨⟨t, hl, rfl⟩ | ⟨hl, rfl⟩, hb⟩
        · have HQ := Lib.hid (HLF.out t hl)
          have HAR := Lib.hid (HLA.out t hl)
          have hal : Below w2.heap.size w2 (w2.alloc (.cells #[.int .i64 t.kind, .int .i64 t.num, .string t.name, .slice none 0 0] 43)) := belowAlloc (Below.refl _ _) _
          have HRE := Lib.hid ((HR.out.read hb).read hal).now
          have HW2 := Lib.hid (belowOn (belowOn HW.out (Nat.le_refl _) hb) (Nat.le_refl _) hal)
          obtain ⟨r0, r1, r2, r3, rf⟩ := box_cells HRE.out
          clear hl hb hal HLF HLN HLA HAT hc HCX d1 d2 d3 e1 e2 e3 e4 e5
          go_wp2
          refine bodyPost_fourT (p := 4) (q := 5) (r := 6) (b := w.heap.size) rfl rfl rfl rfl rfl Tryd.underlying43 rfl (by kernel_rfl) HRE.out fun w' hw => ?_
          exact ⟨.inl ⟨t, i + 1, none, 0, HQ.out, by rw [HAR.out]; rfl, by rw [HAR.out]; exact .nil _ _⟩, HW2.out.trans (hw.below (fun k hk => by omega) HW2.out.size)⟩
        · have HQ := Lib.hid (HLN.out hl)
          have hal : Below w2.heap.size w2 (w2.alloc (.cells #[.int .i64 0, .int .i64 0, .string ⟨#[]⟩, .slice none 0 0] 43)) := belowAlloc (Below.refl _ _) _
          have HRE := Lib.hid ((HR.out.read hb).read hal).now
          have HW2 := Lib.hid (belowOn (belowOn HW.out (Nat.le_refl _) hb) (Nat.le_refl _) hal)
          obtain ⟨r0, r1, r2, r3, rf⟩ := box_cells HRE.out
          clear hl hb hal HLF HLN HLA HAT hc HCX d1 d2 d3 e1 e2 e3 e4 e5
          go_wp2
          refine bodyPost_fourT (p := 4) (q := 5) (r := 6) (b := w.heap.size) rfl rfl rfl rfl rfl Tryd.underlying43 rfl (by kernel_rfl) HRE.out fun w' hw => ?_
          exact ⟨.inr ⟨HQ.out, _, rfl⟩, HW2.out.trans (hw.below (fun k hk => by omega) HW2.out.size)⟩
  · have HQ := Lib.hid (any_end (L := leafS) (k := k) (T := T) (i := i) (List.getElem?_eq_none (by omega)))
    generalize anyP leafS (k + 1) T i = o at HQ ⊢
    have hge : decide ((T.length : Int) ≤ (i : Int)) = true := decide_eq_true (by omega)
    clear hno hT HTK
    go_enter Tryd.func48, Tryd.ntmps48
    go_upto_region 1 with (fail)
    generalize hw0 : w.alloc (.cells #[.int .i64 0, .int .i64 0, .string ⟨#[]⟩, .slice none 0 0] 43) = w0 at HR HW ⊢
    clear hw0
    have HRE := Lib.hid HR.out.now
    obtain ⟨r0, r1, r2, r3, rf⟩ := box_cells HR.out.now
    go_wp2
    refine bodyPost_fourT (p := 4) (q := 5) (r := 6) (b := w.heap.size) rfl rfl rfl rfl rfl Tryd.underlying43 rfl (by kernel_rfl) HRE.out fun w' hw => ?_
    exact ⟨.inr ⟨HQ.out, 0, rfl⟩, HW.out.trans (hw.below (fun k hk => by omega) HW.out.size)⟩
end Go.Proofs.YtnbnepeikdieaaaDoor

namespace Go.Proofs.YtnbnepeikdieaaaDoor
open Go.RowKit
set_option linter.unusedVariables false
set_option linter.unusedSimpArgs false

theorem listT_snoc (xs : List Tm) (x y : Tm) : listT (xs ++ [x]) y = listT xs (pairT x y) := by
  induction xs with
  | nil => rfl
  | cons a l ih => rw [List.cons_append, listT_cons, ih, listT_cons]
theorem read_le (L : ByteArray → Option Tm) (T : List ByteArray) (k : Nat) : (∀ i t j, anyP L k T i = some (t, j) → j ≤ T.length) ∧ (∀ i t j, elemP L k T i = some (t, j) → j ≤ T.length) ∧ (∀ i t j, restP L k T i = some (t, j) → j ≤ T.length) := by
  induction k with
  | zero => exact ⟨fun i t j h => (by rw [anyP] at h; cases h), fun i t j h => (by rw [elemP] at h; cases h), fun i t j h => (by rw [restP] at h; cases h)⟩
  | succ k ih =>
    obtain ⟨ia, ie, ir⟩ := ih
    refine ⟨fun i t j h => ?_, fun i t j h => ?_, fun i t j h => ?_⟩
    · rw [anyP] at h
      split at h
      · split at h
        · rename_i h2
          have := at_lt h2
          cases h; omega
        · exact ie _ _ _ h
      · split at h
        · cases h
        · rename_i x h1
          have := at_lt h1
          split at h
          · cases h
          · cases h; omega
    · rw [elemP] at h
      split at h
      · cases h
      · rename_i x j1 h1
        split at h
        · cases h
        · rename_i y j2 h2
          cases h
          exact ir _ _ _ h2
    · rw [restP] at h
      split at h
      · rename_i h1
        have := at_lt h1
        cases h; omega
      · split at h
        · split at h
          · cases h
          · rename_i y j1 h1
            split at h
            · rename_i h2
              have := at_lt h2
              cases h; omega
            · cases h
        · exact ie _ _ _ h

/-- What is left to be read of a list. -/
def Left (L : ByteArray → Option Tm) (T : List ByteArray) (o : Option (Tm × Nat)) (xs : List Tm) (i : Nat) : Prop :=
  (xs = [] ∧ ∃ k, 3 * (T.length - i) + 3 ≤ k ∧ o = if T[i]? = some tokR then some (zeroTm, i + 1) else elemP L k T i) ∨
  (xs ≠ [] ∧ ∃ k, 3 * (T.length - i) + 3 ≤ k ∧ o = (restP L k T i).map fun p => (listT xs p.1, p.2))
theorem left_start {L : ByteArray → Option Tm} {T : List ByteArray} {i k : Nat} (h : T[i]? = some tokL) (hk : 3 * (T.length - i) + 1 ≤ k + 1) : Left L T (anyP L (k + 1) T i) [] (i + 1) := by
  have hlt := at_lt h
  refine .inl ⟨rfl, k, by omega, ?_⟩
  by_cases h2 : T[i + 1]? = some tokR
  · rw [any_open h h2, if_pos h2]
  · rw [any_elem h h2, if_neg h2]
theorem left_step {L : ByteArray → Option Tm} {T : List ByteArray} {o : Option (Tm × Nat)} {xs : List Tm} {i : Nat} (h : Left L T o xs i) (hR : ¬ T[i]? = some tokR) (hD : ¬ T[i]? = some tokD) (hlt : i < T.length) (hgt : ∀ k t j, anyP L k T i = some (t, j) → i < j) :
    ∃ k, 3 * (T.length - i) + 1 ≤ k ∧ (anyP L k T i = none → o = none) ∧ ∀ x j, anyP L k T i = some (x, j) → Left L T o (xs ++ [x]) j := by
  rcases h with ⟨rfl, k, hk, ho⟩ | ⟨hne, k, hk, ho⟩
  · rw [if_neg hR] at ho
    obtain ⟨k, rfl⟩ : ∃ k', k = k' + 1 := ⟨k - 1, by omega⟩
    refine ⟨k, by omega, fun h => by rw [ho, elem_no1 h], fun x j h => .inr ⟨by simp, k, by have := hgt _ _ _ h; omega, ?_⟩⟩
    rw [ho, elemP, h]
    cases hr : restP L k T j with
    | none => simp only [hr]; rfl
    | some p => simp only [hr]; rfl
  · obtain ⟨k, rfl⟩ : ∃ k', k = k' + 2 := ⟨k - 2, by omega⟩
    rw [rest_elem hR hD] at ho
    refine ⟨k, by omega, fun h => by rw [ho, elem_no1 h]; rfl, fun x j h => .inr ⟨by simp, k, by have := hgt _ _ _ h; omega, ?_⟩⟩
    rw [ho, elemP, h]
    cases hr : restP L k T j with
    | none => simp only [hr]; rfl
    | some p => simp only [hr, Option.map_some, listT_snoc]
theorem left_end {L : ByteArray → Option Tm} {T : List ByteArray} {o : Option (Tm × Nat)} {xs : List Tm} {i : Nat} (h : Left L T o xs i) (he : T[i]? = none) : o = none := by
  have hR : ¬ T[i]? = some tokR := by rw [he]; simp
  have hD : ¬ T[i]? = some tokD := by rw [he]; simp
  rcases h with ⟨rfl, k, hk, ho⟩ | ⟨hne, k, hk, ho⟩
  · rw [if_neg hR] at ho
    obtain ⟨k, rfl⟩ : ∃ k', k = k' + 2 := ⟨k - 2, by omega⟩
    rw [ho, elem_no1 (any_end he)]
  · obtain ⟨k, rfl⟩ : ∃ k', k = k' + 3 := ⟨k - 3, by omega⟩
    rw [ho, rest_elem hR hD, elem_no1 (any_end he)]; rfl
theorem left_close {L : ByteArray → Option Tm} {T : List ByteArray} {o : Option (Tm × Nat)} {xs : List Tm} {i : Nat} (h : Left L T o xs i) (he : T[i]? = some tokR) : o = some (listT xs zeroTm, i + 1) := by
  rcases h with ⟨rfl, k, hk, ho⟩ | ⟨hne, k, hk, ho⟩
  · rw [ho, if_pos he]; rfl
  · obtain ⟨k, rfl⟩ : ∃ k', k = k' + 1 := ⟨k - 1, by omega⟩
    rw [ho, rest_close he]; rfl
theorem left_dot0 {L : ByteArray → Option Tm} {T : List ByteArray} {o : Option (Tm × Nat)} {i : Nat} (h : Left L T o [] i) (he : T[i]? = some tokD) (hL : L tokD = none) : o = none := by
  rcases h with ⟨_, k, hk, ho⟩ | ⟨hne, k, hk, ho⟩
  · rw [if_neg (by rw [he]; decide)] at ho
    obtain ⟨k, rfl⟩ : ∃ k', k = k' + 2 := ⟨k - 2, by omega⟩
    rw [ho, elem_no1 (any_no he (by decide) hL)]
  · exact absurd rfl hne
theorem left_dot {L : ByteArray → Option Tm} {T : List ByteArray} {o : Option (Tm × Nat)} {xs : List Tm} {i : Nat} (h : Left L T o xs i) (hne : xs ≠ []) (he : T[i]? = some tokD) :
    ∃ k, 3 * (T.length - (i + 1)) + 1 ≤ k ∧ (anyP L k T (i + 1) = none → o = none) ∧ ∀ y j, anyP L k T (i + 1) = some (y, j) → (T[j]? = some tokR → o = some (listT xs y, j + 1)) ∧ (¬ T[j]? = some tokR → o = none) := by
  have hlt := at_lt he
  rcases h with ⟨h0, _⟩ | ⟨_, k, hk, ho⟩
  · exact absurd h0 hne
  · obtain ⟨k, rfl⟩ : ∃ k', k = k' + 1 := ⟨k - 1, by omega⟩
    refine ⟨k, by omega, fun h => by rw [ho, rest_no1 he h]; rfl, fun y j h => ⟨fun h2 => by rw [ho, rest_yes he h h2]; rfl, fun h2 => by rw [ho, rest_no2 he h h2]; rfl⟩⟩
end Go.Proofs.YtnbnepeikdieaaaDoor

namespace Go.Proofs.YtnbnepeikdieaaaDoor
open Go.RowKit
set_option linter.unusedVariables false
set_option linter.unusedSimpArgs false

def offC (C : Nat → Prop) (B : Nat) (k : Nat) : Prop := C k ∨ B + 1 + 1 ≤ k
theorem offC_out {C : Nat → Prop} {B k : Nat} (h : offC C B k) (hC : ∀ k, C k → k < B) : k < B ∨ B + 1 + 1 ≤ k := h.imp (hC k) id
theorem ArgsS.lt {w : World} {S : Nat → Prop} {v : Value} {l : List Tm} (h : ArgsS w S v l) : ArgsS w (fun k => S k ∧ k < w.heap.size) v l := by
  induction h with
  | nil a cap => exact .nil a cap
  | row g off n cap V l hn hs hg hc hr ih => exact .row g off n cap V l hn ⟨hs, hg⟩ hg hc ih
set_option maxRecDepth 100000 in
set_option maxHeartbeats 4000000 in
theorem specListS_any (C : Nat → Prop) (l : List Tm) (t : Tm) (V Vt : Value) (w : World) (hCl : ∀ k, C k → k < w.heap.size) (hA : ArgsS w C V l) (hT : ArgsS w C Vt t.args) (hL : l.length ≤ 1048576) :
    Calls Tryd.prog 67 #[V, .agg #[.int .i64 t.kind, .int .i64 t.num, .string t.name, Vt]] w (OldS C (listT l t) w) := by
  obtain ⟨a, cap, rfl⟩ := hA.at.slice
  obtain ⟨ta, tc, rfl⟩ := hT.at.slice
  have HCL := Lib.hid hCl
  have HA := Lib.hid hA
  have HT := Lib.hid hT
  clear hA hT hCl
  have HX := Lib.hid ((at_box w #[.int .i64 t.kind, .int .i64 t.num, .string t.name, .slice ta t.args.length tc] 43).read (belowAlloc (Below.refl _ _) (.cells #[.int .i64 0, .int .i64 0, .string ⟨#[]⟩, .slice none 0 0] 43)))
  have HR := Lib.hid (at_box_of (w.alloc (.cells #[.int .i64 t.kind, .int .i64 t.num, .string t.name, .slice ta t.args.length tc] 43)) #[.int .i64 0, .int .i64 0, .string ⟨#[]⟩, .slice none 0 0] 43 (w.heap.size + 1) (by simp))
  have HW : Hid (Below w.heap.size w ((w.alloc (.cells #[.int .i64 t.kind, .int .i64 t.num, .string t.name, .slice ta t.args.length tc] 43)).alloc (.cells #[.int .i64 0, .int .i64 0, .string ⟨#[]⟩, .slice none 0 0] 43))) := Lib.hid (belowAlloc (belowAlloc (Below.refl _ _) _) _)
  have HSZ : Hid (w.heap.size + 1 + 1 ≤ ((w.alloc (.cells #[.int .i64 t.kind, .int .i64 t.num, .string t.name, .slice ta t.args.length tc] 43)).alloc (.cells #[.int .i64 0, .int .i64 0, .string ⟨#[]⟩, .slice none 0 0] 43)).heap.size) := Lib.hid (by simp)
  go_enter Tryd.func67, Tryd.ntmps67
  go_upto_region 1 with (fail)
  generalize hw0 : (w.alloc (.cells #[.int .i64 t.kind, .int .i64 t.num, .string t.name, .slice ta t.args.length tc] 43)).alloc (.cells #[.int .i64 0, .int .i64 0, .string ⟨#[]⟩, .slice none 0 0] 43) = w0 at HX HR HW HSZ ⊢
  clear hw0
  go_wp2
  go_loopw [5] (fun i wr => ∃ (k : Nat) (c : Tm) (ad : Option Addr) (cp : Nat), k ≤ l.length ∧ i = .int .i64 ((k : Int) - 1) ∧ Hid (c = listT (l.drop k) t) ∧ Hid (ArgsS wr (offC C w.heap.size) (.slice ad c.args.length cp) c.args) ∧
      Hid (At wr w.heap.size (w.heap.size + 1) (BoxP w.heap.size #[.int .i64 c.kind, .int .i64 c.num, .string c.name, .slice ad c.args.length cp] 43)) ∧ Hid (At wr (w.heap.size + 1) (w.heap.size + 1 + 1) (BoxP (w.heap.size + 1) #[.int .i64 0, .int .i64 0, .string ⟨#[]⟩, .slice none 0 0] 43)) ∧
      Hid (Below w.heap.size w wr) ∧ w.heap.size + 1 + 1 ≤ wr.heap.size)
    (fun i _ => (intOf i + 1).toNat)
  case atStart => exact ⟨l.length, t, ta, tc, Nat.le_refl _, rfl, Lib.hid (by rw [List.drop_length]; rfl), Lib.hid ((HT.out.frame HW.out.size fun k hk _ => HW.out.block k (HCL.out k hk)).sub fun k hk => .inl hk), HX, HR, HW, HSZ.out⟩
  case round =>
    obtain ⟨k, c, ad, cp, hk, rfl, HC, HCA, HXr, HRr, HWr, hsz⟩ := hrel
    clear HX HR HW HSZ HT
    cases k with
    | zero =>
      have HRE := Lib.hid HRr.out.now
      obtain ⟨c0a, c0b, c0c, c0d⟩ := HXr.out.cells
      obtain ⟨r0, r1, r2, r3, rf⟩ := box_cells HRr.out.now
      have z0 := HXr.out.le
      have z1 := HRr.out.le
      go_wp2
      refine bodyPost_four (e := 43) (b := w.heap.size + 1) rfl rfl rfl Tryd.underlying43 rfl (by kernel_rfl) HRE.out ?_
      intro w' hw
      have hc : c = listT l t := HC.out
      rw [← hc]
      exact ⟨_, rfl, (HCA.out.frame hw.size fun j hj hjs => hw.block j hjs (fun e => by have := offC_out hj HCL.out; omega)).lt.sub fun j hj => hj.1.imp id fun h => ⟨by omega, hj.2⟩, HWr.out.trans (hw.below (fun j hj => by omega) HWr.out.size)⟩
    | succ j =>
      rw [show (((j + 1 : Nat) : Int) - 1) = (j : Int) by omega]
      obtain ⟨x, hx⟩ : ∃ x, l[j]? = some x := ⟨_, List.getElem?_eq_getElem (by omega)⟩
      have hd : l.drop j = x :: l.drop (j + 1) := by
        rw [List.drop_eq_getElem_cons (by omega)]
        congr 1
        exact Option.some.inj ((List.getElem?_eq_getElem (by omega)).symm.trans hx)
      have HN : Hid (Tm.mk 4 0 ⟨#[]⟩ [x, c] = listT (l.drop j) t) := Lib.hid (by rw [hd, listT_cons, ← HC.out])
      obtain ⟨g, off, u1, u2, rfl, hg, hq, hc, hch⟩ := HA.out.elem hx
      have HCH := Lib.hid hch
      have HCE : Hid (∀ W, Below wr.heap.size wr W → (W.cell? ⟨g, off + j * 4, none⟩ = some (.int .i64 x.kind) ∧ W.cell? ⟨g, off + j * 4 + 1, none⟩ = some (.int .i64 x.num) ∧ W.cell? ⟨g, off + j * 4 + 2, none⟩ = some (.string x.name) ∧ W.cell? ⟨g, off + j * 4 + 3, none⟩ = some (.slice u1 x.args.length u2)) ∧
          W.heap[w.heap.size]? = some (.cells #[.int .i64 c.kind, .int .i64 c.num, .string c.name, .slice ad c.args.length cp] 43)) := Lib.hid fun W hW => ⟨hc W (belowOn HWr.out (Nat.le_refl _) hW), (HXr.out.read hW).now⟩
      have hgw : g < wr.heap.size := by omega
      have hjl : j < l.length := by omega
      have HP := Lib.hid (fun W => specPair_any x.kind x.num x.name u1 x.args.length u2 c.kind c.num c.name ad c.args.length cp W)
      clear hx hd hq hc hch HA
      have hself : Below wr.heap.size wr wr := Below.refl _ _
      have hdrew : Below wr.heap.size wr wr.drew := hself.drew
      obtain ⟨⟨x0, x1, x2, x3⟩, hb0⟩ := HCE.out _ hself
      obtain ⟨⟨y0, y1, y2, y3⟩, hb1⟩ := HCE.out _ hdrew
      obtain ⟨b0, b1, b2, b3, bf⟩ := box_cells hb0
      obtain ⟨d0, d1, d2, d3, df⟩ := box_cells hb1
      have n1 : ¬ g = w.heap.size := by omega
      have n2 : ¬ w.heap.size = g := by omega
      clear hb0 hb1
      go_wp2_with fail
      go_region_law (go_simp; go_at_call 79; (with_reducible refine Calls.mono (HP.out _) ?_); rintro e wB ⟨gg, rfl, hg1, hg2, hgB, hbB⟩; have hbW : Below wr.heap.size wr wB := (by first | exact belowOn hself (Nat.le_refl _) hbB | exact belowOn hdrew (Nat.le_refl _) hbB); obtain ⟨_, hxB⟩ := HCE.out _ hbW; obtain ⟨p0, p1, p2, p3, pf⟩ := box_cells hxB; have zB : w.heap.size < wB.heap.size := World.block_lt_of_cell? wB _ p0; have HXB := Lib.hid hxB; have HGB := Lib.hid hgB; have HBW := Lib.hid hbW; clear hxB hgB hbB)
      all_goals
        go_wp2
        go_roundw
        case rel =>
          have hs1 := HBW.out.size
          have hgg : wr.heap.size ≤ gg := by first | exact hg1 | (simpa using hg1)
          have hst := store4 HXB.out (.int .i64 4) (.int .i64 0) (.string ⟨#[]⟩) (.slice (some ⟨gg, 0, none⟩) 2 2)
          have ho := hst.2
          have hso := ho.size
          have hpair : ArgsS wB (offC C w.heap.size) (.slice (some ⟨gg, 0, none⟩) 2 2) [x, c] := argsS_pair HGB.out hg2 (.inr (by omega)) (((HCH.out.frame HWr.out.size fun k hk _ => HWr.out.block k (HCL.out k hk)).kept HBW.out).sub fun k hk => .inl hk) (HCA.out.kept HBW.out)
          exact ⟨j, .mk 4 0 ⟨#[]⟩ [x, c], some ⟨gg, 0, none⟩, 2, by omega, by go_num, HN, Lib.hid (hpair.frame hso fun k hk hks => ho.block k hks (fun e => by have e1 := e.1; have e2 := e.2; have := offC_out hk HCL.out; omega)), Lib.hid ⟨hst.1, stays_box _ _ _, by omega⟩, Lib.hid ((HRr.out.read HBW.out).only ho (by omega)), Lib.hid ((belowOn HWr.out (Nat.le_refl _) HBW.out).trans (ho.below (fun k hk => by have := hk.1; omega) (by have := HWr.out.size; omega))), by omega⟩
        case measure => simp [intOf] <;> omega
theorem specList_any (l : List Tm) (t : Tm) (V Vt : Value) (w : World) (hA : ArgsAt w V l) (hT : ArgsAt w Vt t.args) (hL : l.length ≤ 1048576) :
    Calls Tryd.prog 67 #[V, .agg #[.int .i64 t.kind, .int .i64 t.num, .string t.name, Vt]] w (OldTm (listT l t) w) :=
  (specListS_any (fun k => k < w.heap.size) l t V Vt w (fun _ h => h) hA.inS hT.inS hL).mono fun _ _ h => h.old
end Go.Proofs.YtnbnepeikdieaaaDoor

namespace Go.Proofs.YtnbnepeikdieaaaDoor
open Go.RowKit
set_option linter.unusedVariables false
set_option linter.unusedSimpArgs false

theorem tests_no {x : ByteArray} {c : UInt8} (h : ¬ x = ⟨#[c]⟩) : (x.toList == (⟨#[c]⟩ : ByteArray).toList) = false ∧ (x.toList == [c]) = false ∧ (x.toList != (⟨#[c]⟩ : ByteArray).toList) = true ∧ (x.toList != [c]) = true := by
  have d := string_eq_no h
  have e : (x.toList == [c]) = false := by rw [one_list] at d; exact d
  exact ⟨d, e, by simp only [bne, d]; rfl, by simp only [bne, e]; rfl⟩
theorem sread_yes {P : Program} {fn : Func} {o : Option (Tm × Nat)} {w W : World} {a : Act} {t : Tm} {j : Nat} {x : Option Addr} {c b m : Nat} {x0 x1 x2 x3 : Value} {fs : Array Field} {C : Nat → Prop} {k i jj : Int} {s : ByteArray}
    (heq : o = some (t, j)) (h1 : t.kind = k) (h2 : t.num = i) (h3 : t.name = s) (h4 : t.args.length = m) (hj : (j : Int) = jj) (h : fn.results = #[.cell 4 43, .tmp 5, .tmp 6]) (hp : a.tmps.getD 4 undef = .pointer (some ⟨b, 0, none⟩)) (hq : a.tmps.getD 5 undef = .int .i64 jj) (hr : a.tmps.getD 6 undef = .bool true) (hd : a.defers = [])
    (hu : P.underlying 43 = some (.struct fs)) (hi : (P.info? 43).map (·.size) = some 4) (hb : W.heap[b]? = some (Obj.cells #[x0, x1, x2, x3] 43)) (hB : b = w.heap.size) (hW : Below w.heap.size w W) (hA : ArgsS W C (.slice x m c) t.args) (hC : ∀ k, C k → w.heap.size < k ∧ k < W.heap.size) :
    bodyPost P fn (SRead o w) .ret a ((((W.setCell ⟨b, 0, none⟩ (.int .i64 k)).setCell ⟨b, 1, none⟩ (.int .i64 i)).setCell ⟨b, 2, none⟩ (.string s)).setCell ⟨b, 3, none⟩ (.slice x m c)) := by
  subst heq
  subst h1
  subst h2
  subst h3
  subst h4
  subst hj
  refine bodyPost_fourT h hp hq hr hd hu rfl hi hb fun w' hw => ?_
  refine ⟨.inl ⟨t, j, x, c, rfl, rfl, (hA.frame hw.size fun k hk hks => hw.block k hks fun e => by have := hC k hk; omega).sub fun k hk => ⟨by have := hC k hk; omega, by have := hC k hk; have := hw.size; omega⟩⟩, hW.trans (hw.below (fun k hk => by omega) hW.size)⟩
theorem sread_no {P : Program} {fn : Func} {o : Option (Tm × Nat)} {w W : World} {a : Act} {b : Nat} {x0 x1 x2 x3 : Value} {fs : Array Field} {jj : Int}
    (heq : o = none) (h : fn.results = #[.cell 4 43, .tmp 5, .tmp 6]) (hp : a.tmps.getD 4 undef = .pointer (some ⟨b, 0, none⟩)) (hq : a.tmps.getD 5 undef = .int .i64 jj) (hr : a.tmps.getD 6 undef = .bool false) (hd : a.defers = [])
    (hu : P.underlying 43 = some (.struct fs)) (hi : (P.info? 43).map (·.size) = some 4) (hb : W.heap[b]? = some (Obj.cells #[x0, x1, x2, x3] 43)) (hB : b = w.heap.size) (hW : Below w.heap.size w W) :
    bodyPost P fn (SRead o w) .ret a ((((W.setCell ⟨b, 0, none⟩ (.int .i64 0)).setCell ⟨b, 1, none⟩ (.int .i64 0)).setCell ⟨b, 2, none⟩ (.string ⟨#[]⟩)).setCell ⟨b, 3, none⟩ (.slice none 0 0)) := by
  subst heq
  refine bodyPost_fourT h hp hq hr hd hu rfl hi hb fun w' hw => ?_
  exact ⟨.inr ⟨rfl, jj, rfl⟩, hW.trans (hw.below (fun k hk => by omega) hW.size)⟩

set_option maxHeartbeats 8000000 in
set_option maxRecDepth 100000 in
theorem specRead_list (sa : Option Addr) (cap : Nat) (T : List ByteArray) (hT : ∀ x ∈ T, x.size ≤ 1048576) (hTl : T.length ≤ 1048576) (n : Nat)
    (IH : Hid (∀ (k i : Nat) (w : World), T.length - i < n → i ≤ T.length → Toks w sa T → 3 * (T.length - i) + 1 ≤ k → Calls Tryd.prog 48 #[.slice sa T.length cap, .int .i64 i] w (SRead (anyP leafS k T i) w)))
    (k i : Nat) (w : World) (ht : Toks w sa T) (hn : T.length - i ≤ n) (hk : 3 * (T.length - i) + 1 ≤ k + 1) (hL : T[i]? = some tokL) :
    Calls Tryd.prog 48 #[.slice sa T.length cap, .int .i64 i] w (SRead (anyP leafS (k + 1) T i) w) := by
  obtain ⟨i0, hi0, hz0, hz1, hz2⟩ := info_parts infoTerm
  have HII := Lib.hid (And.intro hi0 (And.intro hz0 (And.intro hz1 hz2)))
  clear hi0 hz0 hz1 hz2
  have hal : Below w.heap.size w (w.alloc (.cells #[.int .i64 0, .int .i64 0, .string ⟨#[]⟩, .slice none 0 0] 43)) := belowAlloc (Below.refl _ _) _
  have HR := Lib.hid (at_box w #[.int .i64 0, .int .i64 0, .string ⟨#[]⟩, .slice none 0 0] 43)
  have HW := Lib.hid hal
  have HTK := Lib.hid (ht.kept hal)
  have HLF := Lib.hid (left_start (L := leafS) hL hk)
  have hsz : (w.alloc (.cells #[.int .i64 0, .int .i64 0, .string ⟨#[]⟩, .slice none 0 0] 43)).heap.size = w.heap.size + 1 := by simp
  have hlt := at_lt hL
  obtain ⟨g, off, rfl, hc⟩ := ht.at hL
  unfold tokL at hc
  have hc0 := (hal.cell (p := ⟨g, off + i, none⟩) (World.block_lt_of_cell? w _ hc)).trans hc
  have HC0 := Lib.hid hc0
  generalize anyP leafS (k + 1) T i = o at HLF ⊢
  have HT0 := Lib.hid ht
  have hge : decide ((T.length : Int) ≤ (i : Int)) = false := decide_eq_false (by omega)
  have hgn : decide (T.length ≤ i) = false := decide_eq_false (by omega)
  have hi1 : (i : Int) < (T.length : Int) := by omega
  clear hal ht hL hc hc0 hk
  go_enter Tryd.func48, Tryd.ntmps48
  go_upto_region 1 with (fail)
  generalize hw0 : w.alloc (.cells #[.int .i64 0, .int .i64 0, .string ⟨#[]⟩, .slice none 0 0] 43) = w0 at HR HW HTK HC0 hsz ⊢
  clear hw0
  have hc := HC0.out
  go_upto_region 8 with (fail)
  have hal : Below w0.heap.size w0 (w0.alloc (.cells #[] 43)) := belowAlloc (Below.refl _ _) _
  have HE0 := Lib.hid (at_box w0 #[] 43)
  have hrw : RowS (w0.alloc (.cells #[] 43)) (w.heap.size + 1) (.slice (some ⟨w0.heap.size, 0, none⟩) 0 0) [] := ⟨[], rfl, ⟨rfl, .inr ⟨w0.heap.size, 0, #[], rfl, by omega, HE0.out.now, Nat.le_refl _, Nat.zero_le _, rfl, rfl⟩⟩, fun j p hj => by simp at hj⟩
  rw [hsz] at hrw
  have HRW := Lib.hid hrw
  replace HR := Lib.hid (HR.out.read hal)
  replace HW := Lib.hid (belowOn HW.out (Nat.le_refl _) hal)
  clear hal HE0 hc HC0 HTK hge hi1 hsz hrw
  generalize hw1 : w0.alloc (.cells #[] 43) = w1 at HR HW HRW ⊢
  clear hw1
  go_loopg [1, 9] (T.length + 1) (fun gh iv lv wr => ∃ (xs : List Tm) (i : Nat), T.length - i ≤ gh ∧ iv = .int .i64 i ∧ i ≤ T.length ∧ T.length - i < n ∧ xs.length ≤ i ∧ Hid (Left leafS T o xs i) ∧ Hid (RowS wr (w.heap.size + 1) lv xs) ∧ Hid (At wr w.heap.size (w.heap.size + 1) (BoxP w.heap.size #[.int .i64 0, .int .i64 0, .string ⟨#[]⟩, .slice none 0 0] 43)) ∧ Hid (Below w.heap.size w wr))
  case atStart => exact ⟨[], i + 1, by omega, by go_num, by omega, by omega, Nat.zero_le _, HLF, HRW, HR, HW⟩
  case round =>
    obtain ⟨xs, m, hgh, rfl, hm, hmn, hxm, HF, HO, HB, HWr⟩ := hrel
    obtain ⟨sa, sc, rfl⟩ := HO.out.slice
    clear HLF HRW HR HW
    have HTK := Lib.hid (HT0.out.kept HWr.out)
    by_cases he : m < T.length
    · obtain ⟨x, hx⟩ : ∃ x, T[m]? = some x := ⟨_, List.getElem?_eq_getElem he⟩
      obtain ⟨g', off', hg', hcx⟩ := HTK.out.at hx
      simp only [Option.some.injEq, Addr.mk.injEq, and_true] at hg'
      obtain ⟨rfl, rfl⟩ := hg'
      have hge : decide ((T.length : Int) ≤ (m : Int)) = false := decide_eq_false (by omega)
      have hi1 : (m : Int) < (T.length : Int) := by omega
      have hgw := World.block_lt_of_cell? wr _ hcx
      by_cases hR : x = tokR
      · subst hR
        have HQ := Lib.hid (left_close HF.out hx)
        unfold tokR at hcx
        clear hx HF
        have hal : Below wr.heap.size wr (wr.alloc (.cells #[.int .i64 0, .int .i64 0, .string ⟨#[]⟩, .slice none 0 0] 43)) := belowAlloc (Below.refl _ _) _
        have HX := Lib.hid (at_box wr #[.int .i64 0, .int .i64 0, .string ⟨#[]⟩, .slice none 0 0] 43)
        have HLOW : Hid (w.heap.size < (wr.alloc (.cells #[.int .i64 0, .int .i64 0, .string ⟨#[]⟩, .slice none 0 0] 43)).heap.size) := Lib.hid (by have := HB.out.le; simp; omega)
        replace HB := Lib.hid (HB.out.read hal)
        have HCX := Lib.hid ((hal.cell (p := ⟨g, off + m, none⟩) hgw).trans hcx)
        replace HWr := Lib.hid (belowOn HWr.out (Nat.le_refl _) hal)
        have HRS := Lib.hid ((HO.out.args.sub (S' := iv (w.heap.size + 1) (wr.alloc (.cells #[.int .i64 0, .int .i64 0, .string ⟨#[]⟩, .slice none 0 0] 43)).heap.size) fun k hk => ⟨hk.1, by have := hk.2; simp; omega⟩).kept hal)
        have HTL : Hid (ArgsS (wr.alloc (.cells #[.int .i64 0, .int .i64 0, .string ⟨#[]⟩, .slice none 0 0] 43)) (iv (w.heap.size + 1) (wr.alloc (.cells #[.int .i64 0, .int .i64 0, .string ⟨#[]⟩, .slice none 0 0] 43)).heap.size) (.slice none 0 0) zeroTm.args) := Lib.hid (.nil _ _)
        clear hal HO HTK IH
        go_upto_region 15 with (fail)
        generalize hw2 : wr.alloc (.cells #[.int .i64 0, .int .i64 0, .string ⟨#[]⟩, .slice none 0 0] 43) = w2 at HB HX HLOW HCX HWr HRS HTL ⊢
        clear hw2 hcx hgw
        have HCL : Hid (∀ k, iv (w.heap.size + 1) w2.heap.size k → k < w2.heap.size) := Lib.hid fun k hk => hk.2
        have hcx := HCX.out
        obtain ⟨p0, p1, p2, p3⟩ := HX.out.cells
        have zx := HX.out.le
        have HLC := Lib.hid (specListS_any _ xs zeroTm _ _ w2 HCL.out HRS.out HTL.out (by omega))
        go_wp2_with fail
        refine HLC.out.mono ?_
        rintro e w9 ⟨u, rfl, hu, hbu⟩
        obtain ⟨ua, uc, rfl⟩ := hu.at.slice
        have HU := Lib.hid hu
        have hs9 := hbu.size
        replace HB := Lib.hid (HB.out.read hbu)
        have HW9 := Lib.hid (belowOn HWr.out (Nat.le_refl _) hbu)
        have hsw := HWr.out.size
        have hbl := HB.out.le
        have HCU : Hid (∀ k, ((fun k => iv (w.heap.size + 1) w2.heap.size k) k ∨ (w2.heap.size ≤ k ∧ k < w9.heap.size)) → w.heap.size < k ∧ k < w9.heap.size) := Lib.hid fun k hk => by
          rcases hk with hk | hk
          · exact ⟨by have := hk.1; omega, by have := hk.2; omega⟩
          · exact ⟨by have := HLOW.out; omega, hk.2⟩
        clear hu hbu HLC HRS HTL HCL
        generalize listT xs zeroTm = rr at HQ HU ⊢
        obtain ⟨b0, b1, b2, b3, bf⟩ := box_cells HB.out.now
        go_wp2
        exact sread_yes (b := w.heap.size) HQ.out rfl rfl rfl rfl (by simp) rfl rfl rfl rfl rfl Tryd.underlying43 (by kernel_rfl) HB.out.now rfl HW9.out HU.out HCU.out
      · by_cases hD : x = tokD
        · subst hD
          have hnR : ¬ T[m]? = some tokR := by rw [hx]; decide
          have HX := Lib.hid hx
          unfold tokD at hcx
          clear hx
          have hal : Below wr.heap.size wr (wr.alloc (.cells #[.int .i64 0, .int .i64 0, .string ⟨#[]⟩, .slice none 0 0] 43)) := belowAlloc (Below.refl _ _) _
          have HX2 := Lib.hid (at_box wr #[.int .i64 0, .int .i64 0, .string ⟨#[]⟩, .slice none 0 0] 43)
          have hs2 : (wr.alloc (.cells #[.int .i64 0, .int .i64 0, .string ⟨#[]⟩, .slice none 0 0] 43)).heap.size = wr.heap.size + 1 := by simp
          have hlow : w.heap.size + 1 ≤ wr.heap.size := HB.out.le
          replace HB := Lib.hid (HB.out.read hal)
          have HCX := Lib.hid ((hal.cell (p := ⟨g, off + m, none⟩) hgw).trans hcx)
          replace HWr := Lib.hid (belowOn HWr.out (Nat.le_refl _) hal)
          have HRS := Lib.hid ((HO.out.args.kept hal))
          replace HTK := Lib.hid (HTK.out.kept hal)
          have hrs := Lib.hid (Nat.le_refl wr.heap.size)
          clear hal HO
          go_upto_region 15 with (fail)
          generalize hw2 : wr.alloc (.cells #[.int .i64 0, .int .i64 0, .string ⟨#[]⟩, .slice none 0 0] 43) = w2 at HB HX2 HCX HWr HRS HTK hs2 ⊢
          clear hw2 hcx hgw
          have hcx := HCX.out
          by_cases hxs : xs = []
          · subst hxs
            have HQ := Lib.hid (left_dot0 HF.out HX.out leafS_D)
            have HC := Lib.hid (IH.out (3 * T.length + 1) (m + 1) w2 (by omega) (by omega) HTK.out (by omega))
            clear HF HTK IH HX
            go_wp2_with fail
            refine HC.out.mono ?_
            rintro e wC ⟨⟨y, j, ua, uc, hy, rfl, hu⟩ | ⟨hy, mm, rfl⟩, ho⟩
            · have hal : Below wC.heap.size wC (wC.alloc (.cells #[.int .i64 y.kind, .int .i64 y.num, .string y.name, .slice ua y.args.length uc] 43)) := belowAlloc (Below.refl _ _) _
              have hbb := belowOn ho (Nat.le_refl _) hal
              replace HB := Lib.hid (HB.out.read hbb)
              replace HWr := Lib.hid (belowOn HWr.out (Nat.le_refl _) hbb)
              clear ho hal hbb hy hu HC HX2 HRS hcx HCX
              go_upto_region 17 with (fail)
              generalize hw4 : wC.alloc (.cells #[.int .i64 y.kind, .int .i64 y.num, .string y.name, .slice ua y.args.length uc] 43) = w4 at HB HWr ⊢
              clear hw4
              obtain ⟨b0, b1, b2, b3, bf⟩ := box_cells HB.out.now
              go_wp2
              exact sread_no (b := w.heap.size) HQ.out rfl rfl rfl rfl rfl Tryd.underlying43 (by kernel_rfl) HB.out.now rfl HWr.out
            · have hal : Below wC.heap.size wC (wC.alloc (.cells #[.int .i64 0, .int .i64 0, .string ⟨#[]⟩, .slice none 0 0] 43)) := belowAlloc (Below.refl _ _) _
              have hbb := belowOn ho (Nat.le_refl _) hal
              replace HB := Lib.hid (HB.out.read hbb)
              replace HWr := Lib.hid (belowOn HWr.out (Nat.le_refl _) hbb)
              clear ho hal hbb hy HC HX2 HRS hcx HCX
              go_upto_region 17 with (fail)
              generalize hw4 : wC.alloc (.cells #[.int .i64 0, .int .i64 0, .string ⟨#[]⟩, .slice none 0 0] 43) = w4 at HB HWr ⊢
              clear hw4
              obtain ⟨b0, b1, b2, b3, bf⟩ := box_cells HB.out.now
              go_wp2
              exact sread_no (b := w.heap.size) HQ.out rfl rfl rfl rfl rfl Tryd.underlying43 (by kernel_rfl) HB.out.now rfl HWr.out
          · obtain ⟨k', hk', hnone, hsome⟩ := left_dot HF.out hxs HX.out
            have HNONE := Lib.hid hnone
            have HSOME := Lib.hid hsome
            have HLE := Lib.hid ((read_le leafS T k').1 (m + 1))
            have d0 : ((xs.length : Int) == 0) = false := by
              rw [beq_eq_false_iff_ne]
              have := List.length_pos_iff.2 hxs
              omega
            have HC := Lib.hid (IH.out k' (m + 1) w2 (by omega) (by omega) HTK.out hk')
            clear hnone hsome hxs HF IH HX
            go_wp2_with fail
            refine HC.out.mono ?_
            rintro e wC ⟨⟨y, j, ua, uc, hy, rfl, hu⟩ | ⟨hy, mm, rfl⟩, ho⟩
            · have HYY := Lib.hid (HSOME.out y j hy)
              have hjl := HLE.out _ _ hy
              have hal : Below wC.heap.size wC (wC.alloc (.cells #[.int .i64 y.kind, .int .i64 y.num, .string y.name, .slice ua y.args.length uc] 43)) := belowAlloc (Below.refl _ _) _
              have hsC := ho.size
              have hsD : (wC.alloc (.cells #[.int .i64 y.kind, .int .i64 y.num, .string y.name, .slice ua y.args.length uc] 43)).heap.size = wC.heap.size + 1 := by simp
              have hbb := belowOn ho (Nat.le_refl _) hal
              have HY := Lib.hid (at_box wC #[.int .i64 y.kind, .int .i64 y.num, .string y.name, .slice ua y.args.length uc] 43)
              replace HB := Lib.hid (HB.out.read hbb)
              replace HX2 := Lib.hid (HX2.out.read hbb)
              replace HWr := Lib.hid (belowOn HWr.out (Nat.le_refl _) hbb)
              replace HRS := Lib.hid (HRS.out.kept hbb)
              replace HTK := Lib.hid (HTK.out.kept hbb)
              have HTL := Lib.hid (hu.kept hal)
              clear ho hal hbb hy hu HC HNONE HSOME HLE hcx HCX
              go_upto_region 17 with (fail)
              generalize hw4 : wC.alloc (.cells #[.int .i64 y.kind, .int .i64 y.num, .string y.name, .slice ua y.args.length uc] 43) = w4 at HB HX2 HY HWr HRS HTK HTL hsD ⊢
              clear hw4
              obtain ⟨c0, c1, c2, c3⟩ := HY.out.cells
              obtain ⟨x0, x1, x2, x3, xf⟩ := box_cells HX2.out.now
              have z0 := HY.out.le
              have z1 := HX2.out.le
              go_upto_region 21 with (fail)
              have hst := store4 HX2.out.now (.int .i64 y.kind) (.int .i64 y.num) (.string y.name) (.slice ua y.args.length uc)
              have ho := hst.2
              have hso := ho.size
              replace HB := Lib.hid (HB.out.only ho (by omega))
              have HXT : Hid (At _ wr.heap.size (wr.heap.size + 1) (BoxP wr.heap.size #[.int .i64 y.kind, .int .i64 y.num, .string y.name, .slice ua y.args.length uc] 43)) := Lib.hid ⟨hst.1, stays_box _ _ _, by omega⟩
              replace HWr := Lib.hid (HWr.out.trans (ho.below (fun k hk => by have := hk.1; omega) HWr.out.size))
              replace HRS := Lib.hid (HRS.out.frame ho.size fun k hk hks => ho.block k hks fun e => by have e1 := e.1; have e2 := hk.2; omega)
              replace HTL := Lib.hid (HTL.out.frame ho.size fun k hk hks => ho.block k hks fun e => by have e1 := e.2; have e2 := hk.1; omega)
              have HTK2 := Lib.hid (HT0.out.kept HWr.out)
              clear hst ho x0 x1 x2 x3 xf c0 c1 c2 c3 z0 z1 HX2 HY HTK
              generalize hw5 : ((((w4.setCell ⟨wr.heap.size, 0, none⟩ (.int .i64 y.kind)).setCell ⟨wr.heap.size, 1, none⟩ (.int .i64 y.num)).setCell ⟨wr.heap.size, 2, none⟩ (.string y.name)).setCell ⟨wr.heap.size, 3, none⟩ (.slice ua y.args.length uc)) = w5 at HB HXT HWr HRS HTL HTK2 hso ⊢
              clear hw5
              clear hge hi1
              by_cases hje : j < T.length
              · obtain ⟨z, hz⟩ : ∃ z, T[j]? = some z := ⟨_, List.getElem?_eq_getElem hje⟩
                obtain ⟨g', off', hg', hcz⟩ := HTK2.out.at hz
                simp only [Option.some.injEq, Addr.mk.injEq, and_true] at hg'
                obtain ⟨rfl, rfl⟩ := hg'
                have hge : decide ((T.length : Int) ≤ (j : Int)) = false := decide_eq_false (by omega)
                have hi1 : (j : Int) < (T.length : Int) := by omega
                by_cases hzR : z = tokR
                · subst hzR
                  have HQ := Lib.hid (HYY.out.1 hz)
                  unfold tokR at hcz
                  have HLOW : Hid (w.heap.size < w5.heap.size) := Lib.hid (by omega)
                  replace HRS := Lib.hid (HRS.out.sub (S' := iv (w.heap.size + 1) w5.heap.size) fun k hk => ⟨hk.1, by have := hk.2; omega⟩)
                  replace HTL := Lib.hid (HTL.out.sub (S' := iv (w.heap.size + 1) w5.heap.size) fun k hk => ⟨by have := hk.1; omega, by have := hk.2; omega⟩)
                  have HCL : Hid (∀ k, iv (w.heap.size + 1) w5.heap.size k → k < w5.heap.size) := Lib.hid fun k hk => hk.2
                  obtain ⟨p0, p1, p2, p3⟩ := HXT.out.cells
                  have zx := HXT.out.le
                  clear hz HYY HTK2
                  have HLC := Lib.hid (specListS_any _ xs y _ _ w5 HCL.out HRS.out HTL.out (by omega))
                  go_wp2_with fail
                  refine HLC.out.mono ?_
                  rintro e w9 ⟨u, rfl, hu, hbu⟩
                  obtain ⟨ua, uc, rfl⟩ := hu.at.slice
                  have HU := Lib.hid hu
                  have hs9 := hbu.size
                  replace HB := Lib.hid (HB.out.read hbu)
                  have HW9 := Lib.hid (belowOn HWr.out (Nat.le_refl _) hbu)
                  have hsw := HWr.out.size
                  have hbl := HB.out.le
                  have HCU : Hid (∀ k, ((fun k => iv (w.heap.size + 1) w5.heap.size k) k ∨ (w5.heap.size ≤ k ∧ k < w9.heap.size)) → w.heap.size < k ∧ k < w9.heap.size) := Lib.hid fun k hk => by
                    rcases hk with hk | hk
                    · exact ⟨by have := hk.1; omega, by have := hk.2; omega⟩
                    · exact ⟨by have := HLOW.out; omega, hk.2⟩
                  clear hu hbu HLC HRS HTL HCL
                  generalize listT xs y = rr at HQ HU ⊢
                  obtain ⟨b0, b1, b2, b3, bf⟩ := box_cells HB.out.now
                  go_wp2
                  exact sread_yes (b := w.heap.size) HQ.out rfl rfl rfl rfl (by simp) rfl rfl rfl rfl rfl Tryd.underlying43 (by kernel_rfl) HB.out.now rfl HW9.out HU.out HCU.out
                · have HQ := Lib.hid (HYY.out.2 (by rw [hz]; intro h; exact hzR (Option.some.inj h)))
                  unfold tokR at hzR
                  obtain ⟨r1, r2, r3, r4⟩ := tests_no hzR
                  clear hz hzR HYY HTK2 HXT HRS HTL
                  obtain ⟨b0, b1, b2, b3, bf⟩ := box_cells HB.out.now
                  go_wp2
                  exact sread_no (b := w.heap.size) HQ.out rfl rfl rfl rfl rfl Tryd.underlying43 (by kernel_rfl) HB.out.now rfl HWr.out
              · have HQ := Lib.hid (HYY.out.2 (by rw [List.getElem?_eq_none (by omega)]; simp))
                have hge : decide ((T.length : Int) ≤ (j : Int)) = true := decide_eq_true (by omega)
                have hi1 : ¬ (j : Int) < (T.length : Int) := by omega
                clear HYY HTK2 HXT HRS HTL
                obtain ⟨b0, b1, b2, b3, bf⟩ := box_cells HB.out.now
                go_wp2
                exact sread_no (b := w.heap.size) HQ.out rfl rfl rfl rfl rfl Tryd.underlying43 (by kernel_rfl) HB.out.now rfl HWr.out
            · have HQ := Lib.hid (HNONE.out hy)
              have hal : Below wC.heap.size wC (wC.alloc (.cells #[.int .i64 0, .int .i64 0, .string ⟨#[]⟩, .slice none 0 0] 43)) := belowAlloc (Below.refl _ _) _
              have hbb := belowOn ho (Nat.le_refl _) hal
              replace HB := Lib.hid (HB.out.read hbb)
              replace HWr := Lib.hid (belowOn HWr.out (Nat.le_refl _) hbb)
              clear ho hal hbb hy HC HNONE HSOME HLE HX2 HRS hcx HCX HTK
              go_upto_region 17 with (fail)
              generalize hw4 : wC.alloc (.cells #[.int .i64 0, .int .i64 0, .string ⟨#[]⟩, .slice none 0 0] 43) = w4 at HB HWr ⊢
              clear hw4
              obtain ⟨b0, b1, b2, b3, bf⟩ := box_cells HB.out.now
              go_wp2
              exact sread_no (b := w.heap.size) HQ.out rfl rfl rfl rfl rfl Tryd.underlying43 (by kernel_rfl) HB.out.now rfl HWr.out
        · have hnR : ¬ T[m]? = some tokR := by rw [hx]; intro h; exact hR (Option.some.inj h)
          have hnD : ¬ T[m]? = some tokD := by rw [hx]; intro h; exact hD (Option.some.inj h)
          obtain ⟨k', hk', hnone, hsome⟩ := left_step HF.out hnR hnD he (fun k t j h => (read_gt leafS T k).1 _ _ _ h)
          have HNONE := Lib.hid hnone
          have HSOME := Lib.hid hsome
          unfold tokR at hR
          unfold tokD at hD
          obtain ⟨r1, r2, r3, r4⟩ := tests_no hR
          obtain ⟨t1, t2, t3, t4⟩ := tests_no hD
          have HGT := Lib.hid ((read_gt leafS T k').1 m)
          have HLE := Lib.hid ((read_le leafS T k').1 m)
          clear hx hnR hnD hnone hsome hR hD HF
          have HC := Lib.hid (IH.out k' m wr hmn hm HTK.out hk')
          go_wp2_with fail
          refine HC.out.mono ?_
          rintro e wC ⟨⟨y, j, ua, uc, hy, rfl, hu⟩ | ⟨hy, mm, rfl⟩, ho⟩
          · have HLX := Lib.hid (HSOME.out y j hy)
            have hmj := HGT.out _ _ hy
            have hjl := HLE.out _ _ hy
            have HMID : Hid (∀ k, (Value.slice sa xs.length sc).ownBlock = some k → w.heap.size + 1 ≤ k ∧ k < wr.heap.size) := Lib.hid (by
              obtain ⟨L, hL, hrow, _⟩ := HO.out
              exact fun k hk => World.ownsRow.lt hrow k hk)
            have hlow : w.heap.size + 1 ≤ wr.heap.size := HB.out.le
            have hsC := ho.size
            have hal : Below wC.heap.size wC (wC.alloc (.cells #[.int .i64 y.kind, .int .i64 y.num, .string y.name, .slice ua y.args.length uc] 43)) := belowAlloc (Below.refl _ _) _
            have hbb := belowOn ho (Nat.le_refl _) hal
            replace HO := Lib.hid (HO.out.frame hbb.size (fun k _ hks => hbb.block k hks))
            replace HB := Lib.hid (HB.out.read hbb)
            replace HWr := Lib.hid (belowOn HWr.out (Nat.le_refl _) hbb)
            have HU := Lib.hid ((hu.kept hal).sub (S' := iv wr.heap.size (wC.alloc (.cells #[.int .i64 y.kind, .int .i64 y.num, .string y.name, .slice ua y.args.length uc] 43)).heap.size) fun k hk => ⟨hk.1, by have := hk.2; simp; omega⟩)
            have HY := Lib.hid (at_box wC #[.int .i64 y.kind, .int .i64 y.num, .string y.name, .slice ua y.args.length uc] 43)
            have hsD : (wC.alloc (.cells #[.int .i64 y.kind, .int .i64 y.num, .string y.name, .slice ua y.args.length uc] 43)).heap.size = wC.heap.size + 1 := by simp
            clear hu ho hal hbb hy HC HNONE HSOME HGT HLE HTK IH hcx hgw r1 r2 r3 r4 t1 t2 t3 t4
            go_upto_region 12 with (fail)
            generalize hw4 : wC.alloc (.cells #[.int .i64 y.kind, .int .i64 y.num, .string y.name, .slice ua y.args.length uc] 43) = w4 at HO HB HWr HU HY hsD ⊢
            clear hw4
            have HSD := Lib.hid hsD
            clear hsD
            obtain ⟨L, hL, hrow, hch⟩ := HO.out
            have hLn : xs.length = L.length := by rw [← hL, List.length_map]
            rw [← hLn] at hrow
            have HROW := Lib.hid hrow
            have HPA := Lib.hid (And.intro hL (And.intro hLn hch))
            clear hL hLn hrow hch HO
            obtain ⟨c0, c1, c2, c3⟩ := HY.out.cells
            have z0 := HY.out.le
            go_wp2_with (at_builtin; refine wpList_append_lies _ rfl _ _ 41 rfl (w.heap.size + 1) 43 i0 _ 4 56 Tryd.underlying41 HII.out.1 HII.out.2.1 HII.out.2.2.1 HII.out.2.2.2 rfl (by omega) (.slice sa xs.length sc) xs.length (cellsL L) rfl (HROW.out.alloc _) ⟨w4.heap.size, 0, none⟩ 1 1 (cells4 y (.slice ua y.args.length uc)) rfl rfl (World.news_of_block (heap_alloc_new w4 _)) (by simp [cells4, Value.oneCell']) (by omega) (by unfold maxLen; omega) (by omega) (by simp; omega) (w4.heap.size + 1) (by simp) ?_; intro gg cap' w1' hown1 hgrow hat hlt1; have HAP := Lib.hid (And.intro hown1 (And.intro hgrow (And.intro hat hlt1))); clear hown1 hgrow hat hlt1)
            have hsD := HSD.out
            have hgs := HAP.out.2.1.size
            simp only [World.size_alloc] at hgs
            have HO1 : Hid (RowS w1' (w.heap.size + 1) (.slice (some ⟨gg, 0, none⟩) (xs.length + 1) cap') (xs ++ [y])) := Lib.hid (by
              have h := rowS_append (mid := wr.heap.size) HPA.out.2.1 HROW.out HPA.out.2.2 HU.out (fun k hk => (HMID.out k hk).2) (by omega) (belowAlloc (Below.refl _ _) _) HAP.out.1 HAP.out.2.1 (HAP.out.2.2.1.imp id (fun h => by omega))
              rw [HPA.out.1] at h
              exact h)
            have hal5 : Below w4.heap.size w4 (w4.alloc (.cells #[.int .i64 y.kind, .int .i64 y.num, .string y.name, .slice ua y.args.length uc] 43)) := belowAlloc (Below.refl _ _) _
            have HB1 := Lib.hid ((HB.out.read hal5).grown HAP.out.2.1 (fun k hk => by have := (HMID.out k hk).1; omega))
            have HW1 := Lib.hid ((belowOn HWr.out (Nat.le_refl _) hal5).trans (below_of_grown HAP.out.2.1 (belowOn HWr.out (Nat.le_refl _) hal5).size (fun k hk => by have := (HMID.out k hk).1; omega)))
            clear HROW HPA HU HAP HB HWr HY c0 c1 c2 c3 z0 hal5
            go_wp2
            go_roundg (T.length - j)
            case rel => exact ⟨xs ++ [y], j, Nat.le_refl _, by simp, hjl, by omega, by simp; omega, HLX, by simpa using HO1, HB1, HW1⟩
            case measure => omega
          · have HQ := Lib.hid (HNONE.out hy)
            have hal : Below wC.heap.size wC (wC.alloc (.cells #[.int .i64 0, .int .i64 0, .string ⟨#[]⟩, .slice none 0 0] 43)) := belowAlloc (Below.refl _ _) _
            have hbb := belowOn ho (Nat.le_refl _) hal
            replace HB := Lib.hid (HB.out.read hbb)
            replace HWr := Lib.hid (belowOn HWr.out (Nat.le_refl _) hbb)
            clear ho hal hbb hy HC HNONE HSOME HGT HLE HTK IH hcx hgw r1 r2 r3 r4 t1 t2 t3 t4 HO
            go_upto_region 10 with (fail)
            generalize hw4 : wC.alloc (.cells #[.int .i64 0, .int .i64 0, .string ⟨#[]⟩, .slice none 0 0] 43) = w4 at HB HWr ⊢
            clear hw4
            obtain ⟨b0, b1, b2, b3, bf⟩ := box_cells HB.out.now
            go_wp2
            exact sread_no (b := w.heap.size) HQ.out rfl rfl rfl rfl rfl Tryd.underlying43 (by kernel_rfl) HB.out.now rfl HWr.out
    · have HQ := Lib.hid (left_end HF.out (List.getElem?_eq_none (by omega)))
      have hge : decide ((T.length : Int) ≤ (m : Int)) = true := decide_eq_true (by omega)
      have hi1 : ¬ (m : Int) < (T.length : Int) := by omega
      have hal : Below wr.heap.size wr (wr.alloc (.cells #[.int .i64 0, .int .i64 0, .string ⟨#[]⟩, .slice none 0 0] 43)) := belowAlloc (Below.refl _ _) _
      replace HB := Lib.hid (HB.out.read hal)
      replace HWr := Lib.hid (belowOn HWr.out (Nat.le_refl _) hal)
      clear hal HF HO HTK IH
      go_upto_region 15 with (fail)
      generalize hw2 : wr.alloc (.cells #[.int .i64 0, .int .i64 0, .string ⟨#[]⟩, .slice none 0 0] 43) = w2 at HB HWr ⊢
      clear hw2
      obtain ⟨b0, b1, b2, b3, bf⟩ := box_cells HB.out.now
      go_wp2
      exact sread_no (b := w.heap.size) HQ.out rfl rfl rfl rfl rfl Tryd.underlying43 (by kernel_rfl) HB.out.now rfl HWr.out

theorem specRead_any (sa : Option Addr) (cap : Nat) (T : List ByteArray) (hT : ∀ x ∈ T, x.size ≤ 1048576) (hTl : T.length ≤ 1048576) : ∀ (n k i : Nat) (w : World), T.length - i < n → i ≤ T.length → Toks w sa T → 3 * (T.length - i) + 1 ≤ k →
    Calls Tryd.prog 48 #[.slice sa T.length cap, .int .i64 i] w (SRead (anyP leafS k T i) w) := by
  intro n
  induction n with
  | zero => intro k i w h; omega
  | succ n ih =>
    intro k i w hn hi ht hk
    obtain ⟨k, rfl⟩ : ∃ k', k = k' + 1 := ⟨k - 1, by omega⟩
    by_cases hL : T[i]? = some tokL
    · exact specRead_list sa cap T hT hTl n (Lib.hid ih) k i w ht (by omega) hk hL
    · exact specRead_leaf sa cap T hT hTl k i w ht (by omega) hL
end Go.Proofs.YtnbnepeikdieaaaDoor

