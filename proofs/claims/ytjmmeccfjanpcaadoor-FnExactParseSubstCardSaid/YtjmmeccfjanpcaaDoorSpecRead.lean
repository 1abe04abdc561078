/-
  The model's l03Read where the token opens no list; a triple's return.
-/
import Derived.Test.YtjmmeccfjanpcaaDoorSpecAtom
namespace Go.Proofs.YtjmmeccfjanpcaaDoor
open Go.RowKit
set_option linter.unusedVariables false
set_option linter.unusedSimpArgs false

theorem results_cell_row3 {P : Program} {fn : Func} {p q r : Tmp} {ty : TypeId} (h : fn.results = #[.cell p ty, .tmp q, .tmp r]) (tmps : Array Value) (w : World) (g : Nat) (t : TypeId) (cs : Array Value) (fr : Nat × Nat) (d : TypeDesc)
    (hp : tmps.getD p undef = .pointer (some ⟨g, 0, none⟩)) (hg : w.heap[g]? = some (.cells cs t fr))
    (hu : P.underlying ty = some d) (hd : (match d with | .struct _ | .array _ _ => true | _ => false) = true) (hi : (P.info? ty).map (·.size) = some cs.size) :
    (results fn tmps).run P w = .ok (.tuple #[.agg cs, tmps.getD q undef, tmps.getD r undef]) w := by
  have hp' : tmps[p]?.getD undef = .pointer (some ⟨g, 0, none⟩) := by simpa using hp
  simp [results, h, hp', asAddr, run_loadVar_row w g t ty cs fr d hg hu hd hi]
/-- The return of a struct of four cells that has just been stored into the result's variable, and of two more results. -/
theorem bodyPost_fourT {P : Program} {fn : Func} {R : Ending → World → Prop} {a : Act} {w : World} {p q r : Tmp} {ty e : TypeId} {b : Nat} {x0 x1 x2 x3 y0 y1 y2 y3 z1 z2 : Value} {d : TypeDesc} (h : fn.results = #[.cell p ty, .tmp q, .tmp r]) (hp : a.tmps.getD p undef = .pointer (some ⟨b, 0, none⟩)) (hq : a.tmps.getD q undef = z1) (hr : a.tmps.getD r undef = z2) (hd : a.defers = [])
    (hu : P.underlying ty = some d) (hdd : (match d with | .struct _ | .array _ _ => true | _ => false) = true) (hi : (P.info? ty).map (·.size) = some 4) (hb : w.heap[b]? = some (Obj.cells #[x0, x1, x2, x3] e))
    (hR : ∀ w', Only (fun k => k = b) w w' → R (.returned (.tuple #[.agg #[y0, y1, y2, y3], z1, z2])) w') :
    bodyPost P fn R .ret a ((((w.setCell ⟨b, 0, none⟩ y0).setCell ⟨b, 1, none⟩ y1).setCell ⟨b, 2, none⟩ y2).setCell ⟨b, 3, none⟩ y3) := by
  subst hq
  subst hr
  have h0 := heap_setCell_same w b 0 _ e y0 hb
  have h1 := heap_setCell_same _ b 1 _ e y1 h0
  have h2 := heap_setCell_same _ b 2 _ e y2 h1
  have h3 := heap_setCell_same _ b 3 _ e y3 h2
  refine bodyPost_ret (results_cell_row3 h _ _ b e #[y0, y1, y2, y3] (0, 0) d hp h3 hu hdd hi) hd (hR _ ?_)
  have one : ∀ (W : World) (j : Nat) (u : Value), Only (fun k => k = b) W (W.setCell ⟨b, j, none⟩ u) := fun W j u => ⟨rfl, rfl, rfl, by simp, fun k _ hk => Below.heap_setCell _ _ _ _ hk⟩
  exact (((one _ _ _).trans (one _ _ _)).trans (one _ _ _)).trans (one _ _ _)

/-- Tokens in a slice that came in. -/
def Toks (w : World) (sa : Option Addr) (T : List ByteArray) : Prop := T = [] ∨ ∃ g off, sa = some ⟨g, off, none⟩ ∧ g < w.heap.size ∧ ∀ j x, T[j]? = some x → w.cell? ⟨g, off + j, none⟩ = some (.string x)
theorem Toks.kept {w w' : World} {sa : Option Addr} {T : List ByteArray} (h : Toks w sa T) (hb : Below w.heap.size w w') : Toks w' sa T := by
  rcases h with h | ⟨g, off, h1, h2, h3⟩
  · exact .inl h
  · exact .inr ⟨g, off, h1, Nat.lt_of_lt_of_le h2 hb.size, fun j x hx => (hb.cell (p := ⟨g, off + j, none⟩) h2).trans (h3 j x hx)⟩
theorem Toks.at {w : World} {sa : Option Addr} {T : List ByteArray} (h : Toks w sa T) {j : Nat} {x : ByteArray} (hx : T[j]? = some x) : ∃ g off, sa = some ⟨g, off, none⟩ ∧ w.cell? ⟨g, off + j, none⟩ = some (.string x) := by
  rcases h with h | ⟨g, off, h1, _, h3⟩
  · subst h; simp at hx
  · exact ⟨g, off, h1, h3 j x hx⟩
/-- What the model's reading answers. -/
def SRead (o : Option (Tm × Nat)) (w : World) (e : Ending) (w' : World) : Prop :=
  ((∃ (t : Tm) (j : Nat) (x : Option Addr) (c : Nat), o = some (t, j) ∧ e = .returned (.tuple #[.agg #[.int .i64 t.kind, .int .i64 t.num, .string t.name, .slice x t.args.length c], .int .i64 j, .bool true]) ∧ ArgsS w' (iv w.heap.size w'.heap.size) (.slice x t.args.length c) t.args) ∨
    (o = none ∧ ∃ m : Int, e = .returned (.tuple #[.agg #[.int .i64 0, .int .i64 0, .string ⟨#[]⟩, .slice none 0 0], .int .i64 m, .bool false]))) ∧ Below w.heap.size w w'

theorem leafS_args {x : ByteArray} {t : Tm} (h : leafS x = some t) : t.args = [] := by
  cases hl : leafI x with
  | none => rw [leafS_no hl] at h; cases h
  | some u =>
    by_cases hg : Good u
    · rw [leafS_yes hl hg] at h; cases h; exact leafI_args hl
    · rw [leafS_bad hl hg] at h; cases h
theorem one_list (c : UInt8) : (⟨#[c]⟩ : ByteArray).toList = [c] := by rw [Lib.toList_data]
theorem leafS_R : leafS tokR = none := by
  refine leafS_no (leafI_no (parse_first fun c r h => ?_) (by decide) (fun h => absurd h.1 (by decide)))
  cases h; decide
theorem leafS_D : leafS tokD = none := by
  refine leafS_no (leafI_no (parse_first fun c r h => ?_) (by decide) (fun h => absurd h.1 (by decide)))
  cases h; decide

set_option maxHeartbeats 4000000 in
set_option maxRecDepth 100000 in
theorem specRead_leaf (sa : Option Addr) (cap : Nat) (T : List ByteArray) (hT : ∀ x ∈ T, x.size ≤ 1048576) (hTl : T.length ≤ 1048576) (k i : Nat) (w : World) (ht : Toks w sa T) (hi : i ≤ 1048577) (hno : ¬ T[i]? = some tokL) :
    Calls Tryd.prog 48 #[.slice sa T.length cap, .int .i64 i] w (SRead (anyP leafS (k + 1) T i) w) := by
  have hal : Below w.heap.size w (w.alloc (.cells #[.int .i64 0, .int .i64 0, .string ⟨#[]⟩, .slice none 0 0] 43)) := belowAlloc (Below.refl _ _) _
  have HR := Lib.hid (at_box w #[.int .i64 0, .int .i64 0, .string ⟨#[]⟩, .slice none 0 0] 43)
  have HW := Lib.hid hal
  have HTK := Lib.hid (ht.kept hal)
  clear hal ht
  have hi0 : (0 : Int) ≤ (i : Int) := by omega
  have NOEND : True := trivial
  by_cases hlt : i < T.length
  · obtain ⟨x, hx⟩ : ∃ x, T[i]? = some x := ⟨_, List.getElem?_eq_getElem hlt⟩
    have hxl : ¬ x = tokL := fun e => hno (by rw [hx, e])
    have hge : decide ((T.length : Int) ≤ (i : Int)) = false := decide_eq_false (by omega)
    have hi1 : (i : Int) < (T.length : Int) := by omega
    have hxs := hT x (List.mem_of_getElem? hx)
    obtain ⟨g, off, rfl, hc⟩ := HTK.out.at hx
    have HCX := Lib.hid hc
    by_cases hR : x = tokR
    · have HQ := Lib.hid (any_no (L := leafS) (k := k) hx hxl (by rw [hR]; exact leafS_R))
      generalize anyP leafS (k + 1) T i = o at HQ ⊢
      subst hR
      unfold tokR at HCX
      clear hno hx hxl hT hc HTK
      go_enter Tryd.func48, Tryd.ntmps48
      go_upto_region 1 with (fail)
      generalize hw0 : w.alloc (.cells #[.int .i64 0, .int .i64 0, .string ⟨#[]⟩, .slice none 0 0] 43) = w0 at HR HW HCX ⊢
      clear hw0
      have hc := HCX.out
      have HRE := Lib.hid HR.out.now
      obtain ⟨r0, r1, r2, r3, rf⟩ := box_cells HR.out.now
      go_wp2
      refine bodyPost_fourT (p := 4) (q := 5) (r := 6) (b := w.heap.size) rfl rfl rfl rfl rfl Tryd.underlying43 rfl (by kernel_rfl) HRE.out fun w' hw => ?_
      exact ⟨.inr ⟨HQ.out, 0, rfl⟩, HW.out.trans (hw.below (fun k hk => by omega) HW.out.size)⟩
    · by_cases hD : x = tokD
      · have HQ := Lib.hid (any_no (L := leafS) (k := k) hx hxl (by rw [hD]; exact leafS_D))
        generalize anyP leafS (k + 1) T i = o at HQ ⊢
        subst hD
        unfold tokD at HCX
        clear hno hx hxl hT hc HTK
        go_enter Tryd.func48, Tryd.ntmps48
        go_upto_region 1 with (fail)
        generalize hw0 : w.alloc (.cells #[.int .i64 0, .int .i64 0, .string ⟨#[]⟩, .slice none 0 0] 43) = w0 at HR HW HCX ⊢
        clear hw0
        have hc := HCX.out
        have HRE := Lib.hid HR.out.now
        obtain ⟨r0, r1, r2, r3, rf⟩ := box_cells HR.out.now
        go_wp2
        refine bodyPost_fourT (p := 4) (q := 5) (r := 6) (b := w.heap.size) rfl rfl rfl rfl rfl Tryd.underlying43 rfl (by kernel_rfl) HRE.out fun w' hw => ?_
        exact ⟨.inr ⟨HQ.out, 0, rfl⟩, HW.out.trans (hw.below (fun k hk => by omega) HW.out.size)⟩
      · have HAT := Lib.hid (fun W => specAtom_any x W hxs)
        have HLF := Lib.hid (fun (t : Tm) (h : leafS x = some t) => any_leaf (L := leafS) (k := k) hx hxl h)
        have HLN := Lib.hid (fun (h : leafS x = none) => any_no (L := leafS) (k := k) hx hxl h)
        have HLA := Lib.hid (fun (t : Tm) (h : leafS x = some t) => leafS_args h)
        generalize anyP leafS (k + 1) T i = o at HLF HLN ⊢
        have d1 := string_eq_no hR
        have d2 := string_eq_no hD
        have d3 := string_eq_no hxl
        unfold tokR at d1
        unfold tokD at d2
        unfold tokL at d3
        have e1 : (x.toList == [41]) = false := by have h := d1; rw [one_list] at h; exact h
        have e2 : (x.toList == [46]) = false := by have h := d2; rw [one_list] at h; exact h
        have e3 : (x.toList == [40]) = false := by have h := d3; rw [one_list] at h; exact h
        have e4 : (x.toList != (⟨#[40]⟩ : ByteArray).toList) = true := by simp only [bne, d3]; rfl
        have e5 : (x.toList != [40]) = true := by simp only [bne, e3]; rfl
        clear hno hx hxl hT hc HTK hR hD
        go_enter Tryd.func48, Tryd.ntmps48
        go_upto_region 1 with (fail)
        generalize hw0 : w.alloc (.cells #[.int .i64 0, .int .i64 0, .string ⟨#[]⟩, .slice none 0 0] 43) = w0 at HR HW HCX ⊢
        clear hw0
        have hc := HCX.out
        go_wp2_with fail
        refine (HAT.out w0).mono ?_
        rintro e w2 ⟨⟨t, hl, rfl⟩ | ⟨hl, rfl⟩, hb⟩
        · have HQ := Lib.hid (HLF.out t hl)
          have HAR := Lib.hid (HLA.out t hl)
          have hal : Below w2.heap.size w2 (w2.alloc (.cells #[.int .i64 t.kind, .int .i64 t.num, .string t.name, .slice none 0 0] 43)) := belowAlloc (Below.refl _ _) _
          have HRE := Lib.hid ((HR.out.read hb).read hal).now
          have HW2 := Lib.hid (belowOn (belowOn HW.out (Nat.le_refl _) hb) (Nat.le_refl _) hal)
          obtain ⟨r0, r1, r2, r3, rf⟩ := box_cells HRE.out
          clear hl hb hal HLF HLN HLA HAT hc HCX d1 d2 d3 e1 e2 e3 e4 e5
          go_wp2
          refine bodyPost_fourT (p := 4) (q := 5) (r := 6) (b := w.heap.size) rfl rfl rfl rfl rfl Tryd.underlying43 rfl (by kernel_rfl) HRE.out fun w' hw => ?_
          exact ⟨.inl ⟨t, i + 1, none, 0, HQ.out, by rw [HAR.out]; rfl, by rw [HAR.out]; exact .nil _ _⟩, HW2.out.trans (hw.below (fun k hk => by omega) HW2.out.size)⟩
        · have HQ := Lib.hid (HLN.out hl)
          have hal : Below w2.heap.size w2 (w2.alloc (.cells #[.int .i64 0, .int .i64 0, .string ⟨#[]⟩, .slice none 0 0] 43)) := belowAlloc (Below.refl _ _) _
          have HRE := Lib.hid ((HR.out.read hb).read hal).now
          have HW2 := Lib.hid (belowOn (belowOn HW.out (Nat.le_refl _) hb) (Nat.le_refl _) hal)
          obtain ⟨r0, r1, r2, r3, rf⟩ := box_cells HRE.out
          clear hl hb hal HLF HLN HLA HAT hc HCX d1 d2 d3 e1 e2 e3 e4 e5
          go_wp2
          refine bodyPost_fourT (p := 4) (q := 5) (r := 6) (b := w.heap.size) rfl rfl rfl rfl rfl Tryd.underlying43 rfl (by kernel_rfl) HRE.out fun w' hw => ?_
          exact ⟨.inr ⟨HQ.out, _, rfl⟩, HW2.out.trans (hw.below (fun k hk => by omega) HW2.out.size)⟩
  · have HQ := Lib.hid (any_end (L := leafS) (k := k) (T := T) (i := i) (List.getElem?_eq_none (by omega)))
    generalize anyP leafS (k + 1) T i = o at HQ ⊢
    have hge : decide ((T.length : Int) ≤ (i : Int)) = true := decide_eq_true (by omega)
    clear hno hT HTK
    go_enter Tryd.func48, Tryd.ntmps48
    go_upto_region 1 with (fail)
    generalize hw0 : w.alloc (.cells #[.int .i64 0, .int .i64 0, .string ⟨#[]⟩, .slice none 0 0] 43) = w0 at HR HW ⊢
    clear hw0
    have HRE := Lib.hid HR.out.now
    obtain ⟨r0, r1, r2, r3, rf⟩ := box_cells HR.out.now
    go_wp2
    refine bodyPost_fourT (p := 4) (q := 5) (r := 6) (b := w.heap.size) rfl rfl rfl rfl rfl Tryd.underlying43 rfl (by kernel_rfl) HRE.out fun w' hw => ?_
    exact ⟨.inr ⟨HQ.out, 0, rfl⟩, HW.out.trans (hw.below (fun k hk => by omega) HW.out.size)⟩
end Go.Proofs.YtjmmeccfjanpcaaDoor

