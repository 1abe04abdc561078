/-
  The program's variableFor: a variable for a list of parts. (Written by wip/tools/gen_varfor.py.)
-/
import Derived.Test.YtoihimdfmncdoaaShapeOf
import Derived.Test.YtoihimdfmncdoaaNews
namespace Go.Proofs.Ytoihimdfmncdoaa
open Go.RowKit
set_option linter.unusedVariables false
set_option linter.unusedSimpArgs false

/-- The table of variables: the number of a list of parts, as one term, has the number of its variable. -/
def VarsN (ν : Tm → Option Nat) (k : List (List Tm)) (G : Int → Option Nat) : Prop :=
  k.Nodup ∧ (∀ x ∈ k, ν (lstT x) ≠ none) ∧ ∀ (v : Int) (i : Nat), G v = some i ↔ ∃ (x : List Tm) (m : Nat), k[i]? = some x ∧ ν (lstT x) = some m ∧ v = (m : Int)
theorem varsN_nil : VarsN (fun _ => none) [] (fun _ => none) := ⟨List.nodup_nil, fun x h => (by cases h), fun v i => ⟨fun h => (by cases h), fun ⟨x, m, h, _⟩ => (by simp at h)⟩⟩
theorem VarsN.ext {ν ν' : Tm → Option Nat} {k : List (List Tm)} {G : Int → Option Nat} (h : VarsN ν k G) (he : ∀ u j, ν u = some j → ν' u = some j) : VarsN ν' k G := by
  obtain ⟨h1, h2, h3⟩ := h
  have e : ∀ x ∈ k, ν' (lstT x) = ν (lstT x) := fun x hx => by
    obtain ⟨m, hm⟩ := Option.ne_none_iff_exists'.1 (h2 x hx)
    rw [hm, he _ _ hm]
  refine ⟨h1, fun x hx => by rw [e x hx]; exact h2 x hx, fun v i => ?_⟩
  rw [h3]
  constructor
  · rintro ⟨x, m, a, b, c⟩
    exact ⟨x, m, a, by rw [e x (List.mem_of_getElem? a)]; exact b, c⟩
  · rintro ⟨x, m, a, b, c⟩
    exact ⟨x, m, a, by rw [← e x (List.mem_of_getElem? a)]; exact b, c⟩
theorem nodup_idx {α : Type} {l : List α} (h : l.Nodup) {i j : Nat} {x : α} (hi : l[i]? = some x) (hj : l[j]? = some x) : i = j := by
  obtain ⟨a1, a2⟩ := List.getElem?_eq_some_iff.1 hi
  obtain ⟨b1, b2⟩ := List.getElem?_eq_some_iff.1 hj
  have hp := List.pairwise_iff_getElem.1 h
  rcases Nat.lt_trichotomy i j with e | e | e
  · exact absurd (a2.trans b2.symm) (hp i j a1 b1 e)
  · exact e
  · exact absurd (b2.trans a2.symm) (hp j i b1 a1 e)
theorem vars_end {ν : Tm → Option Nat} {n : Nat} {k : List (List Tm)} {G G' : Int → Option Nat} {l : List Tm} {m i n' : Nat} (hN : NumP ν n) (h : VarsN ν k G) (hl : ∀ x ∈ k, x.length = l.length) (hm : ν (lstT l) = some m) (hi : NumIn G k.length (m : Int) i G' n') :
    i = idxL k l ∧ n' = (kAdd k l).length ∧ VarsN ν (kAdd k l) G' := by
  obtain ⟨h1, h2, h3⟩ := h
  rcases hi with ⟨a, rfl, rfl⟩ | ⟨a, rfl, rfl, rfl⟩
  · obtain ⟨x, m', b1, b2, b3⟩ := (h3 _ _).1 a
    have hmm : m' = m := by omega
    subst hmm
    have hx : x = l := lst_inj (hl x (List.mem_of_getElem? b1)) (hN.inj _ _ _ b2 hm)
    subst hx
    have hmem := List.mem_of_getElem? b1
    have hk : kAdd k x = k := if_pos hmem
    rw [hk]
    obtain ⟨c1, c2⟩ := idx_in hmem
    refine ⟨?_, rfl, h1, h2, h3⟩
    exact nodup_idx h1 b1 c1
  · have hno : ¬ l ∈ k := fun hmem => by
      obtain ⟨j, hj⟩ := List.getElem?_of_mem hmem
      have := (h3 (m : Int) j).2 ⟨l, m, hj, hm, rfl⟩
      rw [a] at this
      cases this
    have hk : kAdd k l = k ++ [l] := if_neg hno
    rw [hk, idx_out hno]
    refine ⟨rfl, by simp, ?_, fun x hx => ?_, fun v i => ?_⟩
    · rw [List.nodup_append]
      refine ⟨h1, by simp, fun z hz y hy => ?_⟩
      rw [List.mem_singleton] at hy
      subst hy
      intro e
      subst e
      exact hno hz
    · rcases List.mem_append.1 hx with hx | hx
      · exact h2 x hx
      · rw [List.mem_singleton.1 hx, hm]; exact fun h => (by cases h)
    · unfold updNm
      by_cases e : v = (m : Int)
      · rw [if_pos e]
        constructor
        · intro hi
          cases hi
          exact ⟨l, m, by simp, hm, e⟩
        · rintro ⟨x, m', b1, b2, b3⟩
          by_cases hil : i < k.length
          · rw [List.getElem?_append_left hil] at b1
            have hmm : m' = m := by omega
            subst hmm
            have hx : x = l := lst_inj (hl x (List.mem_of_getElem? b1)) (hN.inj _ _ _ b2 hm)
            subst hx
            exact absurd (List.mem_of_getElem? b1) hno
          · have := (List.getElem?_eq_some_iff.1 b1).1
            simp at this
            have : i = k.length := by omega
            rw [this]
      · rw [if_neg e, h3]
        constructor
        · rintro ⟨x, m', b1, b2, b3⟩
          exact ⟨x, m', by rw [List.getElem?_append_left (List.getElem?_eq_some_iff.1 b1).1]; exact b1, b2, b3⟩
        · rintro ⟨x, m', b1, b2, b3⟩
          by_cases hil : i < k.length
          · rw [List.getElem?_append_left hil] at b1
            exact ⟨x, m', b1, b2, b3⟩
          · rw [List.getElem?_append_right (by omega)] at b1
            have : i - k.length = 0 := by
              have := (List.getElem?_eq_some_iff.1 b1).1
              simp at this
              omega
            rw [this] at b1
            simp at b1
            subst b1
            rw [hm] at b2
            cases b2
            exact absurd b3 e
/-- What the generalizer's maps hold: numbers of terms, of lists of parts. -/
structure GenW (b b2 : Nat) (ν : Tm → Option Nat) (n : Nat) (F : Sh → Option Nat) (k : List (List Tm)) (G : Int → Option Nat) (w : World) : Prop where
  num : NumP ν n
  tab : TabP ν F
  shapes : MapN 85 shV shOk w b n F
  vars : MapN 3 (Value.int .i64) wfI w b2 k.length G
  tabV : VarsN ν k G
def VarR (b b2 : Nat) (l : List Tm) (n : Nat) (k : List (List Tm)) (w : World) (e : Ending) (w' : World) : Prop :=
  ∃ (ν' : Tm → Option Nat) (n' : Nat) (F' : Sh → Option Nat) (G' : Int → Option Nat), e = .returned (.agg #[.int .i64 1, .int .i64 ((idxL k l : Nat) : Int), .string ⟨#[]⟩, .slice none 0 0]) ∧ GenW b b2 ν' n' F' (kAdd k l) G' w' ∧ n' ≤ n + (lstT l).nodes ∧ Only (fun j => j = b ∨ j = b2) w w'
theorem GenW.kept {b b2 : Nat} {ν : Tm → Option Nat} {n : Nat} {F : Sh → Option Nat} {k : List (List Tm)} {G : Int → Option Nat} {w w' : World} (h : GenW b b2 ν n F k G w) (hb : Below w.heap.size w w') : GenW b b2 ν n F k G w' := ⟨h.num, h.tab, h.shapes.kept hb, h.vars.kept hb, h.tabV⟩
theorem GenW.off {b b2 : Nat} {ν : Tm → Option Nat} {n : Nat} {F : Sh → Option Nat} {k : List (List Tm)} {G : Int → Option Nat} {w w' : World} {S : Nat → Prop} (h : GenW b b2 ν n F k G w) (ho : Only S w w') (h1 : ¬ S b) (h2 : ¬ S b2) : GenW b b2 ν n F k G w' := ⟨h.num, h.tab, h.shapes.frame (ho.block _ h.shapes.lt h1), h.vars.frame (ho.block _ h.vars.lt h2), h.tabV⟩
theorem GenW.maps {b b2 : Nat} {ν : Tm → Option Nat} {n : Nat} {F : Sh → Option Nat} {k : List (List Tm)} {G : Int → Option Nat} {w : World} (h : GenW b b2 ν n F k G w) : ∀ j, (j = b ∨ j = b2) → j < w.heap.size → isMp w.heap[j]? := fun j hj _ => by
  rcases hj with rfl | rfl
  · exact h.shapes.isMp
  · exact h.vars.isMp
theorem GenW.lt {b b2 : Nat} {ν : Tm → Option Nat} {n : Nat} {F : Sh → Option Nat} {k : List (List Tm)} {G : Int → Option Nat} {w : World} (h : GenW b b2 ν n F k G w) : b < w.heap.size ∧ b2 < w.heap.size := ⟨h.shapes.lt, h.vars.lt⟩
theorem lst_nodes {l : List Tm} {j : Nat} {x : Tm} (hx : l[j]? = some x) : lstT (l.take (j + 1)) = .mk 4 0 ⟨#[]⟩ [x, lstT (l.take j)] := by rw [take_snoc hx, lst_snoc]
theorem storeT {w : World} {b : Nat} {e : TypeId} {x0 x1 x2 x3 : Value} (h : w.heap[b]? = some (Obj.cells #[x0, x1, x2, x3] e)) (y0 y1 y2 y3 : Value) :
    ((((w.setCell ⟨b, 0, none⟩ y0).setCell ⟨b, 1, none⟩ y1).setCell ⟨b, 2, none⟩ y2).setCell ⟨b, 3, none⟩ y3).heap[b]? = some (Obj.cells #[y0, y1, y2, y3] e) ∧
      Only (fun k => k = b) w ((((w.setCell ⟨b, 0, none⟩ y0).setCell ⟨b, 1, none⟩ y1).setCell ⟨b, 2, none⟩ y2).setCell ⟨b, 3, none⟩ y3) := by
  have h0 := heap_setCell_same w b 0 _ e y0 h
  have h1 := heap_setCell_same _ b 1 _ e y1 h0
  have h2 := heap_setCell_same _ b 2 _ e y2 h1
  have h3 := heap_setCell_same _ b 3 _ e y3 h2
  have one : ∀ (W : World) (j : Nat) (u : Value), Only (fun k => k = b) W (W.setCell ⟨b, j, none⟩ u) := fun W j u => ⟨rfl, rfl, rfl, by simp, fun k _ hk => Below.heap_setCell _ _ _ _ hk⟩
  exact ⟨h3, (((one _ _ _).trans (one _ _ _)).trans (one _ _ _)).trans (one _ _ _)⟩
/-- The boxes of variableFor. -/
structure BxV (b b2 m : Nat) (t : Tm) (V : Value) (W : World) : Prop where
  fg : W.heap[m]? = some (.cells #[.map (some b), .map (some b2)] 63)
  fr : W.heap[m + 1]? = some (.cells #[.int .i64 0, .int .i64 0, .string ⟨#[]⟩, .slice none 0 0] 25)
  ft : W.heap[m + 2]? = some (.cells #[.int .i64 t.kind, .int .i64 t.num, .string t.name, V] 25)
theorem BxV.kept {b b2 m : Nat} {t : Tm} {V : Value} {W W' : World} (H : BxV b b2 m t V W) (hb : Below W.heap.size W W') : BxV b b2 m t V W' :=
  ⟨(hb.block _ (Array.getElem?_eq_some_iff.1 H.fg).1).trans H.fg, (hb.block _ (Array.getElem?_eq_some_iff.1 H.fr).1).trans H.fr, (hb.block _ (Array.getElem?_eq_some_iff.1 H.ft).1).trans H.ft⟩
theorem BxV.maps {b b2 m : Nat} {t : Tm} {V : Value} {W W' : World} {T : Nat → Prop} (H : BxV b b2 m t V W) (ho : Only T W W') (hT : ∀ k, T k → k < W.heap.size → isMp W.heap[k]?) : BxV b b2 m t V W' :=
  ⟨box_maps H.fg ho hT, box_maps H.fr ho hT, box_maps H.ft ho hT⟩
theorem BxV.cells {b b2 m : Nat} {t : Tm} {V : Value} {W : World} (H : BxV b b2 m t V W) : W.cell? ⟨m, 0, none⟩ = some (.map (some b)) ∧ W.cell? ⟨m, 1, none⟩ = some (.map (some b2)) ∧ W.cell? ⟨m + 2, 0, none⟩ = some (.int .i64 t.kind) ∧ W.cell? ⟨m + 2, 1, none⟩ = some (.int .i64 t.num) ∧ W.cell? ⟨m + 2, 2, none⟩ = some (.string t.name) ∧ W.cell? ⟨m + 2, 3, none⟩ = some V := by
  obtain ⟨a1, a2⟩ := cells2_of H.fg
  obtain ⟨c1, c2, c3, c4, _⟩ := box_cells H.ft
  exact ⟨a1, a2, c1, c2, c3, c4⟩

set_option maxRecDepth 100000 in
set_option maxHeartbeats 8000000 in
theorem variableFor_any (b b2 : Nat) (l : List Tm) (V : Value) (ν : Tm → Option Nat) (n : Nat) (F : Sh → Option Nat) (k : List (List Tm)) (G : Int → Option Nat) (w : World) (hW : GenW b b2 ν n F k G w) (hA : ArgsAt w V l) (hg : ∀ t ∈ l, Good t) (hl : l.length ≤ 1048576) (hk : ∀ x ∈ k, x.length = l.length) (hkn : k.length ≤ 1000000000) (hbb : ¬ b = b2) (hn : n + (lstT l).nodes ≤ 1000000000) :
    Calls Try.prog 97 #[.agg #[.map (some b), .map (some b2)], V] w (VarR b b2 l n k w) := by
  obtain ⟨aa, ac, rfl⟩ := hA.slice
  have HG := Lib.hid hg
  have HN := Lib.hid (And.intro hn (And.intro hkn (And.intro hk hbb)))
  have hb1 : Below w.heap.size w (((w.alloc (.cells #[.map (some b), .map (some b2)] 63)).alloc (.cells #[.int .i64 0, .int .i64 0, .string ⟨#[]⟩, .slice none 0 0] 25)).alloc (.cells #[.int .i64 0, .int .i64 0, .string ⟨#[]⟩, .slice none 0 0] 25)) := belowAlloc (belowAlloc (belowAlloc (Below.refl _ _) _) _) _
  have HB := Lib.hid hb1
  have HS := Lib.hid (hW.kept hb1)
  have HLT := Lib.hid hW.lt
  have HA := Lib.hid hA.inS
  have HBX : Hid (BxV b b2 w.heap.size (lstT (l.take 0)) (.slice none 0 0) (((w.alloc (.cells #[.map (some b), .map (some b2)] 63)).alloc (.cells #[.int .i64 0, .int .i64 0, .string ⟨#[]⟩, .slice none 0 0] 25)).alloc (.cells #[.int .i64 0, .int .i64 0, .string ⟨#[]⟩, .slice none 0 0] 25))) := Lib.hid ⟨heap3_0 _ _ _ _, heap3_1 _ _ _ _, heap3_2 _ _ _ _⟩
  clear hW hA hg hk hkn hbb hn hb1
  go_enter Try.func97, Try.ntmps97
  go_upto_region 2 with (fail)
  generalize hw1 : (((w.alloc (.cells #[.map (some b), .map (some b2)] 63)).alloc (.cells #[.int .i64 0, .int .i64 0, .string ⟨#[]⟩, .slice none 0 0] 25)).alloc (.cells #[.int .i64 0, .int .i64 0, .string ⟨#[]⟩, .slice none 0 0] 25)) = w1 at HB HS HBX ⊢
  clear hw1
  have HM2 : Hid (w.heap.size + 2 < w1.heap.size) := Lib.hid (Array.getElem?_eq_some_iff.1 HBX.out.ft).1
  go_wp2
  go_loopw [11] (fun iv wr => ∃ (j : Nat) (V : Value), j ≤ l.length ∧ iv = .int .i64 j ∧ Hid (BxV b b2 w.heap.size (lstT (l.take j)) V wr) ∧ Hid (ArgsS wr (fun i => i < wr.heap.size ∧ i ≠ w.heap.size + 2) V (lstT (l.take j)).args) ∧ Hid (Only (fun i => i = w.heap.size + 2) w1 wr)) (fun iv _ => l.length - (intOf iv).toNat)
  case atStart => exact ⟨0, _, Nat.zero_le _, rfl, HBX, Lib.hid (.nil _ _), Lib.hid (Only.refl _ _)⟩
  case round =>
    clear HBX
    obtain ⟨j, V, hj, rfl, HBX, HV, HO⟩ := hrel
    have HWB : Hid (Below w.heap.size w wr) := Lib.hid (HB.out.trans ⟨HO.out.os, HO.out.tape, HO.out.output, by have := HB.out.size; exact Nat.le_trans (Nat.le_refl _) HO.out.size, fun i hi => HO.out.block i (by have := HM2.out; omega) (by omega)⟩)
    obtain ⟨ua, uc, rfl⟩ := HV.out.at.slice
    by_cases hlt : j < l.length
    · have hltI : (j : Int) < (l.length : Int) := by omega
      obtain ⟨x, hx⟩ : ∃ x, l[j]? = some x := ⟨_, List.getElem?_eq_getElem hlt⟩
      obtain ⟨g, off, v1, v2, rfl, hgs, _, hc, hu⟩ := HA.out.elem hx
      obtain ⟨d0, d1, d2, d3⟩ := hc wr HWB.out
      have hgw : g < wr.heap.size := Nat.lt_of_lt_of_le hgs HWB.out.size
      have HU := Lib.hid hu
      have HX := Lib.hid (lst_nodes hx)
      clear hc hu hx hgs
      go_upto_region 5 with (fail)
      have hal : Below wr.heap.size wr (wr.alloc (.cells #[.int .i64 x.kind, .int .i64 x.num, .string x.name, .slice v1 x.args.length v2] 25)) := belowAlloc (Below.refl _ _) _
      have HX7 := Lib.hid (heap_new wr (.cells #[.int .i64 x.kind, .int .i64 x.num, .string x.name, .slice v1 x.args.length v2] 25))
      have HB5 := Lib.hid (HBX.out.kept hal)
      have HV5 := Lib.hid ((HV.out.kept hal).sub (S' := fun i => i < (wr.alloc (.cells #[.int .i64 x.kind, .int .i64 x.num, .string x.name, .slice v1 x.args.length v2] 25)).heap.size ∧ i ≠ w.heap.size + 2) fun i hi => ⟨Nat.lt_of_lt_of_le hi.1 hal.size, hi.2⟩)
      have HO5 := Lib.hid (HO.out.trans (Only.of_below (S := fun i => i = w.heap.size + 2) hal))
      have HW5 := Lib.hid (belowOn HWB.out (Nat.le_refl _) hal)
      clear hal d0 d1 d2 d3 HBX HV HO HWB hgw
      generalize hw5 : wr.alloc (.cells #[.int .i64 x.kind, .int .i64 x.num, .string x.name, .slice v1 x.args.length v2] 25) = w5 at HX7 HB5 HV5 HO5 HW5 ⊢
      clear hw5
      generalize wr.heap.size = nx at HX7 ⊢
      obtain ⟨e0, e1, e2, e3, _⟩ := box_cells HX7.out
      obtain ⟨c0, c1, c2, c3, _⟩ := box_cells HB5.out.ft
      have z1 := (Array.getElem?_eq_some_iff.1 HX7.out).1
      have z2 := (Array.getElem?_eq_some_iff.1 HB5.out.ft).1
      have HC := Lib.hid (pairOf_any x.kind x.num x.name v1 x.args.length v2 (lstT (l.take j)).kind (lstT (l.take j)).num (lstT (l.take j)).name ua (lstT (l.take j)).args.length uc w5)
      go_wp2_with fail
      refine HC.out.mono ?_
      rintro e w6 ⟨gp, rfl, hp1, hp2, hp3, hb⟩
      have HB6 := Lib.hid (HB5.out.kept hb)
      have HO6 := Lib.hid (HO5.out.trans (Only.of_below (S := fun i => i = w.heap.size + 2) hb))
      have HZ5 : Hid (w.heap.size + 2 < w5.heap.size ∧ w.heap.size ≤ w5.heap.size) := Lib.hid ⟨z2, by omega⟩
      have HA6 : Hid (ArgsS w6 (fun i => i < w6.heap.size ∧ i ≠ w.heap.size + 2) (.slice (some ⟨gp, 0, none⟩) 2 2) [x, lstT (l.take j)]) := Lib.hid (by
        have s5 := hb.size
        refine argsS_pair hp3 hp2 ⟨hp2, by have := HZ5.out.1; omega⟩ ?_ ((HV5.out.kept hb).sub fun i hi => ⟨by have := hi.1; omega, hi.2⟩)
        exact ((HU.out.kept (belowOn HW5.out (Nat.le_refl _) hb)).sub fun i hi => ⟨by have := HW5.out.size; have h : i < w.heap.size := hi; omega, by have h : i < w.heap.size := hi; omega⟩))
      clear hb hp1 hp2 hp3 HC e0 e1 e2 e3 c0 c1 c2 c3 z1 z2 HX7 HB5 HV5 HO5 HW5
      obtain ⟨c0, c1, c2, c3, cf⟩ := box_cells HB6.out.ft
      have z2 := (Array.getElem?_eq_some_iff.1 HB6.out.ft).1
      go_wp2
      have HST := Lib.hid (storeT (w := w6) (b := w.heap.size + 1 + 1) HB6.out.ft (.int .i64 4) (.int .i64 0) (.string ⟨#[]⟩) (.slice (some ⟨gp, 0, none⟩) 2 2))
      clear c0 c1 c2 c3 cf z2
      generalize hw7 : ((((w6.setCell ⟨w.heap.size + 1 + 1, 0, none⟩ (.int .i64 4)).setCell ⟨w.heap.size + 1 + 1, 1, none⟩ (.int .i64 0)).setCell ⟨w.heap.size + 1 + 1, 2, none⟩ (.string ⟨#[]⟩)).setCell ⟨w.heap.size + 1 + 1, 3, none⟩ (.slice (some ⟨gp, 0, none⟩) 2 2)) = w7 at HST ⊢
      clear hw7
      go_roundw
      case rel =>
        have ho : Only (fun i => i = w.heap.size + 2) w6 w7 := HST.out.2
        refine ⟨j + 1, .slice (some ⟨gp, 0, none⟩) 2 2, by omega, by go_num, Lib.hid ?_, Lib.hid ?_, Lib.hid (HO6.out.trans ho)⟩
        · rw [HX.out]
          exact ⟨(ho.block _ (Array.getElem?_eq_some_iff.1 HB6.out.fg).1 (by omega)).trans HB6.out.fg, (ho.block _ (Array.getElem?_eq_some_iff.1 HB6.out.fr).1 (by omega)).trans HB6.out.fr, HST.out.1⟩
        · rw [HX.out]
          exact (HA6.out.frame ho.size fun i hi _ => ho.block i hi.1 hi.2).sub fun i hi => ⟨Nat.lt_of_lt_of_le hi.1 ho.size, hi.2⟩
      case measure => simp [intOf]; omega
    · obtain rfl : j = l.length := by omega
      rw [List.take_length] at HBX HV
      have hrm : Only (fun i => i = w.heap.size + 2) w1 wr := HO.out
      have HSR := Lib.hid (HS.out.off hrm (by have := HLT.out.1; omega) (by have := HLT.out.2; omega))
      have HOK : Hid (Good (lstT l)) := Lib.hid (lst_good HG.out)
      have HVA := Lib.hid HV.out.at
      have HLTR : Hid (b < w.heap.size ∧ b2 < w.heap.size) := Lib.hid HLT.out
      have HWR : Hid (Only (fun i => i = b ∨ i = b2) w wr) := Lib.hid ⟨hrm.os.trans HB.out.os, hrm.tape.trans HB.out.tape, hrm.output.trans HB.out.output, Nat.le_trans HB.out.size hrm.size, fun i hi _ => (hrm.block i (Nat.lt_of_lt_of_le hi HB.out.size) (by omega)).trans (HB.out.block i hi)⟩
      have HLL : Hid (∀ x ∈ k, x.length = l.length) := Lib.hid HN.out.2.2.1
      have HEN : Hid (∀ (ν1 : Tm → Option Nat) (n1 m i n' : Nat) (G' : Int → Option Nat), NumP ν1 n1 → VarsN ν1 k G → ν1 (lstT l) = some m → NumIn G k.length (m : Int) i G' n' → i = idxL k l ∧ n' = (kAdd k l).length ∧ VarsN ν1 (kAdd k l) G') := Lib.hid fun ν1 n1 m i n' G' h1 h2 h3 h4 => vars_end h1 h2 HLL.out h3 h4
      clear HS HA HV HO hrm HB
      have HRES : Hid (∀ e W, VarR b b2 l n k w e W = VarR b b2 l n k w e W) := Lib.hid fun _ _ => rfl
      have hself : Below wr.heap.size wr wr := Below.refl _ _
      have hdrew : Below wr.heap.size wr wr.drew := hself.drew
      have HCE : Hid (∀ W, Below wr.heap.size wr W → W.cell? ⟨w.heap.size, 0, none⟩ = some (.map (some b)) ∧ W.cell? ⟨w.heap.size, 1, none⟩ = some (.map (some b2)) ∧ W.cell? ⟨w.heap.size + 2, 0, none⟩ = some (.int .i64 (lstT l).kind) ∧ W.cell? ⟨w.heap.size + 2, 1, none⟩ = some (.int .i64 (lstT l).num) ∧ W.cell? ⟨w.heap.size + 2, 2, none⟩ = some (.string (lstT l).name) ∧ W.cell? ⟨w.heap.size + 2, 3, none⟩ = some (.slice ua (lstT l).args.length uc)) := Lib.hid fun W hW => (HBX.out.kept hW).cells
      have HC1 : Hid (∀ W, Below wr.heap.size wr W → Calls Try.prog 63 #[.map (some b), .agg #[.int .i64 (lstT l).kind, .int .i64 (lstT l).num, .string (lstT l).name, .slice ua (lstT l).args.length uc]] W fun e wm => ∃ m : Nat, e = .returned (.int .i64 (m : Int)) ∧ (wm.cell? ⟨w.heap.size, 0, none⟩ = some (.map (some b)) ∧ wm.cell? ⟨w.heap.size, 1, none⟩ = some (.map (some b2)) ∧ wm.cell? ⟨w.heap.size + 2, 0, none⟩ = some (.int .i64 (lstT l).kind) ∧ wm.cell? ⟨w.heap.size + 2, 1, none⟩ = some (.int .i64 (lstT l).num) ∧ wm.cell? ⟨w.heap.size + 2, 2, none⟩ = some (.string (lstT l).name) ∧ wm.cell? ⟨w.heap.size + 2, 3, none⟩ = some (.slice ua (lstT l).args.length uc)) ∧
          Hid (∀ W, Below wm.heap.size wm W → Calls Try.prog 106 #[.map (some b2), .int .i64 (m : Int)] W fun e wn => e = .returned (.int .i64 ((idxL k l : Nat) : Int)) ∧ (wn.cell? ⟨w.heap.size, 0, none⟩ = some (.map (some b)) ∧ wn.cell? ⟨w.heap.size, 1, none⟩ = some (.map (some b2)) ∧ wn.cell? ⟨w.heap.size + 2, 0, none⟩ = some (.int .i64 (lstT l).kind) ∧ wn.cell? ⟨w.heap.size + 2, 1, none⟩ = some (.int .i64 (lstT l).num) ∧ wn.cell? ⟨w.heap.size + 2, 2, none⟩ = some (.string (lstT l).name) ∧ wn.cell? ⟨w.heap.size + 2, 3, none⟩ = some (.slice ua (lstT l).args.length uc)) ∧ Hid (BxV b b2 w.heap.size (lstT l) (.slice ua (lstT l).args.length uc) wn) ∧ Hid (∃ (ν' : Tm → Option Nat) (n' : Nat) (F' : Sh → Option Nat) (G' : Int → Option Nat), GenW b b2 ν' n' F' (kAdd k l) G' wn ∧ n' ≤ n + (lstT l).nodes ∧ Only (fun j => j = b ∨ j = b2) w wn))) := Lib.hid fun W hW => by
        have hSW := HSR.out.kept hW
        refine (numberOf_any b ((lstT l).nodes + 1) (lstT l) _ ν n F W (Nat.lt_succ_self _) (HVA.out.kept hW) HOK.out hSW.num hSW.tab hSW.shapes HN.out.1).mono ?_
        rintro e wm ⟨ν1, n1, F1, m, rfl, a1, a2, a3, a4, a5, a6, a7⟩
        have hT : ∀ j, j = b → j < W.heap.size → isMp W.heap[j]? := fun j hj _ => by rw [hj]; exact hSW.shapes.isMp
        have hBm := (HBX.out.kept hW).maps a7 hT
        have hvm : MapN 3 (Value.int .i64) wfI wm b2 k.length G := hSW.vars.frame (a7.block _ hSW.vars.lt fun e => HN.out.2.2.2 e.symm)
        have hm9 := (a1.good _ _ a6).2
        refine ⟨m, rfl, hBm.cells, Lib.hid fun W2 hW2 => ?_⟩
        refine (numberI_any b2 k.length G (m : Int) W2 (hvm.kept hW2) (wfI_of (by omega) (by have := HN.out.1; omega)) (by have := HN.out.2.1; omega)).mono ?_
        rintro e wn ⟨i, G', n', rfl, d1, d2, d3⟩
        obtain ⟨rfl, rfl, hv⟩ := HEN.out ν1 n1 m i n' G' a1 (hSW.tabV.ext a5) a6 d2
        have hT2 : ∀ j, j = b2 → j < W2.heap.size → isMp W2.heap[j]? := fun j hj _ => by rw [hj]; exact (hvm.kept hW2).isMp
        have hBn := (hBm.kept hW2).maps d3 hT2
        refine ⟨rfl, hBn.cells, Lib.hid hBn, Lib.hid ⟨ν1, n1, F1, G', ⟨a1, a2, (a3.kept hW2).frame (d3.block _ (a3.kept hW2).lt fun e => HN.out.2.2.2 e), d1, hv⟩, a4, ?_⟩⟩
        exact (((HWR.out.trans (Only.of_below hW)).trans (a7.sub fun j h => .inl h)).trans (Only.of_below hW2)).trans (d3.sub fun j h => .inr h)
      obtain ⟨k0, k1, k2, k3, k4, k5⟩ := HCE.out wr hself
      have y1 := (Array.getElem?_eq_some_iff.1 HBX.out.fg).1
      have y2 := (Array.getElem?_eq_some_iff.1 HBX.out.ft).1
      clear HSR HVA HOK HN HWR HLL HEN HRES HG
      go_upto_region 7 with (fail)
      have m1 : ¬ w.heap.size + 1 + 1 = w.heap.size := by omega
      have m2 : ¬ w.heap.size = w.heap.size + 1 + 1 := by omega
      refine wp_region_held_drew (S := (fun w' => w'.cell? ⟨w.heap.size, 0, none⟩ = some (.map (some b)) ∧ w'.cell? ⟨w.heap.size, 1, none⟩ = some (.map (some b2)) ∧ w'.cell? ⟨w.heap.size + 2, 0, none⟩ = some (.int .i64 (lstT l).kind) ∧ w'.cell? ⟨w.heap.size + 2, 1, none⟩ = some (.int .i64 (lstT l).num) ∧ w'.cell? ⟨w.heap.size + 2, 2, none⟩ = some (.string (lstT l).name) ∧ w'.cell? ⟨w.heap.size + 2, 3, none⟩ = some (.slice ua (lstT l).args.length uc))) (by kernel_rfl) (by (try dsimp only); go_keep) (fun hHeld => ?_)
      (refine wpAnyH_take (i := 0) (oi := ⟨_, _, _, _, _, _⟩) (v := ?_) rfl (by kernel_rfl) (by kernel_rfl) (by kernel_rfl) (fun _ _ _ h => h) (Or.inl ⟨by rfl, ?_⟩) (by assumption) ?_; rotate_left; focus ((intro w' hSw; (try dsimp only at hSw); go_simp; (try with_reducible rfl)))); (try simp only [Act.put, List.setIfInBounds_toArray, List.set_cons_zero, List.set_cons_succ])
      (refine wpAnyH_take (i := 1) (oi := ⟨_, _, _, _, _, _⟩) (v := ?_) rfl (by kernel_rfl) (by kernel_rfl) (by kernel_rfl) (fun _ _ _ h => h) (Or.inl ⟨by rfl, ?_⟩) (by assumption) ?_; rotate_left; focus ((intro w' hSw; (try dsimp only at hSw); go_simp; (try with_reducible rfl)))); (try simp only [Act.put, List.setIfInBounds_toArray, List.set_cons_zero, List.set_cons_succ])
      (refine wpAnyH_take (i := 2) (oi := ⟨_, _, _, _, _, _⟩) (v := ?_) rfl (by kernel_rfl) (by kernel_rfl) (by kernel_rfl) (fun _ _ _ h => h) (Or.inl ⟨by rfl, ?_⟩) (by assumption) ?_; rotate_left; focus ((intro w' hSw; (try dsimp only at hSw); go_simp; (try with_reducible rfl)))); (try simp only [Act.put, List.setIfInBounds_toArray, List.set_cons_zero, List.set_cons_succ])
      (refine wpAnyH_take (i := 3) (oi := ⟨_, _, _, _, _, _⟩) (v := ?_) rfl (by kernel_rfl) (by kernel_rfl) (by kernel_rfl) (fun _ _ _ h => h) (Or.inl ⟨by rfl, ?_⟩) (by assumption) ?_; rotate_left; focus ((intro w' hSw; (try dsimp only at hSw); go_simp; (try with_reducible rfl)))); (try simp only [Act.put, List.setIfInBounds_toArray, List.set_cons_zero, List.set_cons_succ])
      (refine wpAnyH_take (i := 4) (oi := ⟨_, _, _, _, _, _⟩) (v := ?_) rfl (by kernel_rfl) (by kernel_rfl) (by kernel_rfl) (fun _ _ _ h => h) (Or.inl ⟨by rfl, ?_⟩) (by assumption) ?_; rotate_left; focus ((intro w' hSw; (try dsimp only at hSw); go_simp; (try with_reducible rfl)))); (try simp only [Act.put, List.setIfInBounds_toArray, List.set_cons_zero, List.set_cons_succ])
      refine wpAnyH_ready (rs := [5]) (by kernel_rfl) (by simp) ?_
      refine AllReadyH.cons (o := ⟨_, _, _, _, _, _⟩) rfl (fun K hK => ?_) AllReadyH.nil
      go_simp
      (go_at_call 63; (with_reducible refine Calls.mono (HC1.out _ ?_) ?_); (assumption); rintro e wm ⟨m, rfl, ⟨k0, k1, k2, k3, k4, k5⟩, HC2⟩; have hm0 := Below.refl wm.heap.size wm)
      (try go_wp2_with fail)
      refine hK.out _ _ (by (try dsimp only); (first | go_keep | (refine ⟨by assumption, ?_⟩; go_keep))) (fun hHeld => ?_)
      clear hK K
      (try simp only [Act.put, List.setIfInBounds_toArray, List.set_cons_zero, List.set_cons_succ])
      refine wpAnyH_ready (rs := [6]) (by kernel_rfl) (by simp) ?_
      refine AllReadyH.cons (o := ⟨_, _, _, _, _, _⟩) rfl (fun K hK => ?_) AllReadyH.nil
      go_simp
      (go_at_call 106; (with_reducible refine Calls.mono (HC2.out _ ?_) ?_); (assumption); rintro e wn ⟨rfl, ⟨k0, k1, k2, k3, k4, k5⟩, HBN, HFIN⟩; obtain ⟨s0, s1, s2, s3, sf⟩ := box_cells HBN.out.fr; have y5 := (Array.getElem?_eq_some_iff.1 HBN.out.fr).1)
      (try go_wp2_with fail)
      refine hK.out _ _ (by (try dsimp only); (first | go_keep | (refine ⟨by assumption, ?_⟩; go_keep))) (fun hHeld => ?_)
      clear hK K
      (try simp only [Act.put, List.setIfInBounds_toArray, List.set_cons_zero, List.set_cons_succ])
      (refine wpAnyH_take (i := 7) (oi := ⟨_, _, _, _, _, _⟩) (v := ?_) rfl (by kernel_rfl) (by kernel_rfl) (by kernel_rfl) (fun _ _ _ h => h) (Or.inl ⟨by rfl, ?_⟩) (by assumption) ?_; rotate_left; focus ((intro w' hSw; (try dsimp only at hSw); go_simp; (try with_reducible rfl)))); (try simp only [Act.put, List.setIfInBounds_toArray, List.set_cons_zero, List.set_cons_succ])
      refine wpAnyH_ready (rs := [8]) (by kernel_rfl) (by simp) ?_
      refine AllReadyH.cons (o := ⟨_, _, _, _, _, _⟩) rfl (fun K hK => ?_) AllReadyH.nil
      go_simp
      skip
      (try go_wp2_with fail)
      refine hK.out _ _ (by (try dsimp only); (first | go_keep | (refine ⟨by assumption, ?_⟩; go_keep))) (fun hHeld => ?_)
      clear hK K
      (try simp only [Act.put, List.setIfInBounds_toArray, List.set_cons_zero, List.set_cons_succ])
      refine wpAnyH_done (by kernel_rfl) ?_ _
      have HFB := HBN
      clear s0 s1 s2 s3 sf y5 hHeld k0 k1 k2 k3 k4 k5
      go_wp2
      refine bodyPost_four (p := 4) (b := w.heap.size + 1) rfl rfl rfl Try.underlying25 rfl (by kernel_rfl) HBN.out.fr fun w' hw => ?_
      obtain ⟨ν', n', F', G', r1, r2, r3⟩ := HFIN.out
      have hlt := HLTR.out
      refine ⟨ν', n', F', G', rfl, r1.off hw (by omega) (by omega), r2, ⟨hw.os.trans r3.os, hw.tape.trans r3.tape, hw.output.trans r3.output, Nat.le_trans r3.size hw.size, fun j hj hn => (hw.block j (Nat.lt_of_lt_of_le hj r3.size) (by omega)).trans (r3.block j hj hn)⟩⟩
end Go.Proofs.Ytoihimdfmncdoaa

