/-
  ParseTerms of the program.
  The model's l03ReadAll and ParseTerms.
  ParseTerm of both sides: the one term of a list of one.
-/
import Derived.Test.YtnbnepeikdieaaaDoorReaders
import Derived.Deep.LoopGhost
import Derived.Test.YtnbnepeikdieaaaDoorSpecReads
import Derived.Test.YtnbnepeikdieaaaDoorTokensSpec
namespace Go.Proofs.YtnbnepeikdieaaaDoor
open Go.RowKit
set_option linter.unusedVariables false
set_option linter.unusedSimpArgs false

theorem Rd.grown {w0 w w' : World} {p i cap : Nat} {sa : Option Addr} {T : List ByteArray} {r : Option Nat} (h : Rd w0 p sa cap T i w) (hg : w.grownBy w' r) (hne : ∀ k, r = some k → p < k) : Rd w0 p sa cap T i w' :=
  ⟨(hg.block p h.hi (fun e => by have := hne p e.symm; omega)).trans h.cell, h.toks, h.lo, h.old.trans (below_of_grown hg h.old.size (fun k hk => by have := hne k hk; have := h.lo; omega)), h.le, h.most⟩
theorem pt_none {s : ByteArray} (h : ptO s = none) : ptT s = [] ∧ ptB s = false := by rw [ptT, ptB, h]; exact ⟨rfl, rfl⟩
theorem pt_some {s : ByteArray} {l : List Tm} (h : ptO s = some l) : ptT s = l ∧ ptB s = true := by rw [ptT, ptB, h]; exact ⟨rfl, rfl⟩
theorem ptO_bad {s : ByteArray} (h : (tokensOf s).2 = false) : ptO s = none := by rw [ptO, h]; rfl
theorem ptO_ok {s : ByteArray} (h : (tokensOf s).2 = true) : ptO s = termsP (3 * (tokensOf s).1.length + 1) (tokensOf s).1 := by rw [ptO, h]; rfl
theorem terms_none {k : Nat} {T : List ByteArray} (h : allP k T T.length 0 = none) : termsP k T = none := by rw [termsP, h]
theorem terms_long {k : Nat} {T : List ByteArray} {l : List Tm} (h : allP k T T.length 0 = some l) (hl : 40 < l.length) : termsP k T = none := by rw [termsP, h]; simp only [if_neg (show ¬ l.length ≤ 40 by omega)]
theorem terms_some {k : Nat} {T : List ByteArray} {l : List Tm} (h : allP k T T.length 0 = some l) (hl : l.length ≤ 40) : termsP k T = some l := by rw [termsP, h]; simp only [if_pos hl]

end Go.Proofs.YtnbnepeikdieaaaDoor

namespace Go.Proofs.YtnbnepeikdieaaaDoor
open Go.RowKit
set_option linter.unusedVariables false
set_option linter.unusedSimpArgs false

theorem validS_none {k i : Nat} {T : List ByteArray} (h : anyP leafS k T i = none) : validP k T i = none := by
  cases h2 : anyP leafI k T i with
  | none => exact valid_none h2
  | some p =>
    obtain ⟨t, j⟩ := p
    exact valid_bad h2 (okB_false.2 fun hok => ((read_same T k).1 i).no h h2 hok.2)
theorem validS_some {k i j : Nat} {T : List ByteArray} {t : Tm} (h : anyP leafS k T i = some (t, j)) : anyP leafI k T i = some (t, j) := (((read_same T k).1 i) t j).1 h |>.1
/-- The model's list: what is read, or nothing. -/
def OldL (l : List Tm) (b : Bool) (w : World) (e : Ending) (w' : World) : Prop := ∃ v, e = .returned (.tuple #[v, .bool b]) ∧ ArgsS w' (iv w.heap.size w'.heap.size) v l ∧ Below w.heap.size w w'

set_option maxHeartbeats 4000000 in
set_option maxRecDepth 100000 in
theorem specReadAll_any (sa : Option Addr) (cap : Nat) (T : List ByteArray) (hT : ∀ x ∈ T, x.size ≤ 1048576) (hTl : T.length ≤ 20000) (w : World) (ht : Toks w sa T) (A : Option (List Tm)) (hA : A = allP (3 * T.length + 1) T T.length 0) :
    Calls Tryd.prog 26 #[.slice sa T.length cap] w (fun e w' => (∃ l, A = some l ∧ l.length ≤ T.length ∧ OldL l true w e w') ∨ (A = none ∧ OldL [] false w e w')) := by
  obtain ⟨i0, hi0, hz0, hz1, hz2⟩ := info_parts infoTerm
  have HII := Lib.hid (And.intro hi0 (And.intro hz0 (And.intro hz1 hz2)))
  have HTT := Lib.hid hT
  have HT0 := Lib.hid ht
  have HCM := Lib.hid (come_start (3 * T.length + 1) T)
  rw [← hA] at HCM
  have HE0 := Lib.hid (at_box w #[] 43)
  have HRW : Hid (RowS (w.alloc (.cells #[] 43)) w.heap.size (.slice (some ⟨w.heap.size, 0, none⟩) 0 0) []) := Lib.hid ⟨[], rfl, ⟨rfl, .inr ⟨w.heap.size, 0, #[], rfl, by omega, HE0.out.now, Nat.le_refl _, Nat.zero_le _, rfl, rfl⟩⟩, fun j p hj => by simp at hj⟩
  have HW : Hid (Below w.heap.size w (w.alloc (.cells #[] 43))) := Lib.hid (belowAlloc (Below.refl _ _) _)
  clear hi0 hz0 hz1 hz2 hT ht hA HE0
  go_enter Tryd.func26, Tryd.ntmps26
  go_upto_region 3 with (fail)
  generalize hw0 : w.alloc (.cells #[] 43) = w0 at HRW HW ⊢
  clear hw0
  go_loopg [4, 5] (T.length + 1) (fun gh lv iv wr => ∃ (xs : List Tm) (i : Nat), T.length - i ≤ gh ∧ iv = .int .i64 i ∧ i ≤ T.length ∧ xs.length ≤ i ∧ Hid (Come (3 * T.length + 1) T A xs i) ∧ Hid (RowS wr w.heap.size lv xs) ∧ Hid (Below w.heap.size w wr))
  case atStart => exact ⟨[], 0, by omega, by go_num, by omega, Nat.zero_le _, HCM, HRW, HW⟩
  case round =>
    obtain ⟨xs, m, hgh, rfl, hm, hxm, HF, HO, HWr⟩ := hrel
    obtain ⟨xa, xc, rfl⟩ := HO.out.slice
    clear HCM HRW HW
    by_cases he : m < T.length
    · have HTK := Lib.hid (HT0.out.kept HWr.out)
      have hne : ¬ T.length ≤ m := by omega
      have HC := Lib.hid (specRead_any sa cap T HTT.out (by omega) (T.length + 1) (3 * T.length + 1) m wr (by omega) hm HTK.out (by omega))
      have hi1 : (m : Int) < (T.length : Int) := by omega
      clear HTK
      go_wp2_with fail
      refine HC.out.mono ?_
      rintro e wC ⟨⟨y, j, ua, uc, hy, rfl, hu⟩ | ⟨hy, mm, rfl⟩, ho⟩
      · have hy2 := validS_some hy
        have hrk := (read_ok T (3 * T.length + 1)).1 _ _ _ hy2
        have hmj := hrk.1
        have hjl := (read_le leafI T (3 * T.length + 1)).1 _ _ _ hy2
        have hyz : y.sz ≤ 1048576 := by have h1 := hrk.2.1; have h2 := hrk.2.2; omega
        have HY2 := Lib.hid hy2
        have HMID : Hid (∀ k, (Value.slice xa xs.length xc).ownBlock = some k → w.heap.size ≤ k ∧ k < wr.heap.size) := Lib.hid (by
          obtain ⟨L, hL, hrow, _⟩ := HO.out
          exact fun k hk => World.ownsRow.lt hrow k hk)
        have hlow : w.heap.size ≤ wr.heap.size := HWr.out.size
        have hsC := ho.size
        have hal : Below wC.heap.size wC (wC.alloc (.cells #[.int .i64 y.kind, .int .i64 y.num, .string y.name, .slice ua y.args.length uc] 43)) := belowAlloc (Below.refl _ _) _
        have hbb := belowOn ho (Nat.le_refl _) hal
        replace HO := Lib.hid (HO.out.frame hbb.size (fun k _ hks => hbb.block k hks))
        replace HWr := Lib.hid (belowOn HWr.out (Nat.le_refl _) hbb)
        have HU := Lib.hid ((hu.kept hal).sub (S' := iv wr.heap.size (wC.alloc (.cells #[.int .i64 y.kind, .int .i64 y.num, .string y.name, .slice ua y.args.length uc] 43)).heap.size) fun k hk => ⟨hk.1, by have := hk.2; simp; omega⟩)
        have HY := Lib.hid (at_box wC #[.int .i64 y.kind, .int .i64 y.num, .string y.name, .slice ua y.args.length uc] 43)
        have hsD : (wC.alloc (.cells #[.int .i64 y.kind, .int .i64 y.num, .string y.name, .slice ua y.args.length uc] 43)).heap.size = wC.heap.size + 1 := by simp
        clear hu ho hal hbb hy hy2 hrk HC
        go_upto_region 5 with (fail)
        generalize hw4 : wC.alloc (.cells #[.int .i64 y.kind, .int .i64 y.num, .string y.name, .slice ua y.args.length uc] 43) = w4 at HO HWr HU HY hsD ⊢
        clear hw4
        have HSD := Lib.hid hsD
        clear hsD
        have HOK := Lib.hid (specTermOk_any y _ w4 HU.out.at hyz)
        obtain ⟨c0, c1, c2, c3⟩ := HY.out.cells
        have z0 := HY.out.le
        go_wp2_with fail
        refine HOK.out.mono ?_
        rintro e w5 ⟨rfl, hb⟩
        replace HO := Lib.hid (HO.out.frame hb.size (fun k _ hks => hb.block k hks))
        replace HWr := Lib.hid (belowOn HWr.out (Nat.le_refl _) hb)
        have hs5 := hb.size
        replace HU := Lib.hid ((HU.out.kept hb).sub (S' := iv wr.heap.size w5.heap.size) fun k hk => ⟨hk.1, by have := hk.2; omega⟩)
        replace HY := Lib.hid (HY.out.read hb)
        clear hb HOK c0 c1 c2 c3 z0
        cases hok : okB y with
        | false =>
          have HQ := Lib.hid (come_no HF.out hne (valid_bad HY2.out hok))
          clear hok
          go_wp2
          go_ret2
          exact .inr ⟨HQ.out, _, rfl, .nil _ _, HWr.out⟩
        | true =>
          have HLX := Lib.hid (come_step HF.out hne (valid_yes HY2.out hok) hmj)
          clear hok HY2 HF
          go_upto_region 7 with (fail)
          obtain ⟨L, hL, hrow, hch⟩ := HO.out
          have hLn : xs.length = L.length := by rw [← hL, List.length_map]
          rw [← hLn] at hrow
          have HROW := Lib.hid hrow
          have HPA := Lib.hid (And.intro hL (And.intro hLn hch))
          clear hL hLn hrow hch HO
          obtain ⟨c0, c1, c2, c3⟩ := HY.out.cells
          have z0 := HY.out.le
          have HS5 := Lib.hid hs5
          clear hs5
          go_wp2_with (at_builtin; refine wpList_append_lies _ rfl _ _ 41 rfl w.heap.size 43 i0 _ 4 56 Tryd.underlying41 HII.out.1 HII.out.2.1 HII.out.2.2.1 HII.out.2.2.2 rfl (by omega) (.slice xa xs.length xc) xs.length (cellsL L) rfl (HROW.out.alloc _) ⟨w5.heap.size, 0, none⟩ 1 1 (cells4 y (.slice ua y.args.length uc)) rfl rfl (World.news_of_block (heap_alloc_new w5 _)) (by simp [cells4, Value.oneCell']) (by omega) (by unfold maxLen; omega) (by omega) (by simp; omega) (w5.heap.size + 1) (by simp) ?_; intro gg cap' w1' hown1 hgrow hat hlt1; have HAP := Lib.hid (And.intro hown1 (And.intro hgrow (And.intro hat hlt1))); clear hown1 hgrow hat hlt1)
          have hs5 := HS5.out
          have hsD := HSD.out
          have hgs := HAP.out.2.1.size
          simp only [World.size_alloc] at hgs
          have HO1 : Hid (RowS w1' w.heap.size (.slice (some ⟨gg, 0, none⟩) (xs.length + 1) cap') (xs ++ [y])) := Lib.hid (by
            have h := rowS_append (mid := wr.heap.size) HPA.out.2.1 HROW.out HPA.out.2.2 HU.out (fun k hk => (HMID.out k hk).2) (by omega) (belowAlloc (Below.refl _ _) _) HAP.out.1 HAP.out.2.1 (HAP.out.2.2.1.imp id (fun h => by omega))
            rw [HPA.out.1] at h
            exact h)
          have hal5 : Below w5.heap.size w5 (w5.alloc (.cells #[.int .i64 y.kind, .int .i64 y.num, .string y.name, .slice ua y.args.length uc] 43)) := belowAlloc (Below.refl _ _) _
          have HW1 := Lib.hid ((belowOn HWr.out (Nat.le_refl _) hal5).trans (below_of_grown HAP.out.2.1 (belowOn HWr.out (Nat.le_refl _) hal5).size (fun k hk => by have := (HMID.out k hk).1; omega)))
          clear HROW HPA HU HAP HWr HY c0 c1 c2 c3 z0 hal5
          go_wp2
          go_roundg (T.length - j)
          case rel => exact ⟨xs ++ [y], j, Nat.le_refl _, by simp, hjl, by simp; omega, HLX, by simpa using HO1, HW1⟩
          case measure => omega
      · have HQ := Lib.hid (come_no HF.out hne (validS_none hy))
        have HNIL := Lib.hid (belowOn HWr.out (Nat.le_refl _) (belowOn ho (Nat.le_refl _) (belowAlloc (Below.refl _ _) (.cells #[.int .i64 0, .int .i64 0, .string ⟨#[]⟩, .slice none 0 0] 43))))
        clear ho hy HC HF HO HWr
        go_wp2
        go_ret2
        exact .inr ⟨HQ.out, _, rfl, .nil _ _, HNIL.out⟩
    · have HQ := Lib.hid (come_end HF.out (by omega))
      have hi1 : ¬ (m : Int) < (T.length : Int) := by omega
      clear HF
      go_wp2
      go_ret2
      exact .inl ⟨xs, HQ.out, by omega, _, rfl, HO.out.args, HWr.out⟩

end Go.Proofs.YtnbnepeikdieaaaDoor

namespace Go.Proofs.YtnbnepeikdieaaaDoor
open Go.RowKit
set_option linter.unusedVariables false
set_option linter.unusedSimpArgs false

theorem all_szL (K : Nat) (T : List ByteArray) : ∀ (n i : Nat) (l : List Tm), allP K T n i = some l → szL l ≤ 26 * (T.length - i)
  | 0, i, l, h => by rw [allP] at h; cases h; exact Nat.zero_le _
  | n + 1, i, l, h => by
    rw [allP] at h
    split at h
    · cases h; exact Nat.zero_le _
    · split at h
      · cases h
      · rename_i t j hv
        split at h
        · cases h
        · rename_i l' hl
          cases h
          have h1 := all_szL K T n j l' hl
          have h2 := (read_ok T K).1 _ _ _ (valid_inv hv).1
          have h3 := (read_le leafI T K).1 _ _ _ (valid_inv hv).1
          have h4 := h2.1
          have h5 := h2.2.1
          have h6 := h2.2.2
          rw [szL]
          omega
theorem pt_szL (s : ByteArray) : szL (ptT s) ≤ 1048576 := by
  unfold ptT
  cases h : ptO s with
  | none => exact Nat.zero_le _
  | some l =>
    show szL l ≤ 1048576
    have hb := (tokens_bounds s).1
    unfold ptO at h
    split at h
    · unfold termsP at h
      split at h
      · cases h
      · rename_i l' hl
        split at h
        · cases h
          have := all_szL _ _ _ _ _ hl
          omega
        · cases h
    · cases h
theorem pt_len (s : ByteArray) : (ptT s).length ≤ 40 := by
  unfold ptT
  cases h : ptO s with
  | none => exact Nat.zero_le _
  | some l =>
    show l.length ≤ 40
    unfold ptO at h
    split at h
    · unfold termsP at h
      split at h
      · cases h
      · split at h
        · rename_i h40
          cases h
          exact h40
        · cases h
    · cases h
theorem pt_false {s : ByteArray} (h : ptB s = false) : ptT s = [] := by
  unfold ptB at h
  unfold ptT
  cases ho : ptO s with
  | none => rfl
  | some l => rw [ho] at h; cases h

noncomputable def p1T (s : ByteArray) : Tm := match ptT s with | [t] => t | _ => zeroTm
noncomputable def p1B (s : ByteArray) : Bool := match ptT s with | [_] => true | _ => false
theorem p1_one {s : ByteArray} {t : Tm} (h : ptT s = [t]) : p1T s = t ∧ p1B s = true := by unfold p1T p1B; rw [h]; exact ⟨rfl, rfl⟩
theorem p1_no {s : ByteArray} (h : ¬ (ptT s).length = 1) : p1T s = zeroTm ∧ p1B s = false := by
  unfold p1T p1B
  match hl : ptT s with
  | [] => exact ⟨rfl, rfl⟩
  | [t] => rw [hl] at h; exact absurd rfl h
  | _ :: _ :: _ => exact ⟨rfl, rfl⟩
theorem p1_sz (s : ByteArray) : (p1T s).sz ≤ 1048576 := by
  have h := pt_szL s
  by_cases h1 : (ptT s).length = 1
  · obtain ⟨t, ht⟩ := List.length_eq_one_iff.1 h1
    rw [(p1_one ht).1]
    rw [ht, szL] at h
    omega
  · rw [(p1_no h1).1, zeroTm, Tm.sz, szL]
    exact Nat.zero_le _
theorem Own.one {w : World} {e : TypeId} {S : Nat → Prop} {v : Value} {t : Tm} (h : Own w e S v [t]) :
    ∃ g cap x c, v = .slice (some ⟨g, 0, none⟩) 1 cap ∧ S g ∧ g < w.heap.size ∧ (w.cell? ⟨g, 0, none⟩ = some (.int .i64 t.kind) ∧ w.cell? ⟨g, 1, none⟩ = some (.int .i64 t.num) ∧ w.cell? ⟨g, 2, none⟩ = some (.string t.name) ∧ w.cell? ⟨g, 3, none⟩ = some (.slice x t.args.length c)) ∧ Own w e S (.slice x t.args.length c) t.args := by
  cases h with
  | row S g n cap L C l hl hn hg hown hr hC hd =>
    match L, hl, hn with
    | [(a, V)], hl, hn =>
      simp at hl
      subst hl
      subst hn
      have h0 := hr 0 (t, V) rfl
      have h1 : Own w e S V t.args := h0.sub fun k hk => (hC 0 k (by simp) hk).1
      obtain ⟨x, c, rfl⟩ := h1.argsAt.slice
      have cc : ∀ i v, (cells4 t (.slice x t.args.length c))[i]? = some v → w.cell? ⟨g, i, none⟩ = some v := fun i v hv => by
        have hi : i < 4 := by have := (List.getElem?_eq_some_iff.1 hv).1; simpa [cells4] using this
        rw [World.ownsRow.cellAt hown _ (by simpa using hi)]
        have := cellsL_at (L := [(t, .slice x t.args.length c)]) (j := 0) rfl hv
        simpa using this
      exact ⟨g, cap, x, c, rfl, hg, row_hit hown, ⟨cc 0 _ rfl, cc 1 _ rfl, cc 2 _ rfl, cc 3 _ rfl⟩, h1⟩
    | [], hl, hn => simp at hl
    | _ :: _ :: _, hl, hn => simp at hl

/-- A term that can be read, and whether. -/
def SOld2 (t : Tm) (b : Bool) (w : World) (e : Ending) (w' : World) : Prop := ∃ u, e = .returned (.tuple #[.agg #[.int .i64 t.kind, .int .i64 t.num, .string t.name, u], .bool b]) ∧ ArgsAt w' u t.args ∧ Below w.heap.size w w'

end Go.Proofs.YtnbnepeikdieaaaDoor

