/-
  ParseTerms of the program.
-/
import Derived.Test.YtokndpmoamjbfaaDoorValid
import Derived.Deep.LoopGhost
namespace Go.Proofs.YtokndpmoamjbfaaDoor
open Go.RowKit
set_option linter.unusedVariables false
set_option linter.unusedSimpArgs false

theorem Rd.grown {w0 w w' : World} {p i cap : Nat} {sa : Option Addr} {T : List ByteArray} {r : Option Nat} (h : Rd w0 p sa cap T i w) (hg : w.grownBy w' r) (hne : ∀ k, r = some k → p < k) : Rd w0 p sa cap T i w' :=
  ⟨(hg.block p h.hi (fun e => by have := hne p e.symm; omega)).trans h.cell, h.toks, h.lo, h.old.trans (below_of_grown hg h.old.size (fun k hk => by have := hne k hk; have := h.lo; omega)), h.le, h.most⟩
theorem pt_none {s : ByteArray} (h : ptO s = none) : ptT s = [] ∧ ptB s = false := by rw [ptT, ptB, h]; exact ⟨rfl, rfl⟩
theorem pt_some {s : ByteArray} {l : List Tm} (h : ptO s = some l) : ptT s = l ∧ ptB s = true := by rw [ptT, ptB, h]; exact ⟨rfl, rfl⟩
theorem ptO_bad {s : ByteArray} (h : (tokensOf s).2 = false) : ptO s = none := by rw [ptO, h]; rfl
theorem ptO_ok {s : ByteArray} (h : (tokensOf s).2 = true) : ptO s = termsP (3 * (tokensOf s).1.length + 1) (tokensOf s).1 := by rw [ptO, h]; rfl
theorem terms_none {k : Nat} {T : List ByteArray} (h : allP k T T.length 0 = none) : termsP k T = none := by rw [termsP, h]
theorem terms_long {k : Nat} {T : List ByteArray} {l : List Tm} (h : allP k T T.length 0 = some l) (hl : 40 < l.length) : termsP k T = none := by rw [termsP, h]; simp only [if_neg (show ¬ l.length ≤ 40 by omega)]
theorem terms_some {k : Nat} {T : List ByteArray} {l : List Tm} (h : allP k T T.length 0 = some l) (hl : l.length ≤ 40) : termsP k T = some l := by rw [termsP, h]; simp only [if_pos hl]

set_option maxRecDepth 100000 in
set_option maxHeartbeats 4000000 in
theorem implParseTerms_any (s : ByteArray) (w : World) (hf : TabErrs w) (hs : s.size ≤ 1048576) :
    Calls Tryd.prog 11 #[.string s] w (NewL (ptT s) (ptB s) w) := by
  obtain ⟨i0, hi0, hz0, hz1, hz2⟩ := info_parts infoTerm
  have HII := Lib.hid (And.intro hi0 (And.intro hz0 (And.intro hz1 hz2)))
  have HF := Lib.hid hf
  have HC := Lib.hid (implTokens_any s w hs)
  have HTB := Lib.hid (tokens_bounds s)
  have HBAD := Lib.hid (fun h => pt_none (ptO_bad (s := s) h))
  have HOKN := Lib.hid (fun (h : (tokensOf s).2 = true) (h2 : termsP (3 * (tokensOf s).1.length + 1) (tokensOf s).1 = none) => pt_none ((ptO_ok h).trans h2))
  have HOKS := Lib.hid (fun (l : List Tm) (h : (tokensOf s).2 = true) (h2 : termsP (3 * (tokensOf s).1.length + 1) (tokensOf s).1 = some l) => pt_some ((ptO_ok h).trans h2))
  generalize ptT s = rl at HBAD HOKN HOKS ⊢
  generalize ptB s = rb at HBAD HOKN HOKS ⊢
  generalize tokensOf s = pp at HC HTB HBAD HOKN HOKS
  obtain ⟨T, ok⟩ := pp
  clear hi0 hz0 hz1 hz2 hf
  go_enter Tryd.func11, Tryd.ntmps11
  go_wp2_with fail
  refine HC.out.mono ?_
  rintro e w1 ⟨v, rfl, hrow, hb⟩
  have HB := Lib.hid hb
  have HF1 := Lib.hid (tabErrs_after HF.out hb)
  have hs1 := hb.size
  obtain ⟨sa, cap, rfl, hv⟩ := hrow.vals
  rw [List.length_map]
  have HV := Lib.hid hv
  clear hrow hb hv HC HF
  cases ok with
  | false =>
    obtain ⟨rfl, rfl⟩ := HBAD.out (by simp)
    clear HBAD HOKN HOKS
    go_wp2
    go_ret2
    exact ⟨_, rfl, .nil _, HB.out⟩
  | true =>
    have htl := HTB.out.1
    have HTS := Lib.hid HTB.out.2
    have HN := Lib.hid (fun (h : termsP (3 * T.length + 1) T = none) => HOKN.out (by simp) h)
    have HS := Lib.hid (fun (l : List Tm) (h : termsP (3 * T.length + 1) T = some l) => HOKS.out l (by simp) h)
    have HRD : Hid (Rd w1 w1.heap.size sa cap T 0 (w1.alloc (.cells #[.slice sa T.length cap, .int .i64 0] 61))) := Lib.hid ⟨heap_alloc_new w1 _, by
        rcases HV.out with h | ⟨g, off, ha, hg, hc⟩
        · left; simpa using h
        · exact .inr ⟨g, off, ha, hg, fun j x hx => hc j (.string x) (by rw [List.getElem?_map, hx]; rfl)⟩, Nat.le_refl _, belowAlloc (Below.refl _ _) _, Nat.zero_le _, by omega⟩
    have HW : Hid (Below w.heap.size w (w1.alloc (.cells #[.slice sa T.length cap, .int .i64 0] 61))) := Lib.hid (belowOn HB.out (Nat.le_refl _) (belowAlloc (Below.refl _ _) _))
    have HCM := Lib.hid (come_start (3 * T.length + 1) T)
    have HTN := Lib.hid (@terms_none (3 * T.length + 1) T)
    have HTL := Lib.hid (fun (l : List Tm) => @terms_long (3 * T.length + 1) T l)
    have HTO := Lib.hid (fun (l : List Tm) => @terms_some (3 * T.length + 1) T l)
    generalize allP (3 * T.length + 1) T T.length 0 = A at HCM HTN HTL HTO
    have hsz2 : (w1.alloc (.cells #[.slice sa T.length cap, .int .i64 0] 61)).heap.size = w1.heap.size + 1 := by simp
    clear HBAD HOKN HOKS HTB HV HB
    go_wp2
    go_loopg [7] T.length (fun g s7 wr => ∃ (xs : List Tm) (i : Nat), T.length - i ≤ g ∧ xs.length ≤ 40 ∧ Hid (Come (3 * T.length + 1) T A xs i) ∧ Hid (Rd w1 w1.heap.size sa cap T i wr) ∧ Hid (Own wr 26 (iv (w1.heap.size + 1) wr.heap.size) s7 xs) ∧ Hid (Below w.heap.size w wr))
    case atStart => exact ⟨[], 0, by omega, Nat.zero_le _, HCM, HRD, Lib.hid (.nil _), HW⟩
    case round =>
      obtain ⟨xs, i, hg, h40, HC, HR, HO, HWr⟩ := hrel
      obtain ⟨xa, xc, rfl⟩ := HO.out.argsAt.slice
      clear HCM HRD HW hsz2
      have hil := HR.out.le
      have HE := Lib.hid (atEnd_any w1 w1.heap.size sa cap T i wr HR.out)
      go_wp2_with fail
      refine HE.out.mono ?_
      rintro e w2 ⟨rfl, hb⟩
      replace HR := Lib.hid (HR.out.below hb)
      replace HWr := Lib.hid (belowOn HWr.out (Nat.le_refl _) hb)
      replace HO := Lib.hid ((HO.out.kept hb).sub fun k hk => (⟨hk.1, by have := hk.2; have := hb.size; omega⟩ : iv (w1.heap.size + 1) w2.heap.size k))
      clear hb HE
      by_cases he : i = T.length
      · rw [decide_eq_true he]
        obtain ⟨rfl, rfl⟩ := HS.out xs (HTO.out xs (come_end HC.out (by omega)) h40)
        clear he
        go_wp2
        go_ret2
        exact ⟨_, rfl, HO.out.sub fun k hk => ⟨by have := hk.1; omega, hk.2⟩, HWr.out⟩
      · rw [decide_eq_false he]
        have hlt : ¬ T.length ≤ i := by omega
        have HVT := Lib.hid (validTerm_any w1 HF1.out w1.heap.size sa cap T HTS.out htl (3 * T.length + 1) i w2 (by omega) HR.out)
        have hp := HR.out.hi
        clear he
        go_wp2_with fail
        refine HVT.out.mono ?_
        rintro e w3 ⟨⟨x, j, ua, uc, hv, rfl, hown, hr⟩ | ⟨hv, rfl, j, hr⟩, ho⟩
        · have HU := Lib.hid hown
          have hij := (read_gt leafI T (3 * T.length + 1)).1 _ _ _ (valid_inv hv).1
          have HC2 := Lib.hid (come_step HC.out hlt hv hij)
          replace HO := Lib.hid (HO.out.frame fun k hk hks => ho.block k hks fun hh => by have h1 := hh.1; have h2 := hh.2; have h3 := hk.1; omega)
          replace HWr := Lib.hid (HWr.out.trans (ho.below (fun k hk => by have := hk.1; omega) HWr.out.size))
          replace HR := Lib.hid hr
          have hs3 := ho.size
          clear hown hr ho hv HVT HC
          by_cases hxl : xs.length = 40
          · obtain ⟨rfl, rfl⟩ : rl = [] ∧ rb = false := by
              cases hA : A with
              | none => exact HN.out (HTN.out hA)
              | some l =>
                have := come_long HC2.out hA
                simp at this
                exact HN.out (HTL.out l hA (by omega))
            have d : ((xs.length : Int) == 40) = true := by rw [hxl]; rfl
            have HNIL : Hid (Below w.heap.size w (w3.alloc (.cells #[.int .i64 x.kind, .int .i64 x.num, .string x.name, .slice ua x.args.length uc] 26))) := Lib.hid (belowOn HWr.out (Nat.le_refl _) (belowAlloc (Below.refl _ _) _))
            clear hxl
            go_wp2
            go_ret2
            exact ⟨_, rfl, .nil _, HNIL.out⟩
          · have d : ((xs.length : Int) == 40) = false := by rw [beq_eq_false_iff_ne]; omega
            have hal : Below w3.heap.size w3 (w3.alloc (.cells #[.int .i64 x.kind, .int .i64 x.num, .string x.name, .slice ua x.args.length uc] 26)) := belowAlloc (Below.refl _ _) _
            go_upto_region 8 with (fail)
            have HBX := Lib.hid (at_box w3 #[.int .i64 x.kind, .int .i64 x.num, .string x.name, .slice ua x.args.length uc] 26)
            replace HR := Lib.hid (HR.out.below hal)
            replace HWr := Lib.hid (belowOn HWr.out (Nat.le_refl _) hal)
            replace HO := Lib.hid (HO.out.kept hal)
            replace HU := Lib.hid (HU.out.kept hal)
            have hs4 : (w3.alloc (.cells #[.int .i64 x.kind, .int .i64 x.num, .string x.name, .slice ua x.args.length uc] 26)).heap.size = w3.heap.size + 1 := by simp
            clear hal
            generalize hw4 : w3.alloc (.cells #[.int .i64 x.kind, .int .i64 x.num, .string x.name, .slice ua x.args.length uc] 26) = w4 at HBX HR HWr HO HU hs4 ⊢
            clear hw4
            obtain ⟨L, C, hL, hrow, hbk, hr, hC, hd⟩ := Own.parts HO.out
            have hLn : xs.length = L.length := by rw [hL, List.length_map]
            rw [← hLn] at hrow
            have HROW := Lib.hid hrow
            have HPA := Lib.hid (And.intro hL (And.intro hLn (And.intro hbk (And.intro hr (And.intro hC hd)))))
            clear hL hLn hrow hbk hr hC hd
            obtain ⟨c0, c1, c2, c3⟩ := HBX.out.cells
            have z0 := HBX.out.le
            have HS4 := Lib.hid hs4
            clear hs4
            go_wp2_with (at_builtin; refine wpList_append_lies _ rfl _ _ 23 rfl 0 26 i0 _ 4 56 Tryd.underlying23 HII.out.1 HII.out.2.1 HII.out.2.2.1 HII.out.2.2.2 rfl (by omega) (.slice xa xs.length xc) xs.length (cellsL L) rfl (HROW.out.alloc _) ⟨w4.heap.size, 0, none⟩ 1 1 (cells4 x (.slice ua x.args.length uc)) rfl rfl (World.news_of_block (heap_alloc_new w4 _)) (by simp [cells4, Value.oneCell']) (by omega) (by unfold maxLen; omega) (by omega) (Nat.zero_le _) (w4.heap.size + 1) (by simp) ?_; intro gg cap' w1' hown1 hgrow hat hlt1; have HAP := Lib.hid (And.intro hown1 (And.intro hgrow (And.intro hat hlt1))); clear hown1 hgrow hat hlt1)
            have hs4 := HS4.out
            have hgs := HAP.out.2.1.size
            simp only [World.size_alloc] at hgs
            have HW1 : Hid (Below w.heap.size w w1') := Lib.hid ((belowOn HWr.out (Nat.le_refl _) (belowAlloc (Below.refl _ _) _)).trans (below_of_grown HAP.out.2.1 (by have := HWr.out.size; simp; omega) (fun k hk => by have h := (HPA.out.2.2.1 k hk).1; omega)))
            have HR1 := Lib.hid ((HR.out.below (belowAlloc (Below.refl _ _) (.cells #[.int .i64 x.kind, .int .i64 x.num, .string x.name, .slice ua x.args.length uc] 26))).grown HAP.out.2.1 (fun k hk => by have h := (HPA.out.2.2.1 k hk).1; omega))
            have HO1 : Hid (Own w1' 26 (iv (w1.heap.size + 1) w1'.heap.size) (.slice (some ⟨gg, 0, none⟩) (xs.length + 1) cap') (xs ++ [x])) := Lib.hid (by
              have h := own_append (S' := iv (w1.heap.size + 1) w1'.heap.size) HPA.out.2.1 HPA.out.2.2.1 HPA.out.2.2.2.1 HPA.out.2.2.2.2.1 HPA.out.2.2.2.2.2 HU.out (fun k hk => by have := hk.2; omega) (fun k hk => ⟨by have := hk.2; omega, fun h => by have h1 := hk.1; have h2 := h.2; omega⟩) (belowAlloc (Below.refl _ _) _) HAP.out.1 HAP.out.2.1 (HAP.out.2.2.1.imp id (fun h => by omega)) (fun k hk => by
                have hl := HAP.out.2.2.2
                rcases hk with hk | hk | hk
                · exact ⟨hk.1, by have := hk.2; omega⟩
                · exact ⟨by have := hk.1; omega, by have := hk.2; omega⟩
                · subst hk
                  refine ⟨?_, hl⟩
                  rcases HAP.out.2.2.1 with h | h
                  · exact (HPA.out.2.2.1 _ h).1
                  · omega)
              rw [← HPA.out.1] at h
              exact h)
            clear HROW HPA HAP HU HO HBX HR HWr c0 c1 c2 c3 z0
            go_roundg (T.length - j)
            case measure => have := HR1.out.le; omega
            case rel => exact ⟨xs ++ [x], j, Nat.le_refl _, by simp; omega, HC2, HR1, by simpa using HO1, HW1⟩
        · obtain ⟨rfl, rfl⟩ := HN.out (HTN.out (come_no HC.out hlt hv))
          have HNIL : Hid (Below w.heap.size w (w3.alloc (.cells #[.int .i64 0, .int .i64 0, .string ⟨#[]⟩, .slice none 0 0] 26))) := Lib.hid (belowOn (HWr.out.trans (ho.below (fun k hk => by have := hk.1; omega) HWr.out.size)) (Nat.le_refl _) (belowAlloc (Below.refl _ _) _))
          clear hr ho hv HVT
          go_wp2
          go_ret2
          exact ⟨_, rfl, .nil _, HNIL.out⟩
end Go.Proofs.YtokndpmoamjbfaaDoor

