/-
  The law of joins (FnJoin), walked over the program's contracts. (Written by wip/tools/gen_walkfnjoin.py.)
-/
import Derived.Test.YtbbgiefnmihmdaaDrawG
import Derived.Test.YtbbgiefnmihmdaaUnifyJ
import Derived.Test.YtbbgiefnmihmdaaImplNewB
import Derived.Test.YtbbgiefnmihmdaaUnifyLaw
import Derived.Test.YtbbgiefnmihmdaaBindsSame
namespace Go.Proofs.Ytbbgiefnmihmdaa
open Go.RowKit
set_option linter.unusedVariables false
set_option linter.unusedSimpArgs false

theorem subst_wf {u : List Bd} (h : SubstP u) : ∀ b ∈ u, wfI b.v := fun b hb => by
  have := h.var hb
  exact wfI_of (by omega) (by omega)
theorem subst_fits {u : List Bd} (h : u = [] ∨ SubstP u) : (∀ b ∈ u, Good b.t ∧ b.t.sz ≤ 1048576) ∧ u.length ≤ 1048576 := by
  rcases h with rfl | h
  · exact ⟨fun b hb => by simp at hb, Nat.zero_le _⟩
  · exact ⟨fun b hb => ⟨h.good b hb, by have h1 := good_sz (h.good b hb); have h2 := h.nodes b hb; omega⟩, by have := h.1.2.2; omega⟩
theorem GroundP.subst {n : Nat} {g : List Bd} (h : GroundP n g) (hn : n ≤ 400) : SubstP g :=
  ground_subst h.asc (by have := h.1; omega) fun b hb => by
    obtain ⟨h1, h2, h3, h4⟩ := h.mem b hb
    exact ⟨⟨h1.1, by omega⟩, ⟨by omega, h2⟩, h3⟩
theorem holds_is {g s : List Bd} (hs : ∀ b ∈ s, Good b.t) : HoldsP g s ↔ Sat (sgm g) s := holds_sat hs
theorem js_or (s t : List Bd) : jsL s t = [] ∨ SubstP (jsL s t) := by
  unfold jsL
  split
  · exact mu_subst
  · exact .inl rfl
theorem join_no {s t g : List Bd} (hs : SubstP s) (ht : SubstP t) (hg : SubstP g) (h : jsB s t = false) (h1 : holdsB g s = true) : holdsB g t = false :=
  holds_false.2 fun h2 => (js_said hs ht).2 h g hg ⟨(holds_is hs.good).1 (holds_true.1 h1), (holds_is ht.good).1 h2⟩
theorem join_yes {s t : List Bd} (hs : SubstP s) (ht : SubstP t) (h : jsB s t = true) :
    SubstP (jsL s t) ∧ moreB s (jsL s t) = true ∧ moreB t (jsL s t) = true ∧ (jsL s t).length = s.length + (nbL s (jsL s t)).length ∧ ∀ g, SubstP g → holdsB g (jsL s t) = (holdsB g s && holdsB g t) := by
  obtain ⟨h1, h2, h3, h4, h5⟩ := (js_said hs ht).1 h
  refine ⟨h1, h2, h3, by rw [nb_yes ⟨hs, h1⟩]; exact h4, fun g hg => ?_⟩
  rw [Bool.eq_iff_iff, Bool.and_eq_true, holds_true, holds_true, holds_true, holds_is h1.good, holds_is hs.good, holds_is ht.good]
  exact h5 _

set_option maxRecDepth 100000 in
set_option maxHeartbeats 16000000 in
theorem walkFnJoin (w : World) (a : Option Addr) (len cap : Nat) (zs : List Int) (hrow : ByteRow w a len cap zs) :
    Calls Try.prog 4 #[.slice a len cap] w fun e w' => e = .returned (.bool true) ∧ Below w.heap.size w w' := by
  obtain ⟨hby, hmx⟩ := hrow.bytes
  clear hrow
  unfold maxLen at hmx
  have HY := Lib.hid hby
  clear hby
  by_cases h : 1048576 < (len : Int)
  · go_enter Try.func4, Try.ntmps4
    go_wp2
    go_ret
    exact ⟨rfl, Below.refl _ _⟩
  have hl : len ≤ 1048576 := by omega
  go_enter Try.func4, Try.ntmps4
  go_wp2_with fail
  refine (makeSubst_any a len cap 0 _ HY.out hl (by decide)).mono ?_
  rintro e w1 ⟨s, us, rfl, hS, hsd, hb⟩
  clear h hmx
  have HW := Lib.hid hb
  replace HY := Lib.hid (HY.out.kept hb)
  have HS := Lib.hid hS
  have HSP := Lib.hid (hsd.subst (by decide) (by decide) (by decide) (by decide) (by decide))
  clear hb hS hsd
  obtain ⟨sa, sc, rfl⟩ := HS.out.slice
  go_wp2_with fail
  refine (makeLow_any a len cap 20 _ HY.out hl (by decide)).mono ?_
  rintro e w2 ⟨r, hr4, t0, ut0, rfl, hT, htd, hb⟩
  replace HS := Lib.hid (HS.out.kept hb)
  replace HY := Lib.hid (HY.out.kept hb)
  replace HW := Lib.hid (belowOn HW.out (Nat.le_refl _) hb)
  have HT0 := Lib.hid hT
  have HTP0 := Lib.hid (htd.subst (by omega) (by omega) (by decide) (by omega) (by decide))
  clear hb hT htd hr4
  obtain ⟨t0a, t0c, rfl⟩ := HT0.out.slice
  go_wp2_with fail
  refine (makeNum_any a len cap 40 _ HY.out hl (by decide)).mono ?_
  rintro e w3 ⟨⟨r0, rfl, r1, r2⟩, hb⟩
  replace HS := Lib.hid (HS.out.kept hb)
  replace HT0 := Lib.hid (HT0.out.kept hb)
  replace HY := Lib.hid (HY.out.kept hb)
  replace HW := Lib.hid (belowOn HW.out (Nat.le_refl _) hb)
  clear hb
  have hev := even_facts r1
  have HPAR : (r0 % 2 == 0) = true ∨ (r0 % 2 == 0) = false := by cases (r0 % 2 == 0) <;> simp
  rcases HPAR with hp | hp
  · go_wp2_with fail
    refine (makeSubst_any a len cap 42 _ HY.out hl (by decide)).mono ?_
    rintro e wt ⟨t, ut, rfl, hT, htd, hb⟩
    replace HS := Lib.hid (HS.out.kept hb)
    replace HY := Lib.hid (HY.out.kept hb)
    replace HW := Lib.hid (belowOn HW.out (Nat.le_refl _) hb)
    have HT := Lib.hid hT
    have HTP := Lib.hid (htd.subst (by decide) (by decide) (by decide) (by decide) (by decide))
    clear hb hT htd hp hev r1 r2 HT0 HTP0
    obtain ⟨ta, tc, rfl⟩ := HT.out.slice
    have hI := implJoinSubst_e s (.slice sa s.length sc) t (.slice ta t.length tc) wt HS.out HSP.out.each (subst_wf HSP.out) HT.out HTP.out.each (subst_wf HTP.out)
    have HC := Lib.hid hI
    clear hI
    go_wp2_with fail
    refine HC.out.mono ?_
    rintro e w5 ⟨u5, rfl, hu, hb⟩
    replace HS := Lib.hid (HS.out.kept hb)
    replace HT := Lib.hid (HT.out.kept hb)
    replace HY := Lib.hid (HY.out.kept hb)
    replace HW := Lib.hid (belowOn HW.out (Nat.le_refl _) hb)
    have HU5 := Lib.hid hu.inS.any
    clear hu hb HC
    obtain ⟨a5, c5, rfl⟩ := HU5.out.slice
    have hI := implJoinSubst_e t (.slice ta t.length tc) s (.slice sa s.length sc) w5 HT.out HTP.out.each (subst_wf HTP.out) HS.out HSP.out.each (subst_wf HSP.out)
    rw [(js_comm t s).1, (js_comm t s).2] at hI
    have HC := Lib.hid hI
    clear hI
    go_wp2_with fail
    refine HC.out.mono ?_
    rintro e w8 ⟨u8, rfl, hu, hb⟩
    replace HS := Lib.hid (HS.out.kept hb)
    replace HT := Lib.hid (HT.out.kept hb)
    replace HY := Lib.hid (HY.out.kept hb)
    replace HU5 := Lib.hid (HU5.out.kept hb)
    replace HW := Lib.hid (belowOn HW.out (Nat.le_refl _) hb)
    have HU8 := Lib.hid hu.inS.any
    clear hu hb HC
    obtain ⟨a8, c8, rfl⟩ := HU8.out.slice
    have hI := implJoinSubst_e s (.slice sa s.length sc) s (.slice sa s.length sc) w8 HS.out HSP.out.each (subst_wf HSP.out) HS.out HSP.out.each (subst_wf HSP.out)
    rw [(js_self HSP.out).1, (js_self HSP.out).2] at hI
    have HC := Lib.hid hI
    clear hI
    go_wp2_with fail
    refine HC.out.mono ?_
    rintro e w9 ⟨u9, rfl, hu, hb⟩
    replace HS := Lib.hid (HS.out.kept hb)
    replace HT := Lib.hid (HT.out.kept hb)
    replace HY := Lib.hid (HY.out.kept hb)
    replace HU5 := Lib.hid (HU5.out.kept hb)
    replace HU8 := Lib.hid (HU8.out.kept hb)
    replace HW := Lib.hid (belowOn HW.out (Nat.le_refl _) hb)
    have HU9 := Lib.hid hu.inS.any
    clear hu hb HC
    obtain ⟨a9, c9, rfl⟩ := HU9.out.slice
    have HJF := Lib.hid (subst_fits (js_or s t))
    have HSF := Lib.hid (subst_fits (.inr HSP.out))
    have HNO := Lib.hid (fun g hg h h1 => join_no (g := g) HSP.out HTP.out hg h h1)
    have HYE := Lib.hid (fun h => join_yes HSP.out HTP.out h)
    generalize jsL s t = jl at HU5 HU8 HJF HYE ⊢
    generalize jsB s t = jb at HNO HYE ⊢
    have HC := Lib.hid (binds_any jl _ _ w9 HU5.out HU8.out HJF.out.1 HJF.out.2)
    have hjb : (jb != jb) = false := by cases jb <;> rfl
    go_wp2_with fail
    refine HC.out.mono ?_
    rintro e w10 ⟨rfl, hb⟩
    replace HS := Lib.hid (HS.out.kept hb)
    replace HT := Lib.hid (HT.out.kept hb)
    replace HY := Lib.hid (HY.out.kept hb)
    replace HU5 := Lib.hid (HU5.out.kept hb)
    replace HU9 := Lib.hid (HU9.out.kept hb)
    replace HW := Lib.hid (belowOn HW.out (Nat.le_refl _) hb)
    clear hb HC hjb HU8
    have HC := Lib.hid (binds_any s _ _ w10 HU9.out HS.out HSF.out.1 HSF.out.2)
    go_wp2_with fail
    refine HC.out.mono ?_
    rintro e w11 ⟨rfl, hb⟩
    replace HS := Lib.hid (HS.out.kept hb)
    replace HT := Lib.hid (HT.out.kept hb)
    replace HY := Lib.hid (HY.out.kept hb)
    replace HU5 := Lib.hid (HU5.out.kept hb)
    replace HW := Lib.hid (belowOn HW.out (Nat.le_refl _) hb)
    clear hb HC HU9
    go_wp2_with fail
    refine (makeGround_any a len cap 60 8 _ HY.out hl (by decide) (by decide)).mono ?_
    rintro e w12 ⟨g, ug, rfl, hG, hgp, hb⟩
    replace HS := Lib.hid (HS.out.kept hb)
    replace HT := Lib.hid (HT.out.kept hb)
    replace HU5 := Lib.hid (HU5.out.kept hb)
    replace HW := Lib.hid (belowOn HW.out (Nat.le_refl _) hb)
    have HG := Lib.hid hG
    have HGP := Lib.hid hgp
    have HGS := Lib.hid (hgp.subst (by decide))
    clear hb hG hgp HY
    obtain ⟨ga, gc, rfl⟩ := HG.out.slice
    cases jb with
    | false =>
      have HC := Lib.hid (holds_any 8 g s _ _ w12 HS.out HG.out HGP.out (by decide) HSP.out)
      go_wp2_with fail
      refine HC.out.mono ?_
      rintro e w13 ⟨rfl, hb⟩
      replace HS := Lib.hid (HS.out.kept hb)
      replace HT := Lib.hid (HT.out.kept hb)
      replace HG := Lib.hid (HG.out.kept hb)
      replace HW := Lib.hid (belowOn HW.out (Nat.le_refl _) hb)
      clear hb HC
      cases hs : holdsB g s with
      | false =>
        clear hs
        go_wp2
        go_ret
        exact ⟨rfl, HW.out⟩
      | true =>
        have HF := Lib.hid (HNO.out g HGS.out (by trivial) hs)
        clear hs
        have HC := Lib.hid (holds_any 8 g t _ _ w13 HT.out HG.out HGP.out (by decide) HTP.out)
        go_wp2_with fail
        refine HC.out.mono ?_
        rintro e w14 ⟨rfl, hb⟩
        replace HS := Lib.hid (HS.out.kept hb)
        replace HW := Lib.hid (belowOn HW.out (Nat.le_refl _) hb)
        clear hb HC
        have hf := HF.out
        rw [hf]
        clear hf
        go_wp2
        go_ret
        exact ⟨rfl, HW.out⟩
    | true =>
      obtain ⟨hj1, hj2, hj3, hj4, hj5⟩ := HYE.out (by trivial)
      have HJP := Lib.hid hj1
      have HM1 := Lib.hid hj2
      have HM2 := Lib.hid hj3
      have HLN := Lib.hid hj4
      have HHO := Lib.hid (hj5 g HGS.out)
      have hjl : jl.length ≤ 400 := hj1.1.2.2
      have hsl : s.length ≤ 400 := HSP.out.1.2.2
      clear hj1 hj2 hj3 hj4 hj5
      have hI := implMoreGeneral_e s _ jl _ w12 HS.out HSP.out.each (subst_wf HSP.out) HU5.out HJP.out.each (subst_wf HJP.out)
      rw [HM1.out] at hI
      have HC := Lib.hid hI
      clear hI
      go_wp2_with fail
      refine HC.out.mono ?_
      rintro e w13 ⟨rfl, hb⟩
      replace HS := Lib.hid (HS.out.kept hb)
      replace HT := Lib.hid (HT.out.kept hb)
      replace HU5 := Lib.hid (HU5.out.kept hb)
      replace HG := Lib.hid (HG.out.kept hb)
      replace HW := Lib.hid (belowOn HW.out (Nat.le_refl _) hb)
      clear hb HC
      have hI := implMoreGeneral_e t _ jl _ w13 HT.out HTP.out.each (subst_wf HTP.out) HU5.out HJP.out.each (subst_wf HJP.out)
      rw [HM2.out] at hI
      have HC := Lib.hid hI
      clear hI
      go_wp2_with fail
      refine HC.out.mono ?_
      rintro e w14 ⟨rfl, hb⟩
      replace HS := Lib.hid (HS.out.kept hb)
      replace HT := Lib.hid (HT.out.kept hb)
      replace HU5 := Lib.hid (HU5.out.kept hb)
      replace HG := Lib.hid (HG.out.kept hb)
      replace HW := Lib.hid (belowOn HW.out (Nat.le_refl _) hb)
      clear hb HC
      have HC := Lib.hid (implNewBindings_e s _ jl _ w14 HS.out HSP.out.each (subst_wf HSP.out) HU5.out HJP.out.each (subst_wf HJP.out))
      have hnl : (nbL s jl).length ≤ 400 := by have := HLN.out; omega
      generalize nbL s jl = nl at HC HLN hnl
      go_wp2_with fail
      refine HC.out.mono ?_
      rintro e w15 ⟨u15, rfl, hu, hb⟩
      replace HS := Lib.hid (HS.out.kept hb)
      replace HT := Lib.hid (HT.out.kept hb)
      replace HU5 := Lib.hid (HU5.out.kept hb)
      replace HG := Lib.hid (HG.out.kept hb)
      replace HW := Lib.hid (belowOn HW.out (Nat.le_refl _) hb)
      obtain ⟨a15, c15, rfl⟩ := hu.slice
      clear hu hb HC
      have hsum : IntKind.i64.wrap ((s.length : Int) + (nl.length : Int)) = (jl.length : Int) := by rw [IntWalk.i64_in _ (by omega)]; have := HLN.out; omega
      have hself : ((jl.length : Int) == (jl.length : Int)) = true := beq_self_eq_true _
      have HC := Lib.hid (holds_any 8 g jl _ _ w15 HU5.out HG.out HGP.out (by decide) HJP.out)
      go_wp2_with fail
      refine HC.out.mono ?_
      rintro e w16 ⟨rfl, hb⟩
      replace HS := Lib.hid (HS.out.kept hb)
      replace HT := Lib.hid (HT.out.kept hb)
      replace HG := Lib.hid (HG.out.kept hb)
      replace HW := Lib.hid (belowOn HW.out (Nat.le_refl _) hb)
      clear hb HC
      clear hsum hself
      have HC := Lib.hid (holds_any 8 g s _ _ w16 HS.out HG.out HGP.out (by decide) HSP.out)
      go_wp2_with fail
      refine HC.out.mono ?_
      rintro e w17 ⟨rfl, hb⟩
      replace HT := Lib.hid (HT.out.kept hb)
      replace HG := Lib.hid (HG.out.kept hb)
      replace HW := Lib.hid (belowOn HW.out (Nat.le_refl _) hb)
      clear hb HC
      rw [HHO.out]
      cases hs : holdsB g s with
      | false =>
        have hr : ((false && holdsB g t) == false) = true := rfl
        clear hs
        go_wp2
        go_ret
        exact ⟨by simp, HW.out⟩
      | true =>
        clear hs
        have HC := Lib.hid (holds_any 8 g t _ _ w17 HT.out HG.out HGP.out (by decide) HTP.out)
        go_wp2_with fail
        refine HC.out.mono ?_
        rintro e w18 ⟨rfl, hb⟩
        replace HW := Lib.hid (belowOn HW.out (Nat.le_refl _) hb)
        clear hb HC
        have hr : ((true && holdsB g t) == holdsB g t) = true := by simp
        go_wp2
        go_ret
        exact ⟨by simp, HW.out⟩
  · have HT := HT0
    have HTP := HTP0
    clear HT0 HTP0
    generalize w3 = wt at HS HY HW HT ⊢
    go_wp2_with fail
    clear hp hev r1 r2
    generalize t0 = t at HT HTP ⊢
    generalize t0a = ta at HT ⊢
    generalize t0c = tc at HT ⊢
    have hI := implJoinSubst_e s (.slice sa s.length sc) t (.slice ta t.length tc) wt HS.out HSP.out.each (subst_wf HSP.out) HT.out HTP.out.each (subst_wf HTP.out)
    have HC := Lib.hid hI
    clear hI
    refine HC.out.mono ?_
    rintro e w5 ⟨u5, rfl, hu, hb⟩
    replace HS := Lib.hid (HS.out.kept hb)
    replace HT := Lib.hid (HT.out.kept hb)
    replace HY := Lib.hid (HY.out.kept hb)
    replace HW := Lib.hid (belowOn HW.out (Nat.le_refl _) hb)
    have HU5 := Lib.hid hu.inS.any
    clear hu hb HC
    obtain ⟨a5, c5, rfl⟩ := HU5.out.slice
    have hI := implJoinSubst_e t (.slice ta t.length tc) s (.slice sa s.length sc) w5 HT.out HTP.out.each (subst_wf HTP.out) HS.out HSP.out.each (subst_wf HSP.out)
    rw [(js_comm t s).1, (js_comm t s).2] at hI
    have HC := Lib.hid hI
    clear hI
    go_wp2_with fail
    refine HC.out.mono ?_
    rintro e w8 ⟨u8, rfl, hu, hb⟩
    replace HS := Lib.hid (HS.out.kept hb)
    replace HT := Lib.hid (HT.out.kept hb)
    replace HY := Lib.hid (HY.out.kept hb)
    replace HU5 := Lib.hid (HU5.out.kept hb)
    replace HW := Lib.hid (belowOn HW.out (Nat.le_refl _) hb)
    have HU8 := Lib.hid hu.inS.any
    clear hu hb HC
    obtain ⟨a8, c8, rfl⟩ := HU8.out.slice
    have hI := implJoinSubst_e s (.slice sa s.length sc) s (.slice sa s.length sc) w8 HS.out HSP.out.each (subst_wf HSP.out) HS.out HSP.out.each (subst_wf HSP.out)
    rw [(js_self HSP.out).1, (js_self HSP.out).2] at hI
    have HC := Lib.hid hI
    clear hI
    go_wp2_with fail
    refine HC.out.mono ?_
    rintro e w9 ⟨u9, rfl, hu, hb⟩
    replace HS := Lib.hid (HS.out.kept hb)
    replace HT := Lib.hid (HT.out.kept hb)
    replace HY := Lib.hid (HY.out.kept hb)
    replace HU5 := Lib.hid (HU5.out.kept hb)
    replace HU8 := Lib.hid (HU8.out.kept hb)
    replace HW := Lib.hid (belowOn HW.out (Nat.le_refl _) hb)
    have HU9 := Lib.hid hu.inS.any
    clear hu hb HC
    obtain ⟨a9, c9, rfl⟩ := HU9.out.slice
    have HJF := Lib.hid (subst_fits (js_or s t))
    have HSF := Lib.hid (subst_fits (.inr HSP.out))
    have HNO := Lib.hid (fun g hg h h1 => join_no (g := g) HSP.out HTP.out hg h h1)
    have HYE := Lib.hid (fun h => join_yes HSP.out HTP.out h)
    generalize jsL s t = jl at HU5 HU8 HJF HYE ⊢
    generalize jsB s t = jb at HNO HYE ⊢
    have HC := Lib.hid (binds_any jl _ _ w9 HU5.out HU8.out HJF.out.1 HJF.out.2)
    have hjb : (jb != jb) = false := by cases jb <;> rfl
    go_wp2_with fail
    refine HC.out.mono ?_
    rintro e w10 ⟨rfl, hb⟩
    replace HS := Lib.hid (HS.out.kept hb)
    replace HT := Lib.hid (HT.out.kept hb)
    replace HY := Lib.hid (HY.out.kept hb)
    replace HU5 := Lib.hid (HU5.out.kept hb)
    replace HU9 := Lib.hid (HU9.out.kept hb)
    replace HW := Lib.hid (belowOn HW.out (Nat.le_refl _) hb)
    clear hb HC hjb HU8
    have HC := Lib.hid (binds_any s _ _ w10 HU9.out HS.out HSF.out.1 HSF.out.2)
    go_wp2_with fail
    refine HC.out.mono ?_
    rintro e w11 ⟨rfl, hb⟩
    replace HS := Lib.hid (HS.out.kept hb)
    replace HT := Lib.hid (HT.out.kept hb)
    replace HY := Lib.hid (HY.out.kept hb)
    replace HU5 := Lib.hid (HU5.out.kept hb)
    replace HW := Lib.hid (belowOn HW.out (Nat.le_refl _) hb)
    clear hb HC HU9
    go_wp2_with fail
    refine (makeGround_any a len cap 60 8 _ HY.out hl (by decide) (by decide)).mono ?_
    rintro e w12 ⟨g, ug, rfl, hG, hgp, hb⟩
    replace HS := Lib.hid (HS.out.kept hb)
    replace HT := Lib.hid (HT.out.kept hb)
    replace HU5 := Lib.hid (HU5.out.kept hb)
    replace HW := Lib.hid (belowOn HW.out (Nat.le_refl _) hb)
    have HG := Lib.hid hG
    have HGP := Lib.hid hgp
    have HGS := Lib.hid (hgp.subst (by decide))
    clear hb hG hgp HY
    obtain ⟨ga, gc, rfl⟩ := HG.out.slice
    cases jb with
    | false =>
      have HC := Lib.hid (holds_any 8 g s _ _ w12 HS.out HG.out HGP.out (by decide) HSP.out)
      go_wp2_with fail
      refine HC.out.mono ?_
      rintro e w13 ⟨rfl, hb⟩
      replace HS := Lib.hid (HS.out.kept hb)
      replace HT := Lib.hid (HT.out.kept hb)
      replace HG := Lib.hid (HG.out.kept hb)
      replace HW := Lib.hid (belowOn HW.out (Nat.le_refl _) hb)
      clear hb HC
      cases hs : holdsB g s with
      | false =>
        clear hs
        go_wp2
        go_ret
        exact ⟨rfl, HW.out⟩
      | true =>
        have HF := Lib.hid (HNO.out g HGS.out (by trivial) hs)
        clear hs
        have HC := Lib.hid (holds_any 8 g t _ _ w13 HT.out HG.out HGP.out (by decide) HTP.out)
        go_wp2_with fail
        refine HC.out.mono ?_
        rintro e w14 ⟨rfl, hb⟩
        replace HS := Lib.hid (HS.out.kept hb)
        replace HW := Lib.hid (belowOn HW.out (Nat.le_refl _) hb)
        clear hb HC
        have hf := HF.out
        rw [hf]
        clear hf
        go_wp2
        go_ret
        exact ⟨rfl, HW.out⟩
    | true =>
      obtain ⟨hj1, hj2, hj3, hj4, hj5⟩ := HYE.out (by trivial)
      have HJP := Lib.hid hj1
      have HM1 := Lib.hid hj2
      have HM2 := Lib.hid hj3
      have HLN := Lib.hid hj4
      have HHO := Lib.hid (hj5 g HGS.out)
      have hjl : jl.length ≤ 400 := hj1.1.2.2
      have hsl : s.length ≤ 400 := HSP.out.1.2.2
      clear hj1 hj2 hj3 hj4 hj5
      have hI := implMoreGeneral_e s _ jl _ w12 HS.out HSP.out.each (subst_wf HSP.out) HU5.out HJP.out.each (subst_wf HJP.out)
      rw [HM1.out] at hI
      have HC := Lib.hid hI
      clear hI
      go_wp2_with fail
      refine HC.out.mono ?_
      rintro e w13 ⟨rfl, hb⟩
      replace HS := Lib.hid (HS.out.kept hb)
      replace HT := Lib.hid (HT.out.kept hb)
      replace HU5 := Lib.hid (HU5.out.kept hb)
      replace HG := Lib.hid (HG.out.kept hb)
      replace HW := Lib.hid (belowOn HW.out (Nat.le_refl _) hb)
      clear hb HC
      have hI := implMoreGeneral_e t _ jl _ w13 HT.out HTP.out.each (subst_wf HTP.out) HU5.out HJP.out.each (subst_wf HJP.out)
      rw [HM2.out] at hI
      have HC := Lib.hid hI
      clear hI
      go_wp2_with fail
      refine HC.out.mono ?_
      rintro e w14 ⟨rfl, hb⟩
      replace HS := Lib.hid (HS.out.kept hb)
      replace HT := Lib.hid (HT.out.kept hb)
      replace HU5 := Lib.hid (HU5.out.kept hb)
      replace HG := Lib.hid (HG.out.kept hb)
      replace HW := Lib.hid (belowOn HW.out (Nat.le_refl _) hb)
      clear hb HC
      have HC := Lib.hid (implNewBindings_e s _ jl _ w14 HS.out HSP.out.each (subst_wf HSP.out) HU5.out HJP.out.each (subst_wf HJP.out))
      have hnl : (nbL s jl).length ≤ 400 := by have := HLN.out; omega
      generalize nbL s jl = nl at HC HLN hnl
      go_wp2_with fail
      refine HC.out.mono ?_
      rintro e w15 ⟨u15, rfl, hu, hb⟩
      replace HS := Lib.hid (HS.out.kept hb)
      replace HT := Lib.hid (HT.out.kept hb)
      replace HU5 := Lib.hid (HU5.out.kept hb)
      replace HG := Lib.hid (HG.out.kept hb)
      replace HW := Lib.hid (belowOn HW.out (Nat.le_refl _) hb)
      obtain ⟨a15, c15, rfl⟩ := hu.slice
      clear hu hb HC
      have hsum : IntKind.i64.wrap ((s.length : Int) + (nl.length : Int)) = (jl.length : Int) := by rw [IntWalk.i64_in _ (by omega)]; have := HLN.out; omega
      have hself : ((jl.length : Int) == (jl.length : Int)) = true := beq_self_eq_true _
      have HC := Lib.hid (holds_any 8 g jl _ _ w15 HU5.out HG.out HGP.out (by decide) HJP.out)
      go_wp2_with fail
      refine HC.out.mono ?_
      rintro e w16 ⟨rfl, hb⟩
      replace HS := Lib.hid (HS.out.kept hb)
      replace HT := Lib.hid (HT.out.kept hb)
      replace HG := Lib.hid (HG.out.kept hb)
      replace HW := Lib.hid (belowOn HW.out (Nat.le_refl _) hb)
      clear hb HC
      clear hsum hself
      have HC := Lib.hid (holds_any 8 g s _ _ w16 HS.out HG.out HGP.out (by decide) HSP.out)
      go_wp2_with fail
      refine HC.out.mono ?_
      rintro e w17 ⟨rfl, hb⟩
      replace HT := Lib.hid (HT.out.kept hb)
      replace HG := Lib.hid (HG.out.kept hb)
      replace HW := Lib.hid (belowOn HW.out (Nat.le_refl _) hb)
      clear hb HC
      rw [HHO.out]
      cases hs : holdsB g s with
      | false =>
        have hr : ((false && holdsB g t) == false) = true := rfl
        clear hs
        go_wp2
        go_ret
        exact ⟨by simp, HW.out⟩
      | true =>
        clear hs
        have HC := Lib.hid (holds_any 8 g t _ _ w17 HT.out HG.out HGP.out (by decide) HTP.out)
        go_wp2_with fail
        refine HC.out.mono ?_
        rintro e w18 ⟨rfl, hb⟩
        replace HW := Lib.hid (belowOn HW.out (Nat.le_refl _) hb)
        clear hb HC
        have hr : ((true && holdsB g t) == holdsB g t) = true := by simp
        go_wp2
        go_ret
        exact ⟨by simp, HW.out⟩
end Go.Proofs.Ytbbgiefnmihmdaa
