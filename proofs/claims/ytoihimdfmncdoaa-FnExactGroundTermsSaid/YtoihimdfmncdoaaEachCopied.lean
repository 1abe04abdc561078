/-
  The program's eachOf over Term.copied: a row of copies.
-/
import Derived.Test.YtoihimdfmncdoaaNews
import Derived.Test.YtoihimdfmncdoaaEachT
namespace Go.Proofs.Ytoihimdfmncdoaa
open Go.RowKit
set_option linter.unusedVariables false
set_option linter.unusedSimpArgs false

theorem takeC {l : List Tm} {j : Nat} {t : Tm} (h : l[j]? = some t) : l.take (j + 1) = l.take j ++ [t] := by
  rw [List.take_add_one, h]; rfl
theorem take_setC {xs : List Tm} {k : Nat} {t : Tm} (h : k < xs.length) : (xs.set k t).take (k + 1) = xs.take k ++ [t] := by
  rw [takeC (List.getElem?_set_self h), List.take_set_of_le (Nat.le_refl _)]

set_option maxRecDepth 100000 in
set_option maxHeartbeats 4000000 in
theorem eachCopied_any (l : List Tm) (V : Value) (w : World) (hA : ArgsAt w V l) (hg : ∀ t ∈ l, Good t) (hE : EachT l) :
    Calls Try.prog 74 #[V, .func (.func 75) #[] #[]] w fun e w' => ∃ u, e = .returned u ∧ NewTree l w u w' := by
  obtain ⟨i0, hi, hz0, hz1, hz2⟩ := info_parts infoTerm
  obtain ⟨aa, ac, rfl⟩ := hA.slice
  have HA := Lib.hid hA
  have HP := Lib.hid (And.intro hg hE)
  have hL := hE.1
  clear hA hg hE
  go_enter Try.func74, Try.ntmps74
  go_wp2_with (at_make; refine wpList_make_full _ rfl _ _ 23 rfl 0 25 i0 _ 4 Try.underlying23 hi hz0 hz1 _ _ _ _ l.length rfl rfl rfl rfl (by rw [hz2]; omega) (by unfold maxLen; omega) (Nat.zero_le _) ?_; intro w1 hown hg; have HO1 := Lib.hid hown; have HG1 := Lib.hid hg; clear hown hg)
  have HB1 := Lib.hid (below_of_grown (B := w.heap.size) HG1.out (Nat.le_refl _) (fun k hk => by cases hk))
  have HGT : Hid (w.heap.size < w1.heap.size) := Lib.hid (row_hit HO1.out)
  have HO2 : Hid (Own w1 25 (iv w.heap.size w1.heap.size) (.slice (some ⟨w.heap.size, 0, none⟩) l.length l.length) (List.replicate l.length tm0.1)) := Lib.hid ((own_made (S := fun j => j = w.heap.size) HO1.out rfl).sub fun j hj => by unfold iv; have := HGT.out; omega)
  clear HO1 HG1 hi hz0 hz1 hz2
  go_loopw [13] (fun i wr => ∃ (k : Nat) (xs : List Tm), k ≤ l.length ∧ i = .int .i64 k ∧ xs.length = l.length ∧ Hid (xs.take k = l.take k) ∧ Hid (Own wr 25 (iv w.heap.size wr.heap.size) (.slice (some ⟨w.heap.size, 0, none⟩) l.length l.length) xs) ∧ Hid (Below w.heap.size w wr))
      (fun i _ => l.length - (intOf i).toNat)
  case atStart => exact ⟨0, List.replicate l.length tm0.1, Nat.zero_le _, rfl, by simp, Lib.hid rfl, HO2, HB1⟩
  case round =>
    obtain ⟨k, xs, hk, rfl, hxl, HX, HOW, HWR⟩ := hrel
    clear HO2
    have HXL := Lib.hid hxl
    clear hxl
    by_cases hlt : k < l.length
    · have hltI : (k : Int) < (l.length : Int) := by omega
      obtain ⟨x, hx⟩ : ∃ x, l[k]? = some x := ⟨_, List.getElem?_eq_getElem hlt⟩
      obtain ⟨y, hy⟩ : ∃ y, xs[k]? = some y := ⟨_, List.getElem?_eq_getElem (by rw [HXL.out]; omega)⟩
      obtain ⟨g0, off, u1', u2', rfl, hg, hq, hc, hch⟩ := HA.out.elem hx
      clear hq
      obtain ⟨d0, d1, d2, d3⟩ := hc _ HWR.out
      have hgw : g0 < wr.heap.size := Nat.lt_of_lt_of_le hg HWR.out.size
      have HTK := Lib.hid (takeC hx)
      have HOX := Lib.hid (HP.out.1 x (List.mem_of_getElem? hx))
      have HZX := Lib.hid (HP.out.2.at hx)
      have HY := Lib.hid hy
      have HCH := Lib.hid (hch.kept HWR.out)
      clear hc hch hx hy hg
      go_upto_region 5 with (fail)
      have hal : Below wr.heap.size wr (wr.alloc (.cells #[.int .i64 x.kind, .int .i64 x.num, .string x.name, .slice u1' x.args.length u2'] 25)) := belowAlloc (Below.refl _ _) _
      have HBX := Lib.hid (heap_new wr (.cells #[.int .i64 x.kind, .int .i64 x.num, .string x.name, .slice u1' x.args.length u2'] 25))
      replace HOW : Hid (Own (wr.alloc (.cells #[.int .i64 x.kind, .int .i64 x.num, .string x.name, .slice u1' x.args.length u2'] 25)) 25 (iv w.heap.size wr.heap.size) (.slice (some ⟨w.heap.size, 0, none⟩) l.length l.length) xs) := Lib.hid (HOW.out.kept hal)
      replace HCH := Lib.hid (HCH.out.kept hal)
      have HWR4 := Lib.hid (belowOn HWR.out (Nat.le_refl _) hal)
      have HS4 := Lib.hid hal.size
      clear hal d0 d1 d2 d3 hgw HWR
      generalize hw4 : wr.alloc (.cells #[.int .i64 x.kind, .int .i64 x.num, .string x.name, .slice u1' x.args.length u2'] 25) = w4 at HBX HOW HCH HWR4 HS4 ⊢
      clear hw4
      obtain ⟨nr, hnr⟩ : ∃ nr, wr.heap.size = nr := ⟨_, rfl⟩
      rw [hnr] at HBX HOW HS4 ⊢
      clear hnr
      obtain ⟨c0, c1, c2, c3, _⟩ := box_cells HBX.out
      have zt := (Array.getElem?_eq_some_iff.1 HBX.out).1
      have HC := Lib.hid (copied_any (x.nodes + 1) x (.slice u1' x.args.length u2') w4 (Nat.lt_succ_self _) HCH.out HZX.out HOX.out)
      go_wp2_with fail
      refine HC.out.mono ?_
      rintro e w5 ⟨u, rfl, hown5, hb5⟩
      obtain ⟨ua, uc, rfl⟩ := hown5.argsAt.slice
      have HOW5 := Lib.hid (HOW.out.kept hb5)
      have HWR5 := Lib.hid (belowOn HWR4.out (Nat.le_refl _) hb5)
      have HS5 := Lib.hid (And.intro HS4.out hb5.size)
      have HU5 := Lib.hid hown5
      clear hown5 hb5 HC c0 c1 c2 c3 zt
      obtain ⟨g4, cap4, V4, C4, hv4, _, _, hgl, f4, e0, e1, e2, e3, _⟩ := HOW5.out.at HY.out
      simp only [Value.slice.injEq, Option.some.injEq, Addr.mk.injEq] at hv4
      obtain ⟨⟨rfl, _⟩, hq, rfl⟩ := hv4
      clear hq
      have HPP := Lib.hid (HOW5.out.put HY.out (t := x) HU5.out fun j hj hx => by have h1 := hj.1; have h2 := hx.2; have h3 := HS5.out.1; omega)
      have htl := List.getElem?_eq_some_iff.1 HY.out
      go_wp2
      go_roundw
      case rel =>
        have hP := HPP.out
        have hs := hP.1.size
        have hs5 := HS5.out
        refine ⟨k + 1, xs.set k x, by omega, by go_num, by rw [List.length_set]; exact HXL.out, Lib.hid (by rw [take_setC htl.1, HX.out, HTK.out]), Lib.hid (hP.2.sub fun m hm => ?_), Lib.hid ?_⟩
        · unfold iv at hm ⊢
          have := HWR5.out.size
          rcases hm with hm | hm
          · exact ⟨hm.1, by omega⟩
          · exact ⟨by have := HWR4.out.size; omega, by omega⟩
        · exact HWR5.out.trans ⟨hP.1.os, hP.1.tape, hP.1.output, by exact hP.1.size, fun j hj => hP.1.block j (by have := HWR5.out.size; omega) (fun h => by have := h.1; omega)⟩
      case measure => simp [intOf]; omega
    · obtain rfl : k = l.length := by omega
      have HR : Hid (Own wr 25 (iv w.heap.size wr.heap.size) (.slice (some ⟨w.heap.size, 0, none⟩) l.length l.length) l) := Lib.hid (by
        have e : xs = l := by
          have h := HX.out
          rw [List.take_length, ← HXL.out, List.take_length] at h
          exact h
        have h := HOW.out
        rw [e] at h
        exact h)
      clear HOW
      go_wp2
      go_ret
      exact ⟨_, rfl, HR.out, HWR.out⟩
end Go.Proofs.Ytoihimdfmncdoaa

