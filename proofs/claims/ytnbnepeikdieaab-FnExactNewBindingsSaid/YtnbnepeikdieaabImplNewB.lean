/-
  The program's NewBindings.
-/
import Derived.Test.YtnbnepeikdieaabCopiedB
import Derived.Test.YtnbnepeikdieaabImplApp
import Derived.Deep.AppendLies
namespace Go.Proofs.Ytnbnepeikdieaab
open Go.RowKit
set_option linter.unusedVariables false
set_option linter.unusedSimpArgs false

/-- The bindings of t whose variables s does not bind. -/
def newOf (s t : List Bd) : List Bd := t.filter fun b => !getB s b.v
theorem newOf_yes {s t : List Bd} {k : Nat} {x : Bd} (hx : t[k]? = some x) (h : getB s x.v = false) : newOf s (t.take (k + 1)) = newOf s (t.take k) ++ [x] := by
  unfold newOf
  rw [List.take_add_one, hx, List.filter_append]
  simp [h]
theorem newOf_not {s t : List Bd} {k : Nat} {x : Bd} (hx : t[k]? = some x) (h : getB s x.v = true) : newOf s (t.take (k + 1)) = newOf s (t.take k) := by
  unfold newOf
  rw [List.take_add_one, hx, List.filter_append]
  simp [h]
theorem newOf_len (s t : List Bd) (k : Nat) : (newOf s (t.take k)).length ≤ t.length := Nat.le_trans (List.length_filter_le _ _) (by rw [List.length_take]; omega)
open Classical in
noncomputable def nbL (s t : List Bd) : List Bd := if SubstP s ∧ SubstP t then newOf s t else []
open Classical in
theorem nb_yes {s t : List Bd} (h : SubstP s ∧ SubstP t) : nbL s t = newOf s t := by rw [nbL, if_pos h]
open Classical in
theorem nb_no {s t : List Bd} (h : ¬ (SubstP s ∧ SubstP t)) : nbL s t = [] := by rw [nbL, if_neg h]
theorem newOf_each {s t : List Bd} (h : EachB t) : EachB (newOf s t) := ⟨Nat.le_trans (List.length_filter_le _ _) h.1, fun b hb => h.2 b (List.mem_filter.1 hb).1⟩
theorem nb_each (s t : List Bd) : EachB (nbL s t) := by
  by_cases h : SubstP s ∧ SubstP t
  · rw [nb_yes h]; exact newOf_each h.2.each
  · rw [nb_no h]; exact ⟨Nat.zero_le _, fun b hb => by simp at hb⟩
theorem getB_none' {s : List Bd} {v : Int} (h : getO s v = none) : getB s v = false := getB_none.2 h
theorem getB_some' {s : List Bd} {v : Int} {t : Tm} (h : getO s v = some t) : getB s v = true := by
  cases hb : getB s v with
  | true => rfl
  | false => rw [getB_none.1 hb] at h; cases h

set_option maxRecDepth 100000 in
set_option maxHeartbeats 4000000 in
theorem implNewBindings_e (s : List Bd) (Vs : Value) (t : List Bd) (Vt : Value) (w : World) (hA : ListS bdE w Any Vs s) (hEs : EachB s) (hFs : ∀ b ∈ s, wfI b.v) (hT : ListS bdE w Any Vt t) (hEt : EachB t) (hFt : ∀ b ∈ t, wfI b.v) :
    Calls Try.prog 7 #[Vs, Vt] w (NewB (nbL s t) w) := by
  obtain ⟨i0, hi, hz0, hz1, hz2⟩ := info_parts infoBinding
  have HII := Lib.hid (And.intro hi (And.intro hz0 (And.intro hz1 hz2)))
  obtain ⟨sa, sc, rfl⟩ := hA.slice
  obtain ⟨a, cap, rfl⟩ := hT.slice
  have HEs := Lib.hid (hEs)
  have HE := Lib.hid (hEt)
  have hL : t.length ≤ 1048576 := HE.out.1
  have HFs := Lib.hid hFs
  have HF := Lib.hid hFt
  have HAs := Lib.hid hA
  have HA := Lib.hid hT
  have HYES := Lib.hid (fun h => nb_yes (s := s) (t := t) h)
  have HNO := Lib.hid (fun h => nb_no (s := s) (t := t) h)
  generalize nbL s t = r at HYES HNO ⊢
  have HC := Lib.hid (implSubstOk_e s _ w hA HEs.out HFs.out)
  clear hA hEs hFs hT hEt hFt hi hz0 hz1 hz2
  go_enter Try.func7, Try.ntmps7
  go_wp2_with fail
  refine HC.out.mono ?_
  rintro e wa ⟨rfl, hb⟩
  have HWa := Lib.hid hb
  clear hb HC
  cases hs : substB s with
  | false =>
    obtain rfl := HNO.out (fun h => substB_false.1 hs h.1)
    clear hs
    go_wp2
    go_ret
    exact ⟨_, rfl, .nil, HWa.out⟩
  | true =>
  have HSs := Lib.hid (substB_true.1 hs)
  have HC := Lib.hid (implSubstOk_e t _ wa (HA.out.kept HWa.out) HE.out HF.out)
  clear hs
  go_wp2_with fail
  refine HC.out.mono ?_
  rintro e wb ⟨rfl, hb⟩
  have HWb := Lib.hid (belowOn HWa.out (Nat.le_refl _) hb)
  clear hb HC HWa
  cases hs : substB t with
  | false =>
    obtain rfl := HNO.out (fun h => substB_false.1 hs h.2)
    clear hs
    go_wp2
    go_ret
    exact ⟨_, rfl, .nil, HWb.out⟩
  | true =>
  have HS := Lib.hid (substB_true.1 hs)
  obtain rfl := HYES.out ⟨HSs.out, HS.out⟩
  have HC := Lib.hid (mapOf_any s _ wb (HAs.out.kept HWb.out) HEs.out.1 HFs.out)
  clear hs HYES HNO
  go_wp2_with fail
  refine HC.out.mono ?_
  rintro e w0 ⟨mb, rfl, _, hm, hb⟩
  have HM := Lib.hid (hm.same (lastO_subst HSs.out))
  have HW := Lib.hid (belowOn HWb.out (Nat.le_refl _) hb)
  clear hb HC HWb hm
  go_wp2
  go_loopw [6, 23] (fun lv cv wr => ∃ k : Nat, k ≤ t.length ∧ cv = .int .i64 k ∧ Hid (ListO bdE 42 wr (iv w0.heap.size wr.heap.size) lv (newOf s (t.take k))) ∧ Hid (Below w0.heap.size w0 wr)) (fun _ cv _ => t.length - (intOf cv).toNat)
  case atStart => exact ⟨0, Nat.zero_le _, rfl, Lib.hid .nil, Lib.hid (Below.refl _ _)⟩
  case round =>
    obtain ⟨k, hk, rfl, HO, HB⟩ := hrel
    obtain ⟨oa, oc, rfl⟩ := HO.out.slice
    by_cases hlt : k < t.length
    · have hltI : (k : Int) < (t.length : Int) := by omega
      obtain ⟨x, hx⟩ : ∃ x, t[k]? = some x := ⟨_, List.getElem?_eq_getElem hlt⟩
      obtain ⟨g, off, u1, u2, rfl, hg, hq, hc, hu⟩ := HA.out.bd hx
      obtain ⟨d0, d1, d2, d3, d4⟩ := hc wr (belowOn HW.out (Nat.le_refl _) HB.out)
      have HX := Lib.hid hx
      have HXG := Lib.hid (HS.out.good x (List.mem_of_getElem? hx))
      have HWF := Lib.hid (HF.out x (List.mem_of_getElem? hx))
      have HU := Lib.hid (at_args (hu.at.kept (belowOn HW.out (Nat.le_refl _) HB.out)))
      have hxz : x.t.sz ≤ 1048576 := by have := HE.out.2 x (List.mem_of_getElem? hx); omega
      obtain ⟨m, hm⟩ : ∃ m, m = (newOf s (t.take k)).length := ⟨_, rfl⟩
      have hmk : m ≤ 1048576 := by have := newOf_len s t k; omega
      rw [← hm]
      have HMM := Lib.hid hm
      clear hq hc hu hx hm
      go_upto_region 8 with (fail)
      have hal : Below wr.heap.size wr (wr.alloc (.cells #[.int .i64 x.v, .int .i64 x.t.kind, .int .i64 x.t.num, .string x.t.name, .slice u1 x.t.args.length u2] 42)) := belowAlloc (Below.refl _ _) _
      have HBX := Lib.hid (at_box_of wr #[.int .i64 x.v, .int .i64 x.t.kind, .int .i64 x.t.num, .string x.t.name, .slice u1 x.t.args.length u2] 42 wr.heap.size rfl)
      have HO1 := Lib.hid ((HO.out.kept hal).sub (fun j hj => (⟨hj.1, by have := hj.2; have := hal.size; omega⟩ : iv w0.heap.size (wr.alloc (.cells #[.int .i64 x.v, .int .i64 x.t.kind, .int .i64 x.t.num, .string x.t.name, .slice u1 x.t.args.length u2] 42)).heap.size j)))
      have HB1 := Lib.hid (belowOn HB.out (Nat.le_refl _) hal)
      have HU1 := Lib.hid (HU.out.read hal)
      clear hal d0 d1 d2 d3 d4 HO HB HU
      generalize hw1 : wr.alloc (.cells #[.int .i64 x.v, .int .i64 x.t.kind, .int .i64 x.t.num, .string x.t.name, .slice u1 x.t.args.length u2] 42) = wp at HBX HO1 HB1 HU1 ⊢
      clear hw1
      generalize wr.heap.size = nb at HBX ⊢
      obtain ⟨e0, e1, e2, e3, e4, ef⟩ := box_cells5 HBX.out.now
      rcases (HM.out.kept HB1.out).look HWF.out with ⟨hg0, hrun⟩ | ⟨y, ya, yc, hg0, hay, hrun⟩
      · have hin := getB_none' hg0
        clear hg0
        go_upto_region 9 with (fail)
        have hal : Below wp.heap.size wp (wp.alloc (.cells #[.int .i64 0, .int .i64 0, .string ⟨#[]⟩, .slice none 0 0] 40)) := belowAlloc (Below.refl _ _) _
        replace HBX := Lib.hid (HBX.out.read hal)
        replace HO1 := Lib.hid ((HO1.out.kept hal).sub (fun j hj => (⟨hj.1, by have := hj.2; have := hal.size; omega⟩ : iv w0.heap.size (wp.alloc (.cells #[.int .i64 0, .int .i64 0, .string ⟨#[]⟩, .slice none 0 0] 40)).heap.size j)))
        replace HB1 := Lib.hid (belowOn HB1.out (Nat.le_refl _) hal)
        replace HU1 := Lib.hid (HU1.out.read hal)
        clear hal hrun e0 e1 e2 e3 e4 ef
        generalize hw2 : wp.alloc (.cells #[.int .i64 0, .int .i64 0, .string ⟨#[]⟩, .slice none 0 0] 40) = w1 at HBX HO1 HB1 HU1 ⊢
        clear hw2
        obtain ⟨e0, e1, e2, e3, e4, ef⟩ := box_cells5 HBX.out.now
        have HK := Lib.hid (newOf_yes HX.out hin)
        have HCO := Lib.hid (copiedB_any x _ w1 HU1.out.argsAt hxz HXG.out)
        clear hin
        go_wp2_with fail
        refine HCO.out.mono ?_
        rintro e w2 ⟨u, rfl, hn⟩
        obtain ⟨ua, uc, rfl⟩ := hn.1.argsAt.slice
        have HN := Lib.hid hn
        obtain ⟨L, C, hL1, hrow, hbk, hr, hC, hd⟩ := (HO1.out.kept hn.2).parts
        have hLn : m = L.length := by have := congrArg List.length hL1; rw [List.length_map, ← HMM.out] at this; exact this
        rw [← hLn, ← HMM.out] at hrow
        rw [← HMM.out] at hbk hC
        have HROW := Lib.hid hrow
        have HPA := Lib.hid (And.intro hL1 (And.intro hLn (And.intro hbk (And.intro hr (And.intro hC hd)))))
        have HB2 := Lib.hid (belowOn HB1.out (Nat.le_refl _) hn.2)
        have hs2 := hn.2.size
        clear hL1 hLn hrow hbk hr hC hd hn HCO e0 e1 e2 e3 e4 ef
        go_wp2_with (at_builtin; refine wpList_append_lies _ rfl _ _ 24 rfl 0 42 i0 _ 5 64 Try.underlying24 HII.out.1 HII.out.2.1 HII.out.2.2.1 HII.out.2.2.2 rfl (by omega) (.slice oa m oc) m (cellsE bdE L) rfl (HROW.out.alloc _) ⟨w2.heap.size, 0, none⟩ 1 1 (bdE.cells x (.slice ua x.t.args.length uc)) rfl rfl (World.news_of_block (heap_alloc_new w2 _)) (by simp [bdE, Value.oneCell']) (by omega) (by unfold maxLen; omega) (by omega) (Nat.zero_le _) (w2.heap.size + 1) (by simp) ?_; intro gg cap' w3 hown1 hgrow hat hlt1; have HAP := Lib.hid (And.intro hown1 (And.intro hgrow (And.intro hat hlt1))); clear hown1 hgrow hat hlt1)
        have HLO : Hid (ListO bdE 42 w3 (iv w0.heap.size w3.heap.size) (.slice (some ⟨gg, 0, none⟩) (m + 1) cap') (newOf s (t.take (k + 1)))) := Lib.hid (by
          have hgs := HAP.out.2.1.size
          simp only [World.size_alloc] at hgs
          have hb1 := HB1.out.size
          have h := listO_append (E := bdE) (x := x) (S' := iv w0.heap.size w3.heap.size) HPA.out.2.1 HPA.out.2.2.1 HPA.out.2.2.2.1 HPA.out.2.2.2.2.1 HPA.out.2.2.2.2.2 HN.out.1 (fun j hj => by have := hj.2; omega) (fun j hj => ⟨hj.2, fun h => by have h1 := hj.1; have h2 := h.2; omega⟩) (belowAlloc (Below.refl _ _) _) HAP.out.1 HAP.out.2.1 (HAP.out.2.2.1.imp id (fun h => by omega)) (fun j hj => by
            have hl := HAP.out.2.2.2
            rcases hj with hj | hj | hj
            · exact ⟨hj.1, by have := hj.2; omega⟩
            · exact ⟨by have := hj.1; omega, by have := hj.2; omega⟩
            · subst hj
              refine ⟨?_, hl⟩
              rcases HAP.out.2.2.1 with h | h
              · exact (HPA.out.2.2.1 _ h).1
              · omega)
          rw [← HPA.out.1, ← HK.out] at h
          exact h)
        have HBF : Hid (Below w0.heap.size w0 w3) := Lib.hid ((belowAlloc HB2.out _).trans (below_of_grown HAP.out.2.1 (by have := HB2.out.size; simp; omega) (fun j hj => by have h := (HPA.out.2.2.1 j hj).1; omega)))
        clear HAP HPA HROW HN
        go_wp2
        go_roundw
        case rel => exact ⟨k + 1, by omega, by go_num, HLO, HBF⟩
        case measure => simp [intOf]; omega
      · have hin := getB_some' hg0
        have HK := Lib.hid (newOf_not HX.out hin)
        clear hg0 hin hay
        go_upto_region 9 with (fail)
        have hal : Below wp.heap.size wp (wp.alloc (.cells #[.int .i64 y.kind, .int .i64 y.num, .string y.name, .slice ya y.args.length yc] 40)) := belowAlloc (Below.refl _ _) _
        replace HO1 := Lib.hid ((HO1.out.kept hal).sub (fun j hj => (⟨hj.1, by have := hj.2; have := hal.size; omega⟩ : iv w0.heap.size (wp.alloc (.cells #[.int .i64 y.kind, .int .i64 y.num, .string y.name, .slice ya y.args.length yc] 40)).heap.size j)))
        replace HB1 := Lib.hid (belowOn HB1.out (Nat.le_refl _) hal)
        clear hal hrun e0 e1 e2 e3 e4 ef HBX HU1
        generalize hw2 : wp.alloc (.cells #[.int .i64 y.kind, .int .i64 y.num, .string y.name, .slice ya y.args.length yc] 40) = w1 at HO1 HB1 ⊢
        clear hw2
        go_wp2
        go_roundw
        case rel => exact ⟨k + 1, by omega, by go_num, Lib.hid (by rw [HK.out, HMM.out]; exact HO1.out), HB1⟩
        case measure => simp [intOf]; omega
    · obtain rfl : k = t.length := by omega
      have HL : Hid (ListO bdE 42 wr (iv w0.heap.size wr.heap.size) (.slice oa (newOf s (t.take t.length)).length oc) (newOf s t)) := Lib.hid (by have := HO.out; rw [List.take_length] at this ⊢; exact this)
      clear HO
      go_wp2
      go_ret
      exact ⟨_, rfl, HL.out.sub fun j hj => ⟨Nat.le_trans HW.out.size hj.1, hj.2⟩, belowOn HW.out (Nat.le_refl _) HB.out⟩
theorem implNewBindings_any (s : List Bd) (Vs : Value) (t : List Bd) (Vt : Value) (w : World) (hA : ListS bdE w Any Vs s) (hZ : szB s ≤ 1048576) (hF : fineB s) (hT : ListS bdE w Any Vt t) (hZt : szB t ≤ 1048576) (hFt : fineB t) :
    Calls Try.prog 7 #[Vs, Vt] w (NewB (nbL s t) w) :=
  implNewBindings_e s Vs t Vt w hA (eachB_of hZ) hF.wf hT (eachB_of hZt) hFt.wf
end Go.Proofs.Ytnbnepeikdieaab

