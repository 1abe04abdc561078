/-
  The model's l04Copy, l02Has, RestrictSubst.
-/
import Derived.Test.YtjmmeccfjanpcaaSpecLookup
import Derived.Deep.RegionLaw
namespace Go.Proofs.Ytjmmeccfjanpcaa
open Go.RowKit
set_option linter.unusedVariables false
set_option linter.unusedSimpArgs false

/-- The answer is a list that can be read. -/
def OldB (l : List Bd) (w : World) (e : Ending) (w' : World) : Prop := ∃ v, e = .returned v ∧ ListS bdE w' Any v l ∧ Below w.heap.size w w'
theorem rowK_start {α : Type} {E : El α} {e : TypeId} {w : World} : RowK E e (w.alloc (.cells #[] e)) w.heap.size (.slice (some ⟨w.heap.size, 0, none⟩) 0 0) [] :=
  ⟨[], rfl, ⟨by simp [cellsE], .inr ⟨w.heap.size, 0, #[], rfl, Nat.le_refl _, heap_new w _, Nat.le_refl _, Nat.zero_le _, by simp, by simp [cellsE]⟩⟩, fun j p hj => by simp at hj⟩
theorem rowK_block {α : Type} {E : El α} {e : TypeId} {w : World} {lo : Nat} {v : Value} {xs : List α} (h : RowK E e w lo v xs) : ∀ k, v.ownBlock = some k → lo ≤ k ∧ k < w.heap.size := by
  obtain ⟨L, _, hrow, _⟩ := h
  exact fun k hk => World.ownsRow.lt hrow k hk

set_option maxRecDepth 100000 in
set_option maxHeartbeats 4000000 in
theorem specCopyB_any (s : List Bd) (V : Value) (w : World) (hA : ListS bdE w Any V s) (hE : EachB s) :
    Calls Try.prog 56 #[V] w (OldB s w) := by
  obtain ⟨i0, hi, hz0, hz1, hz2⟩ := info_parts infoBinding
  have HII := Lib.hid (And.intro hi (And.intro hz0 (And.intro hz1 hz2)))
  obtain ⟨a, cap, rfl⟩ := hA.slice
  have hL : s.length ≤ 1048576 := hE.1
  have HA := Lib.hid hA
  have HR0 := Lib.hid (rowK_start (E := bdE) (e := 58) (w := w))
  have HW : Hid (Below w.heap.size w (w.alloc (.cells #[] 58))) := Lib.hid (belowAlloc (Below.refl _ _) _)
  clear hA hi hz0 hz1 hz2
  go_enter Try.func56, Try.ntmps56
  go_wp2
  go_loopw [3, 9] (fun lv iv wr => ∃ k : Nat, k ≤ s.length ∧ iv = .int .i64 k ∧ Hid (RowK bdE 58 wr w.heap.size lv (s.take k)) ∧ Hid (Below w.heap.size w wr)) (fun _ iv _ => s.length - (intOf iv).toNat)
  case atStart => exact ⟨0, Nat.zero_le _, rfl, HR0, HW⟩
  case round =>
    obtain ⟨k, hk, rfl, HO, HB⟩ := hrel
    obtain ⟨oa, oc, rfl⟩ := HO.out.slice
    clear HR0 HW
    by_cases hlt : k < s.length
    · have hltI : (k : Int) < (s.length : Int) := by omega
      obtain ⟨x, hx⟩ : ∃ x, s[k]? = some x := ⟨_, List.getElem?_eq_getElem hlt⟩
      obtain ⟨g, off, u1, u2, rfl, hg, hq, hc, hu⟩ := HA.out.bd hx
      obtain ⟨d0, d1, d2, d3, d4⟩ := hc wr HB.out
      have HTK := Lib.hid (takeE hx)
      have HU := Lib.hid (at_args (hu.at.kept HB.out))
      have hxz : x.t.sz ≤ 1048576 := by have := hE.2 x (List.mem_of_getElem? hx); omega
      have hkl : (s.take k).length = k := by rw [List.length_take]; omega
      have HKL := Lib.hid hkl
      clear hq hc hu hx hkl
      go_upto_region 5 with (fail)
      have hal : Below wr.heap.size wr (wr.alloc (.cells #[.int .i64 x.v, .int .i64 x.t.kind, .int .i64 x.t.num, .string x.t.name, .slice u1 x.t.args.length u2] 58)) := belowAlloc (Below.refl _ _) _
      have HBX := Lib.hid (at_box_of wr #[.int .i64 x.v, .int .i64 x.t.kind, .int .i64 x.t.num, .string x.t.name, .slice u1 x.t.args.length u2] 58 wr.heap.size rfl)
      have HO1 := Lib.hid (HO.out.kept hal)
      have HB1 := Lib.hid (belowOn HB.out (Nat.le_refl _) hal)
      have HU1 := Lib.hid (HU.out.read hal)
      clear hal d0 d1 d2 d3 d4 HO HB HU
      generalize hw1 : wr.alloc (.cells #[.int .i64 x.v, .int .i64 x.t.kind, .int .i64 x.t.num, .string x.t.name, .slice u1 x.t.args.length u2] 58) = w1 at HBX HO1 HB1 HU1 ⊢
      clear hw1
      generalize wr.heap.size = nb at HBX ⊢
      have hself : Below w1.heap.size w1 w1 := Below.refl _ _
      have hdrew : Below w1.heap.size w1 w1.drew := hself.drew
      have HCE : Hid (∀ W, Below w1.heap.size w1 W → W.cell? ⟨nb, 0, none⟩ = some (.int .i64 x.v) ∧ W.cell? ⟨nb, 1, none⟩ = some (.int .i64 x.t.kind) ∧ W.cell? ⟨nb, 2, none⟩ = some (.int .i64 x.t.num) ∧ W.cell? ⟨nb, 3, none⟩ = some (.string x.t.name) ∧ W.cell? ⟨nb, 4, none⟩ = some (.slice u1 x.t.args.length u2)) := Lib.hid fun W hW => by
        obtain ⟨y0, y1, y2, y3, y4, _⟩ := box_cells5 (HBX.out.read hW).now
        exact ⟨y0, y1, y2, y3, y4⟩
      obtain ⟨e0, e1, e2, e3, e4⟩ := HCE.out w1 hself
      have HCC : Hid (∀ W, Below w1.heap.size w1 W → Calls Try.prog 43 #[.agg #[.int .i64 x.t.kind, .int .i64 x.t.num, .string x.t.name, .slice u1 x.t.args.length u2]] W fun e w' => ∃ u, e = .returned (.agg #[.int .i64 x.t.kind, .int .i64 x.t.num, .string x.t.name, u]) ∧ ArgsS w' (iv w1.heap.size w'.heap.size) u x.t.args ∧ Below w1.heap.size w1 w') := Lib.hid fun W hW =>
        (specCopy_any (x.t.nodes + 1) x.t _ W (Nat.lt_succ_self _) (HU1.out.read hW).argsAt (by omega)).mono fun e w' ⟨u, he, hu, hb⟩ => ⟨u, he, hu.sub fun j hj => ⟨by have := hW.size; have := hj.1; omega, hj.2⟩, belowOn hW (Nat.le_refl _) hb⟩
      obtain ⟨L, hL1, hrow, hch⟩ := HO1.out
      have hLn : k = L.length := by have := congrArg List.length hL1; rw [HKL.out, List.length_map] at this; exact this
      rw [← hLn] at hrow
      have HROW := Lib.hid hrow
      have HPA := Lib.hid (And.intro hL1 (And.intro hLn hch))
      have HNE := Lib.hid (rowK_block HO1.out)
      have HWZ := Lib.hid HB1.out.size
      have hwz : w.heap.size ≤ w1.heap.size := HB1.out.size
      rw [HKL.out] at *
      clear hL1 hLn hrow hch HA HU1 HBX
      go_region_law (first
        | (refine step_append_lies _ (by rfl) _ _ _ (by rfl) w.heap.size 58 i0 _ 5 64 Try.underlying25 HII.out.1 HII.out.2.1 HII.out.2.2.1 HII.out.2.2.2 rfl (by omega) (.slice oa k oc) k (cellsE bdE L) (by rfl) ((row_kept HROW.out HWB.out).alloc _) ⟨wB.heap.size, 0, none⟩ 1 1 (bdE.cells x (.slice ua x.t.args.length uc)) (by rfl) (by rfl) (World.news_of_block (heap_alloc_new wB _)) (by simp [bdE, Value.oneCell']) (by omega) (by unfold maxLen; omega) (by omega) (by have := HWB.out.size; simp; omega) (wB.heap.size + 1) (by simp) ?_; intro gg cap w2 hown1 hgrow hat hlt1; have HAP := Lib.hid (And.intro hown1 (And.intro hgrow (And.intro hat hlt1))); clear hown1 hgrow hat hlt1)
        | (go_simp; go_at_call 43; (with_reducible refine Calls.mono (HCC.out _ ?_) ?_); (assumption); rintro e wB ⟨u, rfl, hu, hbB⟩; obtain ⟨e0, e1, e2, e3, e4⟩ := HCE.out _ hbB; obtain ⟨ua, uc, rfl⟩ := hu.at.slice; have HU := Lib.hid hu; have HWB := Lib.hid hbB))
      all_goals
        have HBF := Lib.hid ((belowAlloc (belowOn HB1.out (Nat.le_refl _) HWB.out) (.cells #[.int .i64 x.v, .int .i64 x.t.kind, .int .i64 x.t.num, .string x.t.name, .slice ua x.t.args.length uc] 58)).trans (below_of_grown HAP.out.2.1 (by have := HWB.out.size; simp; omega) (fun j hj => (HNE.out j hj).1)))
        have HN : Hid (RowK bdE 58 w2 w.heap.size (.slice (some ⟨gg, 0, none⟩) (k + 1) cap) (s.take (k + 1))) := Lib.hid (by
          have h := rowK_append (E := bdE) (x := x) HPA.out.2.1 (row_kept HROW.out HWB.out) (fun j p hj => by
            obtain ⟨C, c1, c2⟩ := HPA.out.2.2 j p hj
            exact ⟨C, bdE.kidFrame c1 HWB.out.size fun b _ hb => HWB.out.block b hb, fun b hb => ⟨Nat.lt_of_lt_of_le (c2 b hb).1 HWB.out.size, by have := (c2 b hb).2; rwa [HKL.out] at this⟩⟩) (C := iv w1.heap.size wB.heap.size) HU.out (fun b hb => ⟨hb.2, fun e => by have h1 := (HNE.out b e).2; have h2 := hb.1; omega⟩) (belowAlloc (Below.refl _ _) _) HAP.out.1 HAP.out.2.1 (HAP.out.2.2.1.imp id (fun h => by omega))
          rw [← HPA.out.1, ← HTK.out] at h
          exact h)
        clear HAP HPA HROW HU HCC HCE HNE
        go_wp2
        go_roundw
        case rel => exact ⟨k + 1, by omega, by go_num, HN, HBF⟩
        case measure => simp [intOf]; omega
    · obtain rfl : k = s.length := by omega
      have HL := Lib.hid HO.out.inS
      rw [List.take_length] at HL
      go_wp2
      go_ret
      exact ⟨_, rfl, by have := HL.out; simpa using this, HB.out⟩

set_option maxHeartbeats 400000 in
theorem specHas_any (vs : List Int) (V : Value) (n : Int) (w : World) (h : Vals w V (vs.map (.int .i64))) (hl : vs.length ≤ 1048576) :
    Calls Try.prog 55 #[V, .int .i64 n] w fun e w' => e = .returned (.bool (decide (n ∈ vs))) ∧ w = w' := by
  obtain ⟨a, cap, rfl, hv⟩ := h
  rw [List.length_map]
  have HV := Lib.hid hv
  have HYES : Hid (∀ (k : Nat), vs[k]? = some n → decide (n ∈ vs) = true) := Lib.hid fun k hk => decide_eq_true (List.mem_of_getElem? hk)
  have HNO : Hid ((∀ (i : Nat) (y : Int), i < vs.length → vs[i]? = some y → ¬ y = n) → decide (n ∈ vs) = false) := Lib.hid fun h => decide_eq_false fun hm => by
    obtain ⟨i, hi⟩ := List.getElem?_of_mem hm
    exact h i n (List.getElem?_eq_some_iff.1 hi).1 hi rfl
  generalize decide (n ∈ vs) = r at HYES HNO ⊢
  clear hv
  go_enter Try.func55, Try.ntmps55
  go_wp2
  go_loop [9] (fun iv => ∃ k : Nat, k ≤ vs.length ∧ iv = .int .i64 k ∧ Hid (∀ (i : Nat) (y : Int), i < k → vs[i]? = some y → ¬ y = n)) (fun iv => vs.length - (intOf iv).toNat)
  case atStart => exact ⟨0, Nat.zero_le _, rfl, Lib.hid (fun i y hi => absurd hi (Nat.not_lt_zero _))⟩
  case round =>
    obtain ⟨k, hk, rfl, HN⟩ := hrel
    by_cases hlt : k < vs.length
    · have hltI : (k : Int) < (vs.length : Int) := by omega
      obtain ⟨y, hy⟩ : ∃ y, vs[k]? = some y := ⟨_, List.getElem?_eq_getElem hlt⟩
      obtain ⟨g, off, rfl, hg, hc⟩ : ∃ g off, a = some ⟨g, off, none⟩ ∧ g < w.heap.size ∧ ∀ j x, (vs.map (Value.int .i64))[j]? = some x → w.cell? ⟨g, off + j, none⟩ = some x := by
        rcases HV.out with h | h
        · rw [List.map_eq_nil_iff] at h; rw [h] at hlt; exact absurd hlt (Nat.not_lt_zero _)
        · exact h
      have c1 := hc k (.int .i64 y) (by rw [List.getElem?_map, hy]; rfl)
      have HY := Lib.hid hy
      clear hc hy
      by_cases e : y = n
      · have d : (y == n) = true := by rw [e]; exact beq_self_eq_true _
        have HR := Lib.hid (HYES.out k (by rw [HY.out, e]))
        clear e
        go_wp2
        go_ret
        exact ⟨by rw [HR.out]; rfl, rfl⟩
      · have d : (y == n) = false := beq_eq_false_iff_ne.2 e
        have HE := Lib.hid e
        clear e
        go_wp2
        go_round
        case rel =>
          refine ⟨k + 1, by omega, by go_num, Lib.hid fun i z hi hz => ?_⟩
          by_cases q : i = k
          · subst q
            cases hz.symm.trans HY.out
            exact HE.out
          · exact HN.out i z (by omega) hz
        case measure => simp [intOf]; omega
    · obtain rfl : k = vs.length := by omega
      have HR := Lib.hid (HNO.out HN.out)
      go_wp2
      go_ret
      exact ⟨by rw [HR.out]; rfl, rfl⟩

/-- The bindings of some variables. -/
def keep (s : List Bd) (vs : List Int) : List Bd := s.filter fun b => decide (b.v ∈ vs)
open Classical in
noncomputable def rsB (s : List Bd) (vs : List Int) : List Bd := if SubstP s then keep s vs else []
open Classical in
theorem rs_yes {s : List Bd} {vs : List Int} (h : SubstP s) : rsB s vs = keep s vs := by rw [rsB, if_pos h]
open Classical in
theorem rs_no {s : List Bd} {vs : List Int} (h : ¬ SubstP s) : rsB s vs = [] := by rw [rsB, if_neg h]
theorem keep_each {s : List Bd} {vs : List Int} (h : EachB s) : EachB (keep s vs) := ⟨Nat.le_trans (List.length_filter_le _ _) h.1, fun b hb => h.2 b (List.mem_filter.1 hb).1⟩
theorem keep_yes {s : List Bd} {vs : List Int} {k : Nat} {x : Bd} (hx : s[k]? = some x) (h : decide (x.v ∈ vs) = true) : keep (s.take (k + 1)) vs = keep (s.take k) vs ++ [x] := by
  rw [keep, takeE hx, List.filter_append]
  simp only [keep, List.filter_cons, h, List.filter_nil, if_true]
theorem keep_not {s : List Bd} {vs : List Int} {k : Nat} {x : Bd} (hx : s[k]? = some x) (h : decide (x.v ∈ vs) = false) : keep (s.take (k + 1)) vs = keep (s.take k) vs := by
  rw [keep, takeE hx, List.filter_append]
  simp [keep, List.filter_cons, h]
theorem keep_len (s : List Bd) (vs : List Int) (k : Nat) : (keep (s.take k) vs).length ≤ s.length := Nat.le_trans (List.length_filter_le _ _) (by rw [List.length_take]; omega)

set_option maxRecDepth 100000 in
set_option maxHeartbeats 4000000 in
theorem specRestrict_any (s : List Bd) (V : Value) (vs : List Int) (U : Value) (w : World) (hA : ListS bdE w Any V s) (hE : EachB s) (hV : Vals w U (vs.map (.int .i64))) (hl : vs.length ≤ 1048576) :
    Calls Try.prog 24 #[V, U] w (OldB (rsB s vs) w) := by
  obtain ⟨i0, hi, hz0, hz1, hz2⟩ := info_parts infoBinding
  have HII := Lib.hid (And.intro hi (And.intro hz0 (And.intro hz1 hz2)))
  obtain ⟨a, cap, rfl⟩ := hA.slice
  have hL : s.length ≤ 1048576 := hE.1
  have HA := Lib.hid hA.lowB
  have HV := Lib.hid hV
  obtain ⟨va, vc, rfl, _⟩ := hV
  rw [List.length_map] at HV ⊢
  have HR0 := Lib.hid (rowK_start (E := bdE) (e := 58) (w := w))
  have HW : Hid (Below w.heap.size w (w.alloc (.cells #[] 58))) := Lib.hid (belowAlloc (Below.refl _ _) _)
  have HYES := Lib.hid (fun h => rs_yes (s := s) (vs := vs) h)
  have HNO := Lib.hid (fun h => rs_no (s := s) (vs := vs) h)
  generalize rsB s vs = r at HYES HNO ⊢
  clear hA hi hz0 hz1 hz2
  go_enter Try.func24, Try.ntmps24
  go_wp2
  go_loopw [5, 11] (fun lv iv wr => ∃ k : Nat, k ≤ s.length ∧ iv = .int .i64 k ∧ Hid (RowK bdE 58 wr w.heap.size lv (keep (s.take k) vs)) ∧ Hid (Below w.heap.size w wr)) (fun _ iv _ => s.length - (intOf iv).toNat)
  case atStart => exact ⟨0, Nat.zero_le _, rfl, HR0, HW⟩
  case round =>
    obtain ⟨k, hk, rfl, HO, HB⟩ := hrel
    obtain ⟨oa, oc, rfl⟩ := HO.out.slice
    clear HR0 HW
    by_cases hlt : k < s.length
    · have hltI : (k : Int) < (s.length : Int) := by omega
      obtain ⟨x, hx⟩ : ∃ x, s[k]? = some x := ⟨_, List.getElem?_eq_getElem hlt⟩
      obtain ⟨g, off, u1, u2, rfl, hg, hq, hc, hu⟩ := HA.out.bd hx
      obtain ⟨d0, d1, d2, d3, d4⟩ := hc wr HB.out
      have HX := Lib.hid hx
      have HU := Lib.hid (hu.kept HB.out)
      obtain ⟨m, hm⟩ : ∃ m, m = (keep (s.take k) vs).length := ⟨_, rfl⟩
      have hmk : m ≤ 1048576 := by have := keep_len s vs k; omega
      rw [← hm]
      have HM := Lib.hid hm
      clear hq hc hu hx hm
      go_upto_region 5 with (fail)
      have hal : Below wr.heap.size wr (wr.alloc (.cells #[.int .i64 x.v, .int .i64 x.t.kind, .int .i64 x.t.num, .string x.t.name, .slice u1 x.t.args.length u2] 58)) := belowAlloc (Below.refl _ _) _
      have HBX := Lib.hid (at_box_of wr #[.int .i64 x.v, .int .i64 x.t.kind, .int .i64 x.t.num, .string x.t.name, .slice u1 x.t.args.length u2] 58 wr.heap.size rfl)
      have HO1 := Lib.hid (HO.out.kept hal)
      have HB1 := Lib.hid (belowOn HB.out (Nat.le_refl _) hal)
      have HU1 := Lib.hid (HU.out.kept hal)
      clear hal d0 d1 d2 d3 d4 HO HB HU
      generalize hw1 : wr.alloc (.cells #[.int .i64 x.v, .int .i64 x.t.kind, .int .i64 x.t.num, .string x.t.name, .slice u1 x.t.args.length u2] 58) = w1 at HBX HO1 HB1 HU1 ⊢
      clear hw1
      generalize wr.heap.size = nb at HBX ⊢
      have HC := Lib.hid (specHas_any vs _ x.v w1 (HV.out.kept HB1.out) hl)
      obtain ⟨e0, e1, e2, e3, e4, ef⟩ := box_cells5 HBX.out.now
      go_wp2_with fail
      refine HC.out.mono ?_
      rintro e w2 ⟨rfl, rfl⟩
      cases hin : decide (x.v ∈ vs) with
      | true =>
        have HK := Lib.hid (keep_yes HX.out hin)
        obtain ⟨L, hL1, hrow, hch⟩ := HO1.out
        have hLn : m = L.length := by have := congrArg List.length hL1; rw [List.length_map, ← HM.out] at this; exact this
        rw [← hLn, ← HM.out] at hrow
        rw [← HM.out] at hch
        have hne := rowK_block HO1.out
        rw [← HM.out] at hne
        have HROW := Lib.hid hrow
        have HPA := Lib.hid (And.intro hL1 (And.intro hLn hch))
        have HNE := Lib.hid hne
        clear hne
        have hwz : w.heap.size ≤ w1.heap.size := HB1.out.size
        clear hL1 hLn hrow hch hin HC
        go_wp2_with (at_builtin; refine wpList_append_lies _ rfl _ _ 25 rfl w.heap.size 58 i0 _ 5 64 Try.underlying25 HII.out.1 HII.out.2.1 HII.out.2.2.1 HII.out.2.2.2 rfl (by omega) (.slice oa m oc) m (cellsE bdE L) rfl (HROW.out.alloc _) ⟨w1.heap.size, 0, none⟩ 1 1 (bdE.cells x (.slice u1 x.t.args.length u2)) rfl rfl (World.news_of_block (heap_alloc_new w1 _)) (by simp [bdE, Value.oneCell']) (by omega) (by unfold maxLen; omega) (by omega) (by simp; omega) (w1.heap.size + 1) (by simp) ?_; intro gg cap' w2 hown1 hgrow hat hlt1; have HAP := Lib.hid (And.intro hown1 (And.intro hgrow (And.intro hat hlt1))); clear hown1 hgrow hat hlt1)
        have HBF := Lib.hid ((belowAlloc HB1.out (.cells #[.int .i64 x.v, .int .i64 x.t.kind, .int .i64 x.t.num, .string x.t.name, .slice u1 x.t.args.length u2] 58)).trans (below_of_grown HAP.out.2.1 (by simp; omega) (fun j hj => (HNE.out j hj).1)))
        have HN : Hid (RowK bdE 58 w2 w.heap.size (.slice (some ⟨gg, 0, none⟩) (m + 1) cap') (keep (s.take (k + 1)) vs)) := Lib.hid (by
          have h := rowK_append (E := bdE) (x := x) HPA.out.2.1 HROW.out HPA.out.2.2 (C := fun j => j < w.heap.size) HU1.out (fun b hb => ⟨Nat.lt_of_lt_of_le hb hwz, fun e => by have h1 := (HNE.out b e).1; omega⟩) (belowAlloc (Below.refl _ _) _) HAP.out.1 HAP.out.2.1 (HAP.out.2.2.1.imp id (fun h => by omega))
          rw [← HPA.out.1, ← HK.out] at h
          exact h)
        clear HAP HPA HROW HNE e0 e1 e2 e3 e4 ef
        go_wp2
        go_roundw
        case rel => exact ⟨k + 1, by omega, by go_num, HN, HBF⟩
        case measure => simp [intOf]; omega
      | false =>
        have HK := Lib.hid (keep_not HX.out hin)
        clear hin HC e0 e1 e2 e3 e4 ef
        go_wp2
        go_roundw
        case rel => exact ⟨k + 1, by omega, by go_num, Lib.hid (by rw [HK.out, HM.out]; exact HO1.out), HB1⟩
        case measure => simp [intOf]; omega
    · obtain rfl : k = s.length := by omega
      obtain ⟨m, hm⟩ : ∃ m, m = (keep (s.take s.length) vs).length := ⟨_, rfl⟩
      rw [← hm]
      have HL : Hid (ListS bdE wr Any (.slice oa m oc) (keep s vs)) := Lib.hid (by have := HO.out.inS; rw [← hm, List.take_length] at this; exact this)
      clear hm
      have HS := Lib.hid (specSubstOk_any s _ wr (HA.out.any.kept HB.out) hE)
      clear HO
      go_wp2_with fail
      refine HS.out.mono ?_
      rintro e w1 ⟨rfl, hb⟩
      have HB1 := Lib.hid (belowOn HB.out (Nat.le_refl _) hb)
      have HL1 := Lib.hid (HL.out.kept hb)
      clear hb HS HL
      cases hs : substB s with
      | false =>
        obtain rfl := HNO.out (substB_false.1 hs)
        clear hs
        go_wp2
        go_ret
        exact ⟨_, rfl, .nil _ _, HB1.out⟩
      | true =>
        obtain rfl := HYES.out (substB_true.1 hs)
        have HC := Lib.hid (specCopyB_any (keep s vs) _ w1 HL1.out (keep_each hE))
        clear hs
        go_wp2_with fail
        refine HC.out.mono ?_
        rintro e w2 ⟨v, rfl, hv, hb⟩
        have HB2 := Lib.hid (belowOn HB1.out (Nat.le_refl _) hb)
        have HV2 := Lib.hid hv
        clear hv hb HC
        go_wp2
        go_ret
        exact ⟨_, rfl, HV2.out, HB2.out⟩
end Go.Proofs.Ytjmmeccfjanpcaa

