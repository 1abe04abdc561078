/-
  The model's Unify, l05Join, JoinSubst.
-/
import Derived.Test.YtnbnepeikdieaabGreatSpecAll
import Derived.Test.YtnbnepeikdieaabGreatUnifyJ
namespace Go.Proofs.YtnbnepeikdieaabGreat
open Go.RowKit
set_option linter.unusedVariables false
set_option linter.unusedSimpArgs false

theorem js_each (s t : List Bd) : EachB (jsL s t) := by
  by_cases h : SubstP s ∧ SubstP t
  · rw [(js_yes h).1]
    rcases mu_subst (s := s) (E := eqnsB t) with e | e
    · rw [e]; exact ⟨Nat.zero_le _, fun b hb => by simp at hb⟩
    · exact e.each
  · rw [(js_no h).1]; exact ⟨Nat.zero_le _, fun b hb => by simp at hb⟩
theorem js_nk (s t : List Bd) : nkB (jsL s t) ≤ 4294967296 := by
  by_cases h : SubstP s ∧ SubstP t
  · rw [(js_yes h).1]
    rcases mu_subst (s := s) (E := eqnsB t) with e | e
    · rw [e]; exact Nat.zero_le _
    · exact e.nk
  · rw [(js_no h).1]; exact Nat.zero_le _
theorem js_false {s t : List Bd} (h : jsB s t = false) : jsL s t = [] := by
  by_cases hp : SubstP s ∧ SubstP t
  · rw [(js_yes hp).2] at h
    rw [(js_yes hp).1]
    exact (mu_no (mu_false hp.1 (eqns_ok hp.2) h)).1
  · exact (js_no hp).1
theorem rowT_start {w : World} {lo : Nat} (hl : lo ≤ w.heap.size) : RowT (w.alloc (.cells #[] 41)) lo (.slice (some ⟨w.heap.size, 0, none⟩) 0 0) [] :=
  ⟨[], rfl, ⟨by simp [cellsL], .inr ⟨w.heap.size, 0, #[], rfl, hl, heap_new w _, Nat.le_refl _, Nat.zero_le _, by simp, by simp [cellsL]⟩⟩, fun j p hj => by simp at hj⟩

set_option maxRecDepth 100000 in
set_option maxHeartbeats 4000000 in
theorem specJoin5_any (s : List Bd) (Vs : Value) (t : List Bd) (Vt : Value) (w : World) (hA : ListS bdE w Any Vs s) (hT : ListS bdE w Any Vt t) (hs : SubstP s) (ht : SubstP t) :
    Calls Tryz.prog 13 #[Vs, Vt] w (OldB2 (muL s (eqnsB t)) (muB s (eqnsB t)) w) := by
  obtain ⟨i0, hi, hz0, hz1, hz2⟩ := info_parts infoTerm
  have HII := Lib.hid (And.intro hi (And.intro hz0 (And.intro hz1 hz2)))
  obtain ⟨sa, sc, rfl⟩ := hA.slice
  obtain ⟨ta, tc, rfl⟩ := hT.slice
  have hsl : s.length ≤ 400 := hs.1.2.2
  have htl : t.length ≤ 400 := ht.1.2.2
  have HA := Lib.hid hA
  have HT2 := Lib.hid hT
  have HS := Lib.hid hs
  have HTP := Lib.hid ht
  have HR1 := Lib.hid ((rowT_start (w := w) (Nat.le_refl _)).kept (belowAlloc (Below.refl _ _) (.cells #[] 41)))
  have HR2 := Lib.hid (rowT_start (w := w.alloc (.cells #[] 41)) (lo := w.heap.size) (by simp))
  have HB0 := Lib.hid (belowAlloc (belowAlloc (Below.refl w.heap.size w) (.cells #[] 41)) (.cells #[] 41))
  have hsz0 : (w.alloc (.cells #[] 41)).heap.size = w.heap.size + 1 := by simp
  rw [hsz0] at HR2
  clear hsz0 hA hT hs ht hi hz0 hz1 hz2
  go_enter Tryz.func13, Tryz.ntmps13
  go_wp2
  go_loopw [6, 7, 14] (fun lv rv iv wr => ∃ k : Nat, k ≤ t.length ∧ iv = .int .i64 k ∧ Hid (RowT wr w.heap.size lv ((t.take k).map fun b => varTm b.v)) ∧ Hid (RowT wr w.heap.size rv ((t.take k).map fun b => b.t)) ∧ Hid (∀ j, lv.ownBlock = some j → rv.ownBlock ≠ some j) ∧ Hid (Below w.heap.size w wr)) (fun _ _ iv _ => t.length - (intOf iv).toNat)
  case atStart => exact ⟨0, Nat.zero_le _, rfl, HR1, HR2, Lib.hid (fun j hj h => by simp [Value.ownBlock] at hj h; omega), HB0⟩
  case round =>
    obtain ⟨k, hk, rfl, HLR, HRR, HDJ, HB⟩ := hrel
    clear HR1 HR2 HB0
    by_cases hlt : k < t.length
    · have hltI : (k : Int) < (t.length : Int) := by omega
      obtain ⟨x, hx⟩ : ∃ x, t[k]? = some x := ⟨_, List.getElem?_eq_getElem hlt⟩
      obtain ⟨g, off, u1, u2, rfl, hg, hq, hc, hu⟩ := HT2.out.bd hx
      obtain ⟨d0, d1, d2, d3, d4⟩ := hc wr HB.out
      have HU := Lib.hid ((hu.low.sub (fun j hj => hj.2) : ArgsS w (fun j => j < w.heap.size) _ _))
      obtain ⟨la, lc, rfl⟩ := HLR.out.slice
      obtain ⟨ra, rc, rfl⟩ := HRR.out.slice
      have hkl : ((t.take k).map fun b => varTm b.v).length = k := by rw [List.length_map, List.length_take]; omega
      have hkr : ((t.take k).map fun b => b.t).length = k := by rw [List.length_map, List.length_take]; omega
      rw [hkl] at HLR HDJ ⊢
      rw [hkr] at HRR HDJ ⊢
      have HX := Lib.hid hx
      have hgl : g < wr.heap.size := Nat.lt_of_lt_of_le hg HB.out.size
      clear hkl hkr hc hu hx hq hg
      go_upto_region 6 with (fail)
      have hal : Below wr.heap.size wr (wr.alloc (.cells #[.int .i64 x.v, .int .i64 x.t.kind, .int .i64 x.t.num, .string x.t.name, .slice u1 x.t.args.length u2] 43)) := belowAlloc (Below.refl _ _) _
      have HBX := Lib.hid (at_box_of wr #[.int .i64 x.v, .int .i64 x.t.kind, .int .i64 x.t.num, .string x.t.name, .slice u1 x.t.args.length u2] 43 wr.heap.size rfl)
      have HB1 := Lib.hid (belowOn HB.out (Nat.le_refl _) hal)
      have HL1 := Lib.hid (HLR.out.kept hal)
      have HR1 := Lib.hid (HRR.out.kept hal)
      have HLT := Lib.hid (And.intro (fun j hj => (HLR.out.block j hj).2) (fun j hj => (HRR.out.block j hj).2))
      clear hal d0 d1 d2 d3 d4 HB HLR HRR hgl
      generalize hw1 : wr.alloc (.cells #[.int .i64 x.v, .int .i64 x.t.kind, .int .i64 x.t.num, .string x.t.name, .slice u1 x.t.args.length u2] 43) = w3 at HBX HB1 HL1 HR1 ⊢
      clear hw1
      generalize wr.heap.size = nb at HBX HLT ⊢
      have HVA := Lib.hid (var_any x.v w3)
      obtain ⟨e0, e1, e2, e3, e4, ef⟩ := box_cells5 HBX.out.now
      go_wp2_with fail
      refine HVA.out.mono ?_
      rintro e w4 ⟨rfl, hb4⟩
      have HB4 := Lib.hid (belowOn HB1.out (Nat.le_refl _) hb4)
      have HL4 := Lib.hid (HL1.out.kept hb4)
      have HR4 := Lib.hid (HR1.out.kept hb4)
      have HBX4 := Lib.hid (HBX.out.read hb4)
      obtain ⟨L, hL1, hL2, hL3⟩ := (HL1.out.kept hb4)
      have hLk : k = L.length := by have := congrArg List.length hL1; rw [List.length_map, List.length_map, List.length_take] at this; omega
      rw [← hLk] at hL2
      have HROW := Lib.hid hL2
      have HPL := Lib.hid (And.intro hL1 (And.intro hLk hL3))
      have hwz : w.heap.size ≤ w4.heap.size := HB4.out.size
      have HPC : Hid (∀ W5 : World, (w4.alloc (.cells #[.int .i64 1, .int .i64 x.v, .string ⟨#[]⟩, .slice none 0 0] 41)).grownBy W5 (Value.slice la k lc).ownBlock → W5.heap[nb]? = some (Obj.cells #[.int .i64 x.v, .int .i64 x.t.kind, .int .i64 x.t.num, .string x.t.name, .slice u1 x.t.args.length u2] 43) ∧ W5.cell? ⟨nb, 1, none⟩ = some (.int .i64 x.t.kind) ∧ W5.cell? ⟨nb, 2, none⟩ = some (.int .i64 x.t.num) ∧ W5.cell? ⟨nb, 3, none⟩ = some (.string x.t.name) ∧ W5.cell? ⟨nb, 4, none⟩ = some (.slice u1 x.t.args.length u2)) := Lib.hid fun W5 hg => by
        have hnb4 : nb < w4.heap.size := lt_of_cells HBX4.out.now
        have hh := ((hg.block nb (by simp; omega) (fun e => by have := HLT.out.1 nb e.symm; omega)).trans ((belowAlloc (Below.refl w4.heap.size w4) (.cells #[.int .i64 1, .int .i64 x.v, .string ⟨#[]⟩, .slice none 0 0] 41)).block nb hnb4)).trans HBX4.out.now
        obtain ⟨_, q1, q2, q3, q4, _⟩ := box_cells5 hh
        exact ⟨hh, q1, q2, q3, q4⟩
      clear hb4 hL1 hL2 hL3 hLk HVA HL1 HR1 HB1 e0 e1 e2 e3 e4 ef HBX
      go_upto_region 7 with (at_builtin; refine wpList_append_lies _ rfl _ _ 39 rfl w.heap.size 41 i0 _ 4 56 Tryz.underlying39 HII.out.1 HII.out.2.1 HII.out.2.2.1 HII.out.2.2.2 rfl (by omega) (.slice la k lc) k (cellsL L) rfl (HROW.out.alloc _) ⟨w4.heap.size, 0, none⟩ 1 1 (cells4 (varTm x.v) (.slice none 0 0)) rfl rfl (World.news_of_block (heap_alloc_new w4 _)) (by simp [cells4, Value.oneCell']) (by omega) (by unfold maxLen; omega) (by omega) (by simp; omega) (w4.heap.size + 1) (by simp) ?_; intro gg cap' w5 hown1 hgrow hat hlt1; have HAP := Lib.hid (And.intro hown1 (And.intro hgrow (And.intro hat hlt1))); obtain ⟨hbx5, e1, e2, e3, e4⟩ := HPC.out _ hgrow; have HBX5 := Lib.hid hbx5; clear hbx5 hown1 hgrow hat hlt1)
      have HB5 := Lib.hid ((belowAlloc HB4.out (.cells #[.int .i64 1, .int .i64 x.v, .string ⟨#[]⟩, .slice none 0 0] 41)).trans (below_of_grown HAP.out.2.1 (by simp; omega) (fun j hj => (HL4.out.block j hj).1)))
      have HR5 : Hid (RowT w5 w.heap.size (.slice ra k rc) ((t.take k).map fun b => b.t)) := Lib.hid (by
        refine (HR4.out.kept (belowAlloc (Below.refl w4.heap.size w4) (.cells #[.int .i64 1, .int .i64 x.v, .string ⟨#[]⟩, .slice none 0 0] 41))).grown (by simp; omega) HAP.out.2.1 ?_ (fun j hj => (HL4.out.block j hj).1)
        cases hrb : (Value.slice ra k rc).ownBlock with
        | none => exact .inl rfl
        | some j => exact .inr fun e => HDJ.out j e.symm hrb)
      have HL5 : Hid (RowT w5 w.heap.size (.slice (some ⟨gg, 0, none⟩) (k + 1) cap') ((t.take (k + 1)).map fun b => varTm b.v)) := Lib.hid (by
        have h := rowT_append (x := varTm x.v) HPL.out.2.1 hwz HPL.out.2.2 (.nil none 0) (fun j hj => (HL4.out.block j hj).1) (belowAlloc (Below.refl _ _) _) HAP.out.1 HAP.out.2.1
        rw [HPL.out.1, ← map_take_snoc (fun b : Bd => varTm b.v) HX.out] at h
        exact h)
      have HDJ5 : Hid (∀ j, (Value.slice (some ⟨gg, 0, none⟩) (k + 1) cap').ownBlock = some j → (Value.slice ra k rc).ownBlock ≠ some j) := Lib.hid fun j hj hrj => by
        have e : gg = j := by simpa [Value.ownBlock] using hj
        subst e
        rcases HAP.out.2.2.1 with h | h
        · exact HDJ.out _ h hrj
        · have := (HR4.out.block _ hrj).2; omega
      have hgg5 : gg < w5.heap.size := HAP.out.2.2.2
      clear HAP HPL HROW HL4 HR4 HBX4 HB4 HDJ hwz HLT HPC
      obtain ⟨L, hL1, hL2, hL3⟩ := HR5.out
      have hLk : k = L.length := by have := congrArg List.length hL1; rw [List.length_map, List.length_map, List.length_take] at this; omega
      rw [← hLk] at hL2
      have HROW := Lib.hid hL2
      have HPL := Lib.hid (And.intro hL1 (And.intro hLk hL3))
      have hwz : w.heap.size ≤ w5.heap.size := HB5.out.size
      have hnb5 : nb < w5.heap.size := lt_of_cells HBX5.out
      clear hL1 hL2 hL3 hLk
      go_wp2_with (at_builtin; refine wpList_append_lies _ rfl _ _ 39 rfl w.heap.size 41 i0 _ 4 56 Tryz.underlying39 HII.out.1 HII.out.2.1 HII.out.2.2.1 HII.out.2.2.2 rfl (by omega) (.slice ra k rc) k (cellsL L) rfl (HROW.out.alloc _) ⟨w5.heap.size, 0, none⟩ 1 1 (cells4 x.t (.slice u1 x.t.args.length u2)) rfl rfl (World.news_of_block (heap_alloc_new w5 _)) (by simp [cells4, Value.oneCell']) (by omega) (by unfold maxLen; omega) (by omega) (by simp; omega) (w5.heap.size + 1) (by simp) ?_; intro gg2 cap2 w6 hown1 hgrow hat hlt1; have HAP := Lib.hid (And.intro hown1 (And.intro hgrow (And.intro hat hlt1))); clear hown1 hgrow hat hlt1)
      have HB6 := Lib.hid ((belowAlloc HB5.out (.cells #[.int .i64 x.t.kind, .int .i64 x.t.num, .string x.t.name, .slice u1 x.t.args.length u2] 41)).trans (below_of_grown HAP.out.2.1 (by simp; omega) (fun j hj => (HR5.out.block j hj).1)))
      have HL6 : Hid (RowT w6 w.heap.size (.slice (some ⟨gg, 0, none⟩) (k + 1) cap') ((t.take (k + 1)).map fun b => varTm b.v)) := Lib.hid (by
        refine (HL5.out.kept (belowAlloc (Below.refl w5.heap.size w5) (.cells #[.int .i64 x.t.kind, .int .i64 x.t.num, .string x.t.name, .slice u1 x.t.args.length u2] 41))).grown (by simp; omega) HAP.out.2.1 (.inr fun e => HDJ5.out gg rfl ?_) (fun j hj => (HR5.out.block j hj).1)
        rw [← e]; rfl)
      have HR6 : Hid (RowT w6 w.heap.size (.slice (some ⟨gg2, 0, none⟩) (k + 1) cap2) ((t.take (k + 1)).map fun b => b.t)) := Lib.hid (by
        have h := rowT_append (x := x.t) HPL.out.2.1 hwz HPL.out.2.2 (HU.out.kept HB5.out) (fun j hj => (HR5.out.block j hj).1) (belowAlloc (Below.refl _ _) _) HAP.out.1 HAP.out.2.1
        rw [HPL.out.1, ← map_take_snoc (fun b : Bd => b.t) HX.out] at h
        exact h)
      have HDJ6 : Hid (∀ j, (Value.slice (some ⟨gg, 0, none⟩) (k + 1) cap').ownBlock = some j → (Value.slice (some ⟨gg2, 0, none⟩) (k + 1) cap2).ownBlock ≠ some j) := Lib.hid fun j hj hrj => by
        have e : gg = j := by simpa [Value.ownBlock] using hj
        have e2 : gg2 = j := by simpa [Value.ownBlock] using hrj
        subst e
        subst e2
        rcases HAP.out.2.2.1 with h | h
        · exact HDJ5.out _ rfl h
        · omega
      clear HAP HPL HROW HL5 HR5 HBX5 HB5 HDJ5 e1 e2 e3 e4
      go_wp2
      go_roundw
      case rel => exact ⟨k + 1, by omega, by go_num, HL6, HR6, HDJ6, HB6⟩
      case measure => simp [intOf]; omega
    · obtain rfl : k = t.length := by omega
      obtain ⟨la, lc, rfl⟩ := HLR.out.slice
      obtain ⟨ra, rc, rfl⟩ := HRR.out.slice
      have HL := Lib.hid HLR.out.args
      have HR := Lib.hid HRR.out.args
      rw [List.take_length] at HL HR ⊢
      have HC := Lib.hid (specAll_any s _ _ _ _ _ wr (HA.out.kept HB.out) HS.out HL.out (by rw [List.length_map]; omega) HR.out (fun u hu => by obtain ⟨b, hb, rfl⟩ := List.mem_map.1 hu; exact varTm_ok (HTP.out.var hb)) (fun u hu => by obtain ⟨b, hb, rfl⟩ := List.mem_map.1 hu; exact ⟨HTP.out.nodes b hb, HTP.out.good b hb⟩) (by rw [List.length_map, List.length_map]))
      rw [eqns_zip] at HC
      simp only [List.length_map] at HC ⊢
      clear HLR HRR HDJ HL HR
      go_wp2_with fail
      refine HC.out.mono ?_
      rintro e w4 ⟨V, rfl, hV, hb⟩
      have HE : Hid (OldB2 (muL s (eqnsB t)) (muB s (eqnsB t)) w (.returned (.tuple #[V, .bool (muB s (eqnsB t))])) w4) := Lib.hid ⟨V, rfl, hV, belowOn HB.out (Nat.le_refl _) hb⟩
      clear hV hb HC
      go_wp2
      go_ret2
      exact HE.out
set_option maxRecDepth 100000 in
set_option maxHeartbeats 2000000 in
theorem specJoinSubst_any (s : List Bd) (Vs : Value) (t : List Bd) (Vt : Value) (w : World) (hA : ListS bdE w Any Vs s) (hZ : szB s ≤ 1048576) (hT : ListS bdE w Any Vt t) (hZt : szB t ≤ 1048576) :
    Calls Tryz.prog 5 #[Vs, Vt] w (OldB2 (jsL s t) (jsB s t) w) := by
  obtain ⟨sa, sc, rfl⟩ := hA.slice
  obtain ⟨ta, tc, rfl⟩ := hT.slice
  have HE2 := Lib.hid (eachB_of hZt)
  have HA := Lib.hid hA
  have HT := Lib.hid hT
  have HYES := Lib.hid (fun h => js_yes (s := s) (t := t) h)
  have HNO := Lib.hid (fun h => js_no (s := s) (t := t) h)
  have HEA := Lib.hid (js_each s t)
  have HUF := Lib.hid (fun h => js_false (s := s) (t := t) h)
  have HC := Lib.hid (specSubstOk_any s _ w hA (eachB_of hZ))
  generalize jsL s t = ul at HYES HNO HEA HUF ⊢
  generalize jsB s t = ub at HYES HNO HUF ⊢
  have END : Hid (¬ (SubstP s ∧ SubstP t) → ∀ W, Below w.heap.size w W → OldB2 ul ub w (.returned (.tuple #[.slice none 0 0, .bool false])) W) := Lib.hid fun h W hW => by
    obtain ⟨rfl, rfl⟩ := HNO.out h
    exact ⟨_, rfl, .nil _ _, hW⟩
  clear hA hT hZ hZt
  go_enter Tryz.func5, Tryz.ntmps5
  go_wp2_with fail
  refine HC.out.mono ?_
  rintro e w1 ⟨rfl, hb⟩
  have HW1 := Lib.hid hb
  clear hb HC
  cases hs : substB s with
  | false =>
    have HE := Lib.hid (END.out (fun h => substB_false.1 hs h.1) w1 HW1.out)
    clear hs
    go_wp2
    go_ret2
    exact HE.out
  | true =>
  have HS := Lib.hid (substB_true.1 hs)
  have HC := Lib.hid (specSubstOk_any t _ w1 (HT.out.kept HW1.out) HE2.out)
  clear hs
  go_wp2_with fail
  refine HC.out.mono ?_
  rintro e w2 ⟨rfl, hb⟩
  have HW2 := Lib.hid (belowOn HW1.out (Nat.le_refl _) hb)
  clear hb HC HW1
  cases hs : substB t with
  | false =>
    have HE := Lib.hid (END.out (fun h => substB_false.1 hs h.2) w2 HW2.out)
    clear hs
    go_wp2
    go_ret2
    exact HE.out
  | true =>
  have HTP := Lib.hid (substB_true.1 hs)
  clear hs
  have hI := specJoin5_any s _ t _ w2 (HA.out.kept HW2.out) (HT.out.kept HW2.out) HS.out HTP.out
  obtain ⟨e1, e2⟩ := HYES.out ⟨HS.out, HTP.out⟩
  rw [← e1, ← e2] at hI
  have HC := Lib.hid hI
  clear hI e1 e2 HYES HNO END
  go_wp2_with fail
  refine HC.out.mono ?_
  rintro e w4 ⟨v, rfl, hv, hb⟩
  obtain ⟨va, vc, rfl⟩ := hv.slice
  have HW4 := Lib.hid (belowOn HW2.out (Nat.le_refl _) hb)
  have HV := Lib.hid hv
  clear hv hb HC
  cases ub with
  | false =>
    obtain rfl := HUF.out rfl
    go_wp2
    go_ret2
    exact ⟨_, rfl, .nil _ _, HW4.out⟩
  | true =>
    have HC := Lib.hid (specCopyB_any ul _ w4 HV.out HEA.out)
    go_wp2_with fail
    refine HC.out.mono ?_
    rintro e w5 ⟨v, rfl, hv, hb⟩
    have HV5 := Lib.hid hv
    have HW5 := Lib.hid (belowOn HW4.out (Nat.le_refl _) hb)
    clear hv hb HC
    go_wp2
    go_ret2
    exact ⟨_, rfl, HV5.out, HW5.out⟩
end Go.Proofs.YtnbnepeikdieaabGreat

