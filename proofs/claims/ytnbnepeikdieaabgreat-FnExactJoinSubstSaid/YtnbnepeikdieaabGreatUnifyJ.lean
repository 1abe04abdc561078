/-
  The program's JoinSubst.
-/
import Derived.Test.YtnbnepeikdieaabGreatUnifyA
import Derived.Test.YtnbnepeikdieaabGreatItems
namespace Go.Proofs.YtnbnepeikdieaabGreat
open Go.RowKit
set_option linter.unusedVariables false
set_option linter.unusedSimpArgs false

/-- A row of terms that the call owns, their arguments below it. -/
def RowT (w : World) (lo : Nat) (v : Value) (xs : List Tm) : Prop :=
  ∃ L : List (Tm × Value), L.map Prod.fst = xs ∧ w.ownsRow lo 41 4 v L.length (cellsL L) ∧ ∀ (j : Nat) (p : Tm × Value), L[j]? = some p → ArgsS w (fun k => k < lo) p.2 p.1.args
theorem RowT.slice {w : World} {lo : Nat} {v : Value} {xs : List Tm} (h : RowT w lo v xs) : ∃ a c, v = .slice a xs.length c := by
  obtain ⟨L, rfl, h, _⟩ := h
  rw [List.length_map]
  exact row_slice h
theorem RowT.block {w : World} {lo : Nat} {v : Value} {xs : List Tm} (h : RowT w lo v xs) : ∀ k, v.ownBlock = some k → lo ≤ k ∧ k < w.heap.size := by
  obtain ⟨L, _, h, _⟩ := h
  exact fun k hk => World.ownsRow.lt h k hk
theorem RowT.grown {w w' : World} {lo : Nat} {v : Value} {xs : List Tm} {row : Option Nat} (h : RowT w lo v xs) (hlo : lo ≤ w.heap.size) (hg : w.grownBy w' row) (hne : v.ownBlock = none ∨ v.ownBlock ≠ row) (hr : ∀ k, row = some k → lo ≤ k) : RowT w' lo v xs := by
  obtain ⟨L, h1, h2, h3⟩ := h
  exact ⟨L, h1, h2.kept hg hne, fun j p hj => (h3 j p hj).frame hg.size fun k hk hks => hg.block k hks fun e => by have := hr k e.symm; omega⟩
theorem RowT.kept {w w' : World} {lo : Nat} {v : Value} {xs : List Tm} (h : RowT w lo v xs) (hb : Below w.heap.size w w') : RowT w' lo v xs := by
  obtain ⟨L, h1, h2, h3⟩ := h
  refine ⟨L, h1, ⟨h2.1, ?_⟩, fun j p hj => (h3 j p hj).kept hb⟩
  rcases h2.2 with hn | ⟨g, cap, cur, rfl, k1, k2, k3⟩
  · exact .inl hn
  · exact .inr ⟨g, cap, cur, rfl, k1, (hb.block g (Array.getElem?_eq_some_iff.1 k2).1).trans k2, k3⟩
theorem RowT.args {w : World} {lo : Nat} {v : Value} {xs : List Tm} (h : RowT w lo v xs) : ArgsAt w v xs := by
  obtain ⟨L, rfl, hrow, hch⟩ := h
  exact (argsS_row (S := fun _ => True) hrow (fun k hk => trivial) fun j p hj => (hch j p hj).sub fun _ _ => trivial).at
theorem rowT_append {w W1 w1 : World} {lo : Nat} {v u : Value} {L : List (Tm × Value)} {x : Tm} {gg cap n : Nat} (hn : n = L.length) (hlo : lo ≤ w.heap.size)
    (hch : ∀ (j : Nat) (p : Tm × Value), L[j]? = some p → ArgsS w (fun k => k < lo) p.2 p.1.args) (hu : ArgsS w (fun k => k < lo) u x.args) (hv : ∀ k, v.ownBlock = some k → lo ≤ k) (hW : Below w.heap.size w W1)
    (hown : w1.ownsRow lo 41 4 (.slice (some ⟨gg, 0, none⟩) (n + 1) cap) (n + 1) (cellsL L ++ cells4 x u)) (hgr : W1.grownBy w1 v.ownBlock) :
    RowT w1 lo (.slice (some ⟨gg, 0, none⟩) (n + 1) cap) (L.map Prod.fst ++ [x]) := by
  subst hn
  have hs : w.heap.size ≤ w1.heap.size := Nat.le_trans hW.size hgr.size
  have same : ∀ j, j < lo → w1.heap[j]? = w.heap[j]? := fun j hj => (hgr.block j (by have := hW.size; omega) (fun e => by have := hv j e.symm; omega)).trans (hW.block j (by omega))
  have e1 : cellsL (L ++ [(x, u)]) = cellsL L ++ cells4 x u := by rw [cellsL_append]; simp [cellsL]
  rw [← e1] at hown
  refine ⟨L ++ [(x, u)], by simp, by simpa using hown, fun j p hj => ?_⟩
  by_cases hjl : j < L.length
  · rw [List.getElem?_append_left hjl] at hj
    exact (hch j p hj).frame hs fun k hk _ => same k hk
  · have hj' : j = L.length := by
      have := (List.getElem?_eq_some_iff.1 hj).1
      simp at this
      omega
    subst hj'
    rw [List.getElem?_append_right (Nat.le_refl _), Nat.sub_self] at hj
    simp at hj
    subst hj
    exact hu.frame hs fun k hk _ => same k hk
theorem eqns_zip (t : List Bd) : (t.map fun b => varTm b.v).zip (t.map fun b => b.t) = eqnsB t := by
  unfold eqnsB
  induction t with
  | nil => rfl
  | cons b t ih => simp [ih]
theorem js_yes {s t : List Bd} (h : SubstP s ∧ SubstP t) : jsL s t = muL s (eqnsB t) ∧ jsB s t = muB s (eqnsB t) := ⟨by rw [jsL, if_pos h], by rw [jsB, if_pos h]⟩
theorem js_no {s t : List Bd} (h : ¬ (SubstP s ∧ SubstP t)) : jsL s t = [] ∧ jsB s t = false := ⟨by rw [jsL, if_neg h], by rw [jsB, if_neg h]⟩
theorem map_take_snoc {α β : Type} (f : α → β) {l : List α} {k : Nat} {x : α} (h : l[k]? = some x) : (l.take (k + 1)).map f = (l.take k).map f ++ [f x] := by
  rw [List.take_add_one, h]
  simp

set_option maxRecDepth 100000 in
set_option maxHeartbeats 2000000 in
theorem implJoinSubst_e (s : List Bd) (Vs : Value) (t : List Bd) (Vt : Value) (w : World) (hA : ListS bdE w Any Vs s) (hEs : EachB s) (hFs : ∀ b ∈ s, wfI b.v) (hT : ListS bdE w Any Vt t) (hEt : EachB t) (hFt : ∀ b ∈ t, wfI b.v) :
    Calls Tryz.prog 7 #[Vs, Vt] w (NewB2 (jsL s t) (jsB s t) w) := by
  obtain ⟨i0, hi, hz0, hz1, hz2⟩ := info_parts infoTerm
  have HII := Lib.hid (And.intro hi (And.intro hz0 (And.intro hz1 hz2)))
  obtain ⟨sa, sc, rfl⟩ := hA.slice
  obtain ⟨ta, tc, rfl⟩ := hT.slice
  have HYES := Lib.hid (fun h => js_yes (s := s) (t := t) h)
  have HNO := Lib.hid (fun h => js_no (s := s) (t := t) h)
  have HA := Lib.hid hA
  have HT := Lib.hid hT
  have HEt := Lib.hid (hEt)
  have HFt := Lib.hid hFt
  have HC := Lib.hid (implSubstOk_e s _ w hA hEs hFs)
  generalize jsL s t = ul at HYES HNO ⊢
  generalize jsB s t = ub at HYES HNO ⊢
  have END : Hid (¬ (SubstP s ∧ SubstP t) → ∀ W, Below w.heap.size w W → NewB2 ul ub w (.returned (.tuple #[.slice none 0 0, .bool false])) W) := Lib.hid fun h W hW => by
    obtain ⟨rfl, rfl⟩ := HNO.out h
    exact ⟨_, rfl, .nil, hW⟩
  clear hA hEs hFs hT hEt hFt hi hz0 hz1 hz2
  go_enter Tryz.func7, Tryz.ntmps7
  go_wp2_with fail
  refine HC.out.mono ?_
  rintro e w1 ⟨rfl, hb⟩
  have HW1 := Lib.hid hb
  clear hb HC
  cases hs : substB s with
  | false =>
    have HE := Lib.hid (END.out (fun h => substB_false.1 hs h.1) w1 HW1.out)
    clear hs
    go_wp2
    go_ret2
    exact HE.out
  | true =>
  have HS := Lib.hid (substB_true.1 hs)
  have HC := Lib.hid (implSubstOk_e t _ w1 (HT.out.kept HW1.out) HEt.out HFt.out)
  clear hs
  go_wp2_with fail
  refine HC.out.mono ?_
  rintro e w2 ⟨rfl, hb⟩
  have HW2 := Lib.hid (belowOn HW1.out (Nat.le_refl _) hb)
  clear hb HC HW1
  cases hs : substB t with
  | false =>
    have HE := Lib.hid (END.out (fun h => substB_false.1 hs h.2) w2 HW2.out)
    clear hs
    go_wp2
    go_ret2
    exact HE.out
  | true =>
  have HTP := Lib.hid (substB_true.1 hs)
  obtain ⟨rfl, rfl⟩ := HYES.out ⟨HS.out, HTP.out⟩
  have htl : t.length ≤ 400 := HTP.out.1.2.2
  have HT2 := Lib.hid (HT.out.kept HW2.out)
  clear hs HYES HNO END
  go_wp2
  go_loopw [6, 7, 20] (fun lv rv iv wr => ∃ k : Nat, k ≤ t.length ∧ iv = .int .i64 k ∧ Hid (RowT wr w2.heap.size lv ((t.take k).map fun b => varTm b.v)) ∧ Hid (RowT wr w2.heap.size rv ((t.take k).map fun b => b.t)) ∧ Hid (∀ j, lv.ownBlock = some j → rv.ownBlock ≠ some j) ∧ Hid (Below w2.heap.size w2 wr)) (fun _ _ iv _ => t.length - (intOf iv).toNat)
  case atStart => exact ⟨0, Nat.zero_le _, rfl, Lib.hid ⟨[], rfl, World.ownsRow_nil _ _ _ _, fun j p hj => by simp at hj⟩, Lib.hid ⟨[], rfl, World.ownsRow_nil _ _ _ _, fun j p hj => by simp at hj⟩, Lib.hid (fun j hj => by simp [Value.ownBlock] at hj), Lib.hid (Below.refl _ _)⟩
  case round =>
    obtain ⟨k, hk, rfl, HLR, HRR, HDJ, HB⟩ := hrel
    by_cases hlt : k < t.length
    · have hltI : (k : Int) < (t.length : Int) := by omega
      obtain ⟨x, hx⟩ : ∃ x, t[k]? = some x := ⟨_, List.getElem?_eq_getElem hlt⟩
      obtain ⟨g, off, u1, u2, rfl, hg, hq, hc, hu⟩ := HT2.out.bd hx
      obtain ⟨d0, d1, d2, d3, d4⟩ := hc wr HB.out
      have HU := Lib.hid ((hu.low.sub (fun j hj => hj.2) : ArgsS w2 (fun j => j < w2.heap.size) _ _))
      obtain ⟨la, lc, rfl⟩ := HLR.out.slice
      obtain ⟨ra, rc, rfl⟩ := HRR.out.slice
      have hkl : ((t.take k).map fun b => varTm b.v).length = k := by rw [List.length_map, List.length_take]; omega
      have hkr : ((t.take k).map fun b => b.t).length = k := by rw [List.length_map, List.length_take]; omega
      rw [hkl] at HLR HDJ ⊢
      rw [hkr] at HRR HDJ ⊢
      have HX := Lib.hid hx
      have hgl : g < wr.heap.size := Nat.lt_of_lt_of_le hg HB.out.size
      clear hkl hkr hc hu hx hq hg
      go_upto_region 7 with (fail)
      have hal : Below wr.heap.size wr (wr.alloc (.cells #[.int .i64 x.v, .int .i64 x.t.kind, .int .i64 x.t.num, .string x.t.name, .slice u1 x.t.args.length u2] 43)) := belowAlloc (Below.refl _ _) _
      have HBX := Lib.hid (at_box_of wr #[.int .i64 x.v, .int .i64 x.t.kind, .int .i64 x.t.num, .string x.t.name, .slice u1 x.t.args.length u2] 43 wr.heap.size rfl)
      have HB1 := Lib.hid (belowOn HB.out (Nat.le_refl _) hal)
      have HL1 := Lib.hid (HLR.out.kept hal)
      have HR1 := Lib.hid (HRR.out.kept hal)
      have HLT := Lib.hid (And.intro (fun j hj => (HLR.out.block j hj).2) (fun j hj => (HRR.out.block j hj).2))
      clear hal d0 d1 d2 d3 d4 HB HLR HRR hgl
      generalize hw1 : wr.alloc (.cells #[.int .i64 x.v, .int .i64 x.t.kind, .int .i64 x.t.num, .string x.t.name, .slice u1 x.t.args.length u2] 43) = w3 at HBX HB1 HL1 HR1 ⊢
      clear hw1
      generalize wr.heap.size = nb at HBX HLT ⊢
      have HVA := Lib.hid (variable_any x (.slice u1 x.t.args.length u2) w3 (HU.out.kept HB1.out).at)
      obtain ⟨e0, e1, e2, e3, e4, ef⟩ := box_cells5 HBX.out.now
      go_wp2_with fail
      refine HVA.out.mono ?_
      rintro e w4 ⟨rfl, hb4⟩
      have HB4 := Lib.hid (belowOn HB1.out (Nat.le_refl _) hb4)
      have HL4 := Lib.hid (HL1.out.kept hb4)
      have HR4 := Lib.hid (HR1.out.kept hb4)
      have HBX4 := Lib.hid (HBX.out.read hb4)
      obtain ⟨L, hL1, hL2, hL3⟩ := (HL1.out.kept hb4)
      have hLk : k = L.length := by have := congrArg List.length hL1; rw [List.length_map, List.length_map, List.length_take] at this; omega
      rw [← hLk] at hL2
      have HROW := Lib.hid hL2
      have HPL := Lib.hid (And.intro hL1 (And.intro hLk hL3))
      have hwz : w2.heap.size ≤ w4.heap.size := HB4.out.size
      have HPC : Hid (∀ W5 : World, (w4.alloc (.cells #[.int .i64 1, .int .i64 x.v, .string ⟨#[]⟩, .slice none 0 0] 41)).grownBy W5 (Value.slice la k lc).ownBlock → W5.heap[nb]? = some (Obj.cells #[.int .i64 x.v, .int .i64 x.t.kind, .int .i64 x.t.num, .string x.t.name, .slice u1 x.t.args.length u2] 43) ∧ W5.cell? ⟨nb, 1, none⟩ = some (.int .i64 x.t.kind) ∧ W5.cell? ⟨nb, 2, none⟩ = some (.int .i64 x.t.num) ∧ W5.cell? ⟨nb, 3, none⟩ = some (.string x.t.name) ∧ W5.cell? ⟨nb, 4, none⟩ = some (.slice u1 x.t.args.length u2)) := Lib.hid fun W5 hg => by
        have hnb4 : nb < w4.heap.size := lt_of_cells HBX4.out.now
        have hh := ((hg.block nb (by simp; omega) (fun e => by have := HLT.out.1 nb e.symm; omega)).trans ((belowAlloc (Below.refl w4.heap.size w4) (.cells #[.int .i64 1, .int .i64 x.v, .string ⟨#[]⟩, .slice none 0 0] 41)).block nb hnb4)).trans HBX4.out.now
        obtain ⟨_, q1, q2, q3, q4, _⟩ := box_cells5 hh
        exact ⟨hh, q1, q2, q3, q4⟩
      clear hb4 hL1 hL2 hL3 hLk HVA HL1 HR1 HB1 e0 e1 e2 e3 e4 ef HBX
      go_upto_region 8 with (at_builtin; refine wpList_append_lies _ rfl _ _ 39 rfl w2.heap.size 41 i0 _ 4 56 Tryz.underlying39 HII.out.1 HII.out.2.1 HII.out.2.2.1 HII.out.2.2.2 rfl (by omega) (.slice la k lc) k (cellsL L) rfl (HROW.out.alloc _) ⟨w4.heap.size, 0, none⟩ 1 1 (cells4 (varTm x.v) (.slice none 0 0)) rfl rfl (World.news_of_block (heap_alloc_new w4 _)) (by simp [cells4, Value.oneCell']) (by omega) (by unfold maxLen; omega) (by omega) (by simp; omega) (w4.heap.size + 1) (by simp) ?_; intro gg cap' w5 hown1 hgrow hat hlt1; have HAP := Lib.hid (And.intro hown1 (And.intro hgrow (And.intro hat hlt1))); obtain ⟨hbx5, e1, e2, e3, e4⟩ := HPC.out _ hgrow; have HBX5 := Lib.hid hbx5; clear hbx5 hown1 hgrow hat hlt1)
      have HB5 := Lib.hid ((belowAlloc HB4.out (.cells #[.int .i64 1, .int .i64 x.v, .string ⟨#[]⟩, .slice none 0 0] 41)).trans (below_of_grown HAP.out.2.1 (by simp; omega) (fun j hj => (HL4.out.block j hj).1)))
      have HR5 : Hid (RowT w5 w2.heap.size (.slice ra k rc) ((t.take k).map fun b => b.t)) := Lib.hid (by
        refine (HR4.out.kept (belowAlloc (Below.refl w4.heap.size w4) (.cells #[.int .i64 1, .int .i64 x.v, .string ⟨#[]⟩, .slice none 0 0] 41))).grown (by simp; omega) HAP.out.2.1 ?_ (fun j hj => (HL4.out.block j hj).1)
        cases hrb : (Value.slice ra k rc).ownBlock with
        | none => exact .inl rfl
        | some j => exact .inr fun e => HDJ.out j e.symm hrb)
      have HL5 : Hid (RowT w5 w2.heap.size (.slice (some ⟨gg, 0, none⟩) (k + 1) cap') ((t.take (k + 1)).map fun b => varTm b.v)) := Lib.hid (by
        have h := rowT_append (x := varTm x.v) HPL.out.2.1 hwz HPL.out.2.2 (.nil none 0) (fun j hj => (HL4.out.block j hj).1) (belowAlloc (Below.refl _ _) _) HAP.out.1 HAP.out.2.1
        rw [HPL.out.1, ← map_take_snoc (fun b : Bd => varTm b.v) HX.out] at h
        exact h)
      have HDJ5 : Hid (∀ j, (Value.slice (some ⟨gg, 0, none⟩) (k + 1) cap').ownBlock = some j → (Value.slice ra k rc).ownBlock ≠ some j) := Lib.hid fun j hj hrj => by
        have e : gg = j := by simpa [Value.ownBlock] using hj
        subst e
        rcases HAP.out.2.2.1 with h | h
        · exact HDJ.out _ h hrj
        · have := (HR4.out.block _ hrj).2; omega
      have hgg5 : gg < w5.heap.size := HAP.out.2.2.2
      clear HAP HPL HROW HL4 HR4 HBX4 HB4 HDJ hwz HLT HPC
      obtain ⟨L, hL1, hL2, hL3⟩ := HR5.out
      have hLk : k = L.length := by have := congrArg List.length hL1; rw [List.length_map, List.length_map, List.length_take] at this; omega
      rw [← hLk] at hL2
      have HROW := Lib.hid hL2
      have HPL := Lib.hid (And.intro hL1 (And.intro hLk hL3))
      have hwz : w2.heap.size ≤ w5.heap.size := HB5.out.size
      have hnb5 : nb < w5.heap.size := lt_of_cells HBX5.out
      clear hL1 hL2 hL3 hLk
      go_wp2_with (at_builtin; refine wpList_append_lies _ rfl _ _ 39 rfl w2.heap.size 41 i0 _ 4 56 Tryz.underlying39 HII.out.1 HII.out.2.1 HII.out.2.2.1 HII.out.2.2.2 rfl (by omega) (.slice ra k rc) k (cellsL L) rfl (HROW.out.alloc _) ⟨w5.heap.size, 0, none⟩ 1 1 (cells4 x.t (.slice u1 x.t.args.length u2)) rfl rfl (World.news_of_block (heap_alloc_new w5 _)) (by simp [cells4, Value.oneCell']) (by omega) (by unfold maxLen; omega) (by omega) (by simp; omega) (w5.heap.size + 1) (by simp) ?_; intro gg2 cap2 w6 hown1 hgrow hat hlt1; have HAP := Lib.hid (And.intro hown1 (And.intro hgrow (And.intro hat hlt1))); clear hown1 hgrow hat hlt1)
      have HB6 := Lib.hid ((belowAlloc HB5.out (.cells #[.int .i64 x.t.kind, .int .i64 x.t.num, .string x.t.name, .slice u1 x.t.args.length u2] 41)).trans (below_of_grown HAP.out.2.1 (by simp; omega) (fun j hj => (HR5.out.block j hj).1)))
      have HL6 : Hid (RowT w6 w2.heap.size (.slice (some ⟨gg, 0, none⟩) (k + 1) cap') ((t.take (k + 1)).map fun b => varTm b.v)) := Lib.hid (by
        refine (HL5.out.kept (belowAlloc (Below.refl w5.heap.size w5) (.cells #[.int .i64 x.t.kind, .int .i64 x.t.num, .string x.t.name, .slice u1 x.t.args.length u2] 41))).grown (by simp; omega) HAP.out.2.1 (.inr fun e => HDJ5.out gg rfl ?_) (fun j hj => (HR5.out.block j hj).1)
        rw [← e]; rfl)
      have HR6 : Hid (RowT w6 w2.heap.size (.slice (some ⟨gg2, 0, none⟩) (k + 1) cap2) ((t.take (k + 1)).map fun b => b.t)) := Lib.hid (by
        have h := rowT_append (x := x.t) HPL.out.2.1 hwz HPL.out.2.2 (HU.out.kept HB5.out) (fun j hj => (HR5.out.block j hj).1) (belowAlloc (Below.refl _ _) _) HAP.out.1 HAP.out.2.1
        rw [HPL.out.1, ← map_take_snoc (fun b : Bd => b.t) HX.out] at h
        exact h)
      have HDJ6 : Hid (∀ j, (Value.slice (some ⟨gg, 0, none⟩) (k + 1) cap').ownBlock = some j → (Value.slice (some ⟨gg2, 0, none⟩) (k + 1) cap2).ownBlock ≠ some j) := Lib.hid fun j hj hrj => by
        have e : gg = j := by simpa [Value.ownBlock] using hj
        have e2 : gg2 = j := by simpa [Value.ownBlock] using hrj
        subst e
        subst e2
        rcases HAP.out.2.2.1 with h | h
        · exact HDJ5.out _ rfl h
        · omega
      clear HAP HPL HROW HL5 HR5 HBX5 HB5 HDJ5 e1 e2 e3 e4
      go_wp2
      go_roundw
      case rel => exact ⟨k + 1, by omega, by go_num, HL6, HR6, HDJ6, HB6⟩
      case measure => simp [intOf]; omega
    · obtain rfl : k = t.length := by omega
      obtain ⟨la, lc, rfl⟩ := HLR.out.slice
      obtain ⟨ra, rc, rfl⟩ := HRR.out.slice
      have HL := Lib.hid HLR.out.args
      have HR := Lib.hid HRR.out.args
      rw [List.take_length] at HL HR ⊢
      have HC := Lib.hid (solve_any s _ _ _ _ _ wr ((HA.out.kept HW2.out).kept HB.out) HL.out HR.out HS.out (fun u hu => by obtain ⟨b, hb, rfl⟩ := List.mem_map.1 hu; exact varTm_ok (HTP.out.var hb)) (fun u hu => by obtain ⟨b, hb, rfl⟩ := List.mem_map.1 hu; exact ⟨HTP.out.nodes b hb, HTP.out.good b hb⟩) (by rw [List.length_map, List.length_map]) (by rw [eqns_zip]; have := eqns_small HTP.out; omega) (by rw [List.length_map]; omega))
      rw [eqns_zip] at HC
      simp only [List.length_map] at HC ⊢
      clear HLR HRR HDJ HL HR
      go_wp2_with fail
      refine HC.out.mono ?_
      rintro e w4 ⟨V, rfl, hV, hb⟩
      have HE : Hid (NewB2 (muL s (eqnsB t)) (muB s (eqnsB t)) w (.returned (.tuple #[V, .bool (muB s (eqnsB t))])) w4) := Lib.hid ⟨V, rfl, hV.sub fun k hk => ⟨by have h1 := hk.1; have h2 := HW2.out.size; have h3 := HB.out.size; omega, hk.2⟩, belowOn HW2.out (Nat.le_refl _) (belowOn HB.out (Nat.le_refl _) hb)⟩
      clear hV hb HC
      go_wp2
      go_ret2
      exact HE.out
theorem implJoinSubst_any (s : List Bd) (Vs : Value) (t : List Bd) (Vt : Value) (w : World) (hA : ListS bdE w Any Vs s) (hZ : szB s ≤ 1048576) (hF : fineB s) (hT : ListS bdE w Any Vt t) (hZt : szB t ≤ 1048576) (hFt : fineB t) :
    Calls Tryz.prog 7 #[Vs, Vt] w (NewB2 (jsL s t) (jsB s t) w) :=
  implJoinSubst_e s Vs t Vt w hA (eachB_of hZ) hF.wf hT (eachB_of hZt) hFt.wf
end Go.Proofs.YtnbnepeikdieaabGreat

