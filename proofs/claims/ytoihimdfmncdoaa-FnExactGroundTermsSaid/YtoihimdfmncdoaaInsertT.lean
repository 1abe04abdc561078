/-
  slices.Insert of one term into a row of terms that the call owns.
-/
import Derived.Test.YtoihimdfmncdoaaCopy4
import Derived.IntWalk
import Derived.Deep.RegionLaw
import Derived.Deep.DeepAppendWide
import Derived.Deep.AppendLies
namespace Go.Proofs.Ytoihimdfmncdoaa
open Go.RowKit
set_option linter.unusedVariables false
set_option linter.unusedSimpArgs false

theorem infoTermT : (Try.prog.info? 25).map (fun i => (i.zero, i.size, i.bytes)) = some (some (.agg #[.int .i64 0, .int .i64 0, .string ⟨#[]⟩, .slice none 0 0]), 4, 56) := by kernel_rfl
theorem sizeTermT : (Try.prog.info? 25).map (·.size) = some 4 := by kernel_rfl
theorem tm_one {L : List (Tm × Value)} {w : World} {Z : Nat → Prop} (h : ∀ (j : Nat) (p : Tm × Value), L[j]? = some p → ArgsS w Z p.2 p.1.args) : ∀ u ∈ cellsE tmE L, u.oneCell' = true := by
  intro u hu
  obtain ⟨p, hp, hu⟩ := List.mem_flatMap.1 hu
  obtain ⟨j, hj⟩ := List.getElem?_of_mem hp
  obtain ⟨a, c, he⟩ := (h j p hj).at.slice
  simp only [tmE, cells4, List.mem_cons, List.not_mem_nil, or_false] at hu
  rcases hu with rfl | rfl | rfl | rfl
  · rfl
  · rfl
  · rfl
  · rw [he]; rfl
theorem cellsE_take (L : List (Tm × Value)) (k : Nat) : (cellsE tmE L).take (k * 4) = cellsE tmE (L.take k) := by
  by_cases hk : k ≤ L.length
  · have h : cellsE tmE L = cellsE tmE (L.take k) ++ cellsE tmE (L.drop k) := by rw [← cellsE_append, List.take_append_drop]
    have hl : (cellsE tmE (L.take k)).length = k * 4 := by rw [cellsE_length, List.length_take, show min k L.length = k from by omega]; rfl
    rw [h, List.take_append_of_le_length (by omega), List.take_of_length_le (by omega)]
  · rw [List.take_of_length_le (by rw [cellsE_length]; show L.length * 4 ≤ k * 4; omega), List.take_of_length_le (by omega)]
theorem cellsE_drop (L : List (Tm × Value)) (k : Nat) (hk : k ≤ L.length) : (cellsE tmE L).drop (k * 4) = cellsE tmE (L.drop k) := by
  have h : cellsE tmE L = cellsE tmE (L.take k) ++ cellsE tmE (L.drop k) := by rw [← cellsE_append, List.take_append_drop]
  have hl : (cellsE tmE (L.take k)).length = k * 4 := by rw [cellsE_length, List.length_take, show min k L.length = k from by omega]; rfl
  rw [h, List.drop_append_of_le_length (by omega), List.drop_of_length_le (by omega), List.nil_append]

def InsR (Z : Nat → Prop) (V : Value) (l : List Tm) (w : World) (e : Ending) (w' : World) : Prop :=
  ∃ U, e = .returned U ∧ RowT w' Z U l ∧ Only (fun k => V.ownBlock = some k) w w' ∧ ∀ b, U.ownBlock = some b → V.ownBlock = some b ∨ w.heap.size ≤ b

set_option maxRecDepth 100000 in
set_option maxHeartbeats 8000000 in
/-- At the end. -/
theorem insert_end (l : List Tm) (V : Value) (Z : Nat → Prop) (t : Tm) (Vt : Value) (gv : Nat) (w : World) (h : RowT w Z V l) (hl : l.length ≤ 512) (hv : w.heap[gv]? = some (.cells #[.int .i64 t.kind, .int .i64 t.num, .string t.name, Vt] 25)) (ht : ArgsS w Z Vt t.args) (hZ : ∀ k, Z k → k < w.heap.size) :
    Calls Try.prog 73 #[V, .int .i64 (l.length : Int), .slice (some ⟨gv, 0, none⟩) 1 1] w (InsR Z V (l ++ [t]) w) := by
  obtain ⟨i0, hi, hz0, hz1, hz2⟩ := info_parts infoTermT
  have HII := Lib.hid (And.intro hi (And.intro hz0 (And.intro hz1 hz2)))
  obtain ⟨va, vc, rfl⟩ := h.slice
  obtain ⟨L, hL, hrow, hch, hno⟩ := h
  have hLn : l.length = L.length := by rw [hL, List.length_map]
  have hcp : l.length ≤ vc ∧ vc ≤ 9223372036854775807 := by
    rcases hrow.2 with ⟨h, hn⟩ | ⟨g', cap', cur, he, _, _, h1, h2, _⟩
    · simp only [Value.slice.injEq] at h
      obtain ⟨_, h2, h3⟩ := h
      omega
    · simp only [Value.slice.injEq] at he
      obtain ⟨_, _, rfl⟩ := he
      unfold maxLen at h2
      exact ⟨by omega, by omega⟩
  have hva : va = none → l.length = 0 ∧ vc = 0 := by
    intro hn
    rcases hrow.2 with ⟨h, hn'⟩ | ⟨g', cap', cur, he, _⟩
    · simp only [Value.slice.injEq] at h
      exact ⟨h.2.1, h.2.2⟩
    · rw [hn] at he; cases he
  have hrow' : w.ownsRow 0 25 4 (.slice va l.length vc) l.length (cellsE tmE L) := by have := hrow; rw [← hLn] at this; exact this
  have HR := Lib.hid hrow'
  have HL := Lib.hid (And.intro hL (And.intro hch hno))
  have HLN := Lib.hid hLn
  have HT := Lib.hid (And.intro ht hZ)
  have HV := Lib.hid hv
  have HVC := Lib.hid hva
  obtain ⟨hc1, hc2⟩ := hcp
  obtain ⟨ta, tc, rfl⟩ := ht.at.slice
  have HSRC : Hid (∀ j u, (cells4 t (.slice ta t.args.length tc))[j]? = some u → w.cell? ((⟨gv, 0, none⟩ : Addr).add j) = some u) := Lib.hid fun j u hj => by
    obtain ⟨q0, q1, q2, q3, _⟩ := box_cells HV.out
    rw [show (⟨gv, 0, none⟩ : Addr).add j = ⟨gv, j, none⟩ from by unfold Addr.add; split <;> simp_all]
    have hj4 : j < 4 := (List.getElem?_eq_some_iff.1 hj).1
    match j, hj with
    | 0, hj => simp [cells4] at hj; rw [← hj]; exact q0
    | 1, hj => simp [cells4] at hj; rw [← hj]; exact q1
    | 2, hj => simp [cells4] at hj; rw [← hj]; exact q2
    | 3, hj => simp [cells4] at hj; rw [← hj]; exact q3
  have h0l : (0 : Int) ≤ (l.length : Int) := by omega
  have hlc : (l.length : Int) ≤ (vc : Int) := by omega
  have HEND : Hid (∀ (gg cap : Nat) (w2 : World), w2.ownsRow 0 25 4 (.slice (some ⟨gg, 0, none⟩) (l.length + 1) cap) (l.length + 1) (cellsE tmE L ++ cells4 t (.slice ta t.args.length tc)) → w.grownBy w2 (Value.slice va l.length vc).ownBlock → ((Value.slice va l.length vc).ownBlock = some gg ∨ gg = w.heap.size) → InsR Z (.slice va l.length vc) (l ++ [t]) w (.returned (.slice (some ⟨gg, 0, none⟩) (l.length + 1) cap)) w2) := Lib.hid fun gg cap w2 h1 h2 h3 => by
    have hol : Only (fun k => (Value.slice va l.length vc).ownBlock = some k) w w2 := ⟨h2.os, h2.tape, h2.output, h2.size, fun k hk hn => h2.block k hk fun e => hn e.symm⟩
    refine ⟨_, rfl, ⟨L ++ [(t, .slice ta t.args.length tc)], by rw [HL.out.1]; simp, ?_, fun j p hj => ?_, fun b hb hz => ?_⟩, hol, fun b hb => ?_⟩
    · rw [cellsE_append, cellsE_one, List.length_append, ← HLN.out]
      exact h1
    · have hk : ∀ k, Z k → k < w.heap.size → w2.heap[k]? = w.heap[k]? := fun k hk hl => hol.block k hl fun e => HL.out.2.2 k e hk
      by_cases hjl : j < L.length
      · rw [List.getElem?_append_left hjl] at hj
        exact (HL.out.2.1 j p hj).frame hol.size hk
      · rw [List.getElem?_append_right (by omega)] at hj
        have hj0 : j - L.length = 0 := by have := (List.getElem?_eq_some_iff.1 hj).1; simp at this; omega
        rw [hj0] at hj
        simp at hj
        rw [← hj]
        exact HT.out.1.frame hol.size hk
    · simp only [Value.ownBlock, Option.some.injEq] at hb
      subst hb
      rcases h3 with h | h
      · exact HL.out.2.2 gg h hz
      · have := HT.out.2 gg hz; omega
    · simp only [Value.ownBlock, Option.some.injEq] at hb
      subst hb
      exact h3.imp id fun h => by omega
  clear hi hz0 hz1 hz2 hrow hrow' hL hch hno hLn hv ht hZ hva
  by_cases hcl : vc = l.length
  · subst hcl
    go_enter Try.func73, Try.ntmps73
    go_wp2_with (at_builtin; refine wpList_append_lies _ rfl _ _ 23 rfl 0 25 i0 _ 4 56 Try.underlying23 HII.out.1 HII.out.2.1 HII.out.2.2.1 HII.out.2.2.2 rfl (by decide) _ l.length _ rfl HR.out ⟨gv, 0, none⟩ 1 1 (cells4 t (.slice ta t.args.length tc)) rfl rfl HSRC.out (by intro u hu; simp [cells4] at hu; rcases hu with rfl | rfl | rfl | rfl <;> rfl) (by omega) (by unfold maxLen; omega) (by omega) (Nat.zero_le _) w.heap.size rfl ?_; intro gg cap w2 ha1 ha2 ha3 ha4; have HAP := Lib.hid (And.intro ha1 (And.intro ha2 ha3)); clear ha1 ha2 ha3 ha4)
    go_ret
    exact HEND.out _ _ _ HAP.out.1 HAP.out.2.1 HAP.out.2.2
  · have hcl2 : ¬ (l.length : Int) = (vc : Int) := by omega
    go_enter Try.func73, Try.ntmps73
    go_wp2_with (at_builtin; refine wpList_append_lies _ rfl _ _ 23 rfl 0 25 i0 _ 4 56 Try.underlying23 HII.out.1 HII.out.2.1 HII.out.2.2.1 HII.out.2.2.2 rfl (by decide) _ l.length _ rfl HR.out ⟨gv, 0, none⟩ 1 1 (cells4 t (.slice ta t.args.length tc)) rfl rfl HSRC.out (by intro u hu; simp [cells4] at hu; rcases hu with rfl | rfl | rfl | rfl <;> rfl) (by omega) (by unfold maxLen; omega) (by omega) (Nat.zero_le _) w.heap.size rfl ?_; intro gg cap w2 ha1 ha2 ha3 ha4; have HAP := Lib.hid (And.intro ha1 (And.intro ha2 ha3)); clear ha1 ha2 ha3 ha4)
    go_ret
    exact HEND.out _ _ _ HAP.out.1 HAP.out.2.1 HAP.out.2.2

theorem addr_add (g o j : Nat) : (⟨g, o, none⟩ : Addr).add j = ⟨g, o + j, none⟩ := by unfold Addr.add; split <;> simp_all
/-- slices.overlaps at the new term's block and the row's. -/
theorem overlaps_apart (w : World) (gv g : Nat) (o lb cb : Nat) (cv cur : Array Value) (hv : w.heap[gv]? = some (.cells cv 25 (0, 0))) (hg : w.heap[g]? = some (.cells cur 25 (0, 0))) (hne : gv ≠ g) (hc : cur.size ≠ 0) :
    (callFunc 123 #[.slice (some ⟨gv, 0, none⟩) 1 1, .slice (some ⟨g, o, none⟩) lb cb]).run Try.prog w = .ok (.value (.bool false)) w := by
  rw [run_callFunc_extern Try.func123 (by kernel_rfl) (by kernel_rfl) (by kernel_rfl) (e := Extern.SlicesOverlaps.overlaps #[23, 23] #[4]) (by kernel_rfl),
    Lib.run_overlaps_apart w 23 4 25 Try.underlying23 4 Try.sizeOf25 ⟨gv, 0, none⟩ ⟨g, o, none⟩ 1 1 lb cb hne 25 25 cv.size cur.size (by simp [World.shape?, hv]) (by simp [World.shape?, hg]) hc (by simp [World.frozen?, hv]) (by simp [World.frozen?, hv])]
  rfl

theorem splice_insert {C0 CS c4 A : List Value} {i n : Nat} (hA : C0.take (i * 4) = A) (hi : i ≤ n) (hc : (n + 1) * 4 ≤ C0.length) (h4 : c4.length = 4) (hS : CS.length = (n - i) * 4) :
    (splice (splice C0 ((i + 1) * 4) CS) (i * 4) c4).take ((n + 1) * 4) = A ++ (c4 ++ CS) ∧ (splice (splice C0 ((i + 1) * 4) CS) (i * 4) c4).length = C0.length := by
  have hl1 : (splice C0 ((i + 1) * 4) CS).length = C0.length := length_splice _ _ _ (by omega)
  have hl2 : (splice (splice C0 ((i + 1) * 4) CS) (i * 4) c4).length = C0.length := by rw [length_splice _ _ _ (by omega), hl1]
  refine ⟨?_, hl2⟩
  have hAl : A.length = i * 4 := by rw [← hA, List.length_take]; omega
  have e1 : (splice C0 ((i + 1) * 4) CS).take (i * 4) = A := by
    unfold splice
    rw [List.take_append_of_le_length (by rw [List.length_take]; omega), List.take_take, show min (i * 4) ((i + 1) * 4) = i * 4 by omega, hA]
  have e2 : (splice C0 ((i + 1) * 4) CS).drop (i * 4 + c4.length) = CS ++ C0.drop ((i + 1) * 4 + CS.length) := by
    unfold splice
    rw [h4, show i * 4 + 4 = (i + 1) * 4 by omega, List.drop_append_of_le_length (by rw [List.length_take]; omega), List.drop_of_length_le (by rw [List.length_take]; omega), List.nil_append]
  conv => lhs; unfold splice
  rw [show List.take (i * 4) (List.take ((i + 1) * 4) C0 ++ (CS ++ List.drop ((i + 1) * 4 + CS.length) C0)) = A from e1, show List.drop (i * 4 + c4.length) (List.take ((i + 1) * 4) C0 ++ (CS ++ List.drop ((i + 1) * 4 + CS.length) C0)) = _ from e2]
  rw [← List.append_assoc c4, ← List.append_assoc A, List.take_append_of_le_length (by simp only [List.length_append]; omega), List.take_of_length_le (by simp only [List.length_append]; omega)]
theorem splice_insert2 {A R CS c4 : List Value} {i n : Nat} (hA : A.length = i * 4) (hi : i ≤ n) (hR : (n + 1 - i) * 4 ≤ R.length) (h4 : c4.length = 4) (hS : CS.length = (n - i) * 4) :
    (splice (splice (A ++ R) (i * 4) c4) ((i + 1) * 4) CS).take ((n + 1) * 4) = A ++ (c4 ++ CS) ∧ (splice (splice (A ++ R) (i * 4) c4) ((i + 1) * 4) CS).length = (A ++ R).length := by
  have hl : (A ++ R).length = i * 4 + R.length := by rw [List.length_append, hA]
  have hl1 : (splice (A ++ R) (i * 4) c4).length = (A ++ R).length := length_splice _ _ _ (by omega)
  refine ⟨?_, by rw [length_splice _ _ _ (by omega), hl1]⟩
  have e0 : splice (A ++ R) (i * 4) c4 = (A ++ c4) ++ R.drop 4 := by
    unfold splice
    rw [← hA, List.take_left, List.append_assoc, h4]
    congr 2
    rw [show A.length + 4 = A.length + 4 from rfl, ← List.drop_drop, List.drop_left]
  rw [e0]
  unfold splice
  have e1 : ((A ++ c4) ++ R.drop 4).take ((i + 1) * 4) = A ++ c4 := by rw [List.take_append_of_le_length (by rw [List.length_append]; omega), List.take_of_length_le (by rw [List.length_append]; omega)]
  rw [e1, ← List.append_assoc (A ++ c4), List.take_append_of_le_length (by simp only [List.length_append]; omega), List.take_of_length_le (by simp only [List.length_append]; omega), List.append_assoc]

set_option maxRecDepth 100000 in
set_option maxHeartbeats 8000000 in
/-- In the middle, where there is room. -/
theorem insert_room (l : List Tm) (g cap i : Nat) (Z : Nat → Prop) (t : Tm) (Vt : Value) (gv : Nat) (w : World) (h : RowT w Z (.slice (some ⟨g, 0, none⟩) l.length cap) l) (hl : l.length ≤ 512) (hi : i < l.length) (hcap : l.length < cap) (hv : w.heap[gv]? = some (.cells #[.int .i64 t.kind, .int .i64 t.num, .string t.name, Vt] 25)) (hgv : gv ≠ g) (ht : ArgsS w Z Vt t.args) (hZ : ∀ k, Z k → k < w.heap.size) :
    Calls Try.prog 73 #[.slice (some ⟨g, 0, none⟩) l.length cap, .int .i64 (i : Int), .slice (some ⟨gv, 0, none⟩) 1 1] w (InsR Z (.slice (some ⟨g, 0, none⟩) l.length cap) (l.take i ++ t :: l.drop i) w) := by
  obtain ⟨L, hL, hrow, hch, hno⟩ := h
  have hLn : l.length = L.length := by rw [hL, List.length_map]
  rcases hrow.2 with ⟨hn, _⟩ | ⟨g', cap', cur, he, _, hg, h1, h2, h3, h4⟩
  · cases hn
  simp only [Value.slice.injEq, Option.some.injEq, Addr.mk.injEq, and_true] at he
  obtain ⟨rfl, he2, rfl⟩ := he
  clear he2
  obtain ⟨ta, tc, rfl⟩ := ht.at.slice
  have hc9 : cap ≤ 9223372036854775807 := h2
  have HL := Lib.hid (And.intro hL (And.intro hch hno))
  have HLN := Lib.hid hLn
  have HT := Lib.hid (And.intro ht hZ)
  have HV := Lib.hid hv
  have HG : Hid (w.heap[g]? = some (.cells cur.toList.toArray 25 (0, 0))) := Lib.hid (by rw [Array.toArray_toList]; exact hg)
  have HCUR : Hid (cur.toList.length = cap * 4 ∧ cur.toList.take (L.length * 4) = cellsE tmE L) := Lib.hid ⟨by simpa using h3, h4⟩
  have HOV : Hid (∀ lb cb, (callFunc 123 #[.slice (some ⟨gv, 0, none⟩) 1 1, .slice (some ⟨g, (i + 1) * 4, none⟩) lb cb]).run Try.prog w = .ok (.value (.bool false)) w) := Lib.hid fun lb cb => overlaps_apart w gv g _ lb cb _ cur hv hg hgv (by rw [h3]; omega)
  -- what lies in the row from i on
  have HSRC : Hid (∀ j u, (cellsE tmE (L.drop i))[j]? = some u → w.cell? ((⟨g, i * 4, none⟩ : Addr).add j) = some u) := Lib.hid fun j u hj => by
    rw [addr_add]
    rw [← cellsE_drop L i (by omega), ← h4, List.getElem?_drop, List.getElem?_take] at hj
    split at hj
    · rw [Array.getElem?_toList] at hj
      simp [World.cell?, hg, hj]
    · cases hj
  have HSRV : Hid (∀ (W : World), Only (fun k => k = g) w W → ∀ j u, (cells4 t (.slice ta t.args.length tc))[j]? = some u → W.cell? ((⟨gv, 0, none⟩ : Addr).add j) = some u) := Lib.hid fun W hW j u hj => by
    have hvW := (hW.block gv (Array.getElem?_eq_some_iff.1 hv).1 hgv).trans hv
    obtain ⟨q0, q1, q2, q3, _⟩ := box_cells hvW
    rw [addr_add, Nat.zero_add]
    have hj4 : j < 4 := (List.getElem?_eq_some_iff.1 hj).1
    match j, hj with
    | 0, hj => simp [cells4] at hj; rw [← hj]; exact q0
    | 1, hj => simp [cells4] at hj; rw [← hj]; exact q1
    | 2, hj => simp [cells4] at hj; rw [← hj]; exact q2
    | 3, hj => simp [cells4] at hj; rw [← hj]; exact q3
  have HONE : Hid (∀ u ∈ cellsE tmE (L.drop i), u.oneCell' = true) := Lib.hid (tm_one fun j p hj => hch (i + j) p (by rwa [List.getElem?_drop] at hj))
  have HDL : Hid ((cellsE tmE (L.drop i)).length = (l.length - i) * 4) := Lib.hid (by rw [cellsE_length, List.length_drop, hLn]; rfl)
  obtain ⟨CS, hCS⟩ : ∃ CS, cellsE tmE (L.drop i) = CS := ⟨_, rfl⟩
  obtain ⟨C0, hC0⟩ : ∃ C0, cur.toList = C0 := ⟨_, rfl⟩
  rw [hCS] at HSRC HONE HDL
  rw [hC0] at HG HCUR
  have HCS := Lib.hid hCS
  have HIN := Lib.hid (And.intro hi hcap)
  clear hL hrow hch hno hLn hg h1 h2 h3 h4 hv ht hZ hCS hC0
  have a1 : ((i : Int) == (l.length : Int)) = false := by rw [beq_eq_false_iff_ne]; omega
  have a2 : (0 : Int) ≤ (i : Int) := by omega
  have a3 : (i : Int) ≤ (l.length : Int) := by omega
  have a4 : (l.length : Int) ≤ (cap : Int) := by omega
  have a5 : ¬ ((cap : Int) < (l.length : Int) + 1) := by omega
  have a6 : (l.length : Int) + 1 ≤ (cap : Int) := by omega
  have a7 : ¬ (cap = i) := by omega
  have a8 : ¬ (cap = i + 1) := by omega
  have a9 : (i : Int) + 1 ≤ (l.length : Int) + 1 := by omega
  have a10 : (i : Int) ≤ (l.length : Int) + 1 := by omega
  have a11 : (0 : Int) ≤ (l.length : Int) + 1 := by omega
  have a12 : (0 : Int) ≤ (i : Int) + 1 := by omega
  have hw1 : IntKind.i64.wrap ((i : Int) + 1) = (i : Int) + 1 := IntWalk.i64_in _ (by omega)
  have hn1 : ((i : Int) + 1).toNat = i + 1 := by omega
  have hov := HOV.out
  go_enter Try.func73, Try.ntmps73
  go_upto_region 15 with (simp only [hov])
  go_region_law (refine step_copy4 rfl _ _ 23 23 rfl 25 Try.underlying23 sizeTermT g ((i + 1) * 4) (l.length - i) (cap - (i + 1)) ⟨g, i * 4, none⟩ (l.length + 1 - i) (cap - i) (by simp [Act.eval, Act.put]) (by simp [Act.eval, Act.put]) C0 25 HG.out CS (by rw [HDL.out]; simp only [Nat.min_def]; split <;> omega) HSRC.out (by rw [HDL.out, HCUR.out.1]; omega) HONE.out ?_; intro w2 H1 H2)
  all_goals
    have H2 : Hid (Only (fun k => k = g) w w2) := Lib.hid (by first | exact H2.out | exact ⟨H2.out.os, H2.out.tape, H2.out.output, H2.out.size, H2.out.block⟩)
    have hlen : (splice C0 ((i + 1) * 4) CS).length = cap * 4 := by rw [length_splice _ _ _ (by rw [HDL.out, HCUR.out.1]; omega), HCUR.out.1]
    have HLEN := Lib.hid hlen
    clear hlen
    go_wp2_with ((refine wpList_copy4 rfl _ _ 23 23 rfl 25 Try.underlying23 sizeTermT g (i * 4) (l.length + 1 - i) (cap - i) ⟨gv, 0, none⟩ 1 1 (by simp [Act.eval, Act.put]) (by simp [Act.eval, Act.put]) (splice C0 ((i + 1) * 4) CS) 25 H1.out (cells4 t (.slice ta t.args.length tc)) (by show 4 = _; simp only [Nat.min_def]; split <;> omega) (HSRV.out _ H2.out) (by rw [HLEN.out]; show i * 4 + 4 ≤ _; omega) (by intro u hu; simp [cells4] at hu; rcases hu with rfl | rfl | rfl | rfl <;> rfl) ?_); intro w3 H3 H4)
    go_ret
    obtain ⟨q1, q2⟩ := splice_insert (C0 := C0) (CS := CS) (c4 := cells4 t (.slice ta t.args.length tc)) (A := cellsE tmE (L.take i)) (i := i) (n := l.length) (by
      have h := HCUR.out.2
      rw [← cellsE_take, ← h, List.take_take, Nat.min_eq_left (by have := HLN.out; omega)]) (by omega) (by rw [HCUR.out.1]; omega) rfl HDL.out
    have ho : Only (fun k => k = g) w w3 := H2.out.trans H4.out
    refine ⟨_, rfl, ⟨L.take i ++ (t, .slice ta t.args.length tc) :: L.drop i, by rw [HL.out.1]; simp [List.map_take, List.map_drop], ?_, fun j p hj => ?_, HL.out.2.2⟩, ho.sub fun k hk => by rw [hk]; rfl, fun b hb => .inl hb⟩
    · have hll : (L.take i ++ (t, Value.slice ta t.args.length tc) :: L.drop i).length = l.length + 1 := by rw [List.length_append, List.length_cons, List.length_take, List.length_drop, ← HLN.out]; omega
      rw [hll, cellsE_append, cellsE_cons, HCS.out]
      refine ⟨by rw [List.length_append, List.length_append, HDL.out, cellsE_length, List.length_take, ← HLN.out]; show min i l.length * 4 + (4 + (l.length - i) * 4) = (l.length + 1) * 4; omega, .inr ⟨g, cap, _, rfl, Nat.zero_le _, H3.out, by omega, hc9, ?_, ?_⟩⟩
      · simp only [List.size_toArray]; rw [q2, HCUR.out.1]
      · exact q1
    · have hk : ∀ k, Z k → k < w.heap.size → w3.heap[k]? = w.heap[k]? := fun k hk hl => ho.block k hl fun e => HL.out.2.2 k (by rw [e]; rfl) hk
      have hm : p ∈ L.take i ++ (t, Value.slice ta t.args.length tc) :: L.drop i := List.mem_of_getElem? hj
      rw [List.mem_append, List.mem_cons] at hm
      rcases hm with h | h | h
      · obtain ⟨j', hj'⟩ := List.getElem?_of_mem (List.mem_of_mem_take h)
        exact (HL.out.2.1 j' p hj').frame ho.size hk
      · rw [h]; exact HT.out.1.frame ho.size hk
      · obtain ⟨j', hj'⟩ := List.getElem?_of_mem (List.mem_of_mem_drop h)
        exact (HL.out.2.1 j' p hj').frame ho.size hk

set_option maxRecDepth 100000 in
set_option maxHeartbeats 8000000 in
/-- In the middle, without room. -/
theorem insert_grow (l : List Tm) (g i : Nat) (Z : Nat → Prop) (t : Tm) (Vt : Value) (gv : Nat) (w : World) (h : RowT w Z (.slice (some ⟨g, 0, none⟩) l.length l.length) l) (hl : l.length ≤ 512) (hi : i < l.length) (hv : w.heap[gv]? = some (.cells #[.int .i64 t.kind, .int .i64 t.num, .string t.name, Vt] 25)) (ht : ArgsS w Z Vt t.args) (hZ : ∀ k, Z k → k < w.heap.size) :
    Calls Try.prog 73 #[.slice (some ⟨g, 0, none⟩) l.length l.length, .int .i64 (i : Int), .slice (some ⟨gv, 0, none⟩) 1 1] w (InsR Z (.slice (some ⟨g, 0, none⟩) l.length l.length) (l.take i ++ t :: l.drop i) w) := by
  obtain ⟨i0, hi0, hz0, hzs, hzb⟩ := info_parts infoTermT
  obtain ⟨L, hL, hrow, hch, hno⟩ := h
  have hLn : l.length = L.length := by rw [hL, List.length_map]
  rcases hrow.2 with ⟨hn, _⟩ | ⟨g', cap', cur, he, _, hg, h1, h2, h3, h4⟩
  · cases hn
  simp only [Value.slice.injEq, Option.some.injEq, Addr.mk.injEq, and_true] at he
  obtain ⟨rfl, he2, he3⟩ := he
  clear he2
  rw [← he3] at h3
  clear he3
  obtain ⟨ta, tc, rfl⟩ := ht.at.slice
  have hgw : g < w.heap.size := (Array.getElem?_eq_some_iff.1 hg).1
  have hvw : gv < w.heap.size := (Array.getElem?_eq_some_iff.1 hv).1
  have hcell : ∀ j u, (cellsE tmE L)[j]? = some u → w.cell? ⟨g, j, none⟩ = some u := fun j u hj => by
    rw [← h4, List.getElem?_take] at hj
    split at hj
    · rw [Array.getElem?_toList] at hj
      simp [World.cell?, hg, hj]
    · cases hj
  have hold : (Builtin.firstCells i0.size i (.slice (some ⟨g, 0, none⟩) i l.length)).run Try.prog w.drew = .ok (cellsE tmE (L.take i)).toArray w.drew := by
    rw [hzs]
    refine run_firstCells_some w.drew 4 i ⟨g, 0, none⟩ i l.length (cellsE tmE (L.take i)) (by rw [cellsE_length, List.length_take, Nat.min_eq_left (by omega)]; rfl) (fun j u hj => ?_)
    rw [addr_add, Nat.zero_add]
    rw [← cellsE_take, List.getElem?_take] at hj
    split at hj
    · exact hcell j u hj
    · cases hj
  have hkk : (l.length : Int) + 1 - (i : Int) = ((l.length + 1 - i : Nat) : Int) := by omega
  have hik : i + (l.length + 1 - i) = l.length + 1 := by omega
  have hrz : ∀ ty, (Builtin.append_ #[23, 3] ty #[.slice (some ⟨g, 0, none⟩) i l.length, .int .i64 ((l.length : Int) + 1 - (i : Int))]).run Try.prog w =
      .ok (.slice (some ⟨w.heap.size, 0, none⟩) (l.length + 1) (grownCap w (l.length + 1) l.length 25)) (w.drew.alloc (.cells ((cellsE tmE (L.take i)).toArray ++ Builtin.zeroCells (Value.agg #[.int .i64 0, .int .i64 0, .string ⟨#[]⟩, .slice none 0 0]).cells (l.length + 1 - i) ++ Builtin.zeroCells (Value.agg #[.int .i64 0, .int .i64 0, .string ⟨#[]⟩, .slice none 0 0]).cells (grownCap w (l.length + 1) l.length 25 - (l.length + 1))) 25)) := fun ty => by
    have h := Lib.run_append_grow_zeros w 23 3 ty 25 i0 _ .i64 .i64 Try.underlying23 Try.underlying3 hi0 hz0 (some ⟨g, 0, none⟩) i l.length (cellsE tmE (L.take i)) hold (l.length + 1 - i) (by omega) (by omega) (by omega) (by omega) (by rw [hzb]; omega) (by rw [hzb, hik]; exact growslice_fits (by omega) (by omega))
    rw [hik] at h
    rw [hkk]
    exact h
  obtain ⟨G, hG⟩ : ∃ G, G = grownCap w (l.length + 1) l.length 25 := ⟨_, rfl⟩
  rw [← hG] at hrz
  have hGn : l.length + 1 ≤ G := by rw [hG]; exact grownCap_ge w _ _ _
  have hG63 : G ≤ 9223372036854775807 := by
    have := grownCap_le_maxLen w (l.length + 1) l.length 25 (by unfold maxLen; omega)
    rw [← hG] at this
    unfold maxLen at this
    omega
  obtain ⟨RA, hRA⟩ : ∃ RA : Array Value, RA = Builtin.zeroCells (Value.agg #[.int .i64 0, .int .i64 0, .string ⟨#[]⟩, .slice none 0 0]).cells (l.length + 1 - i) ++ Builtin.zeroCells (Value.agg #[.int .i64 0, .int .i64 0, .string ⟨#[]⟩, .slice none 0 0]).cells (G - (l.length + 1)) := ⟨_, rfl⟩
  have hRs : RA.size = (G - i) * 4 := by
    rw [hRA]
    simp only [Builtin.zeroCells, Array.size_append, Array.size_map, Array.size_range]
    show (l.length + 1 - i) * 4 + (G - (l.length + 1)) * 4 = (G - i) * 4
    omega
  simp only [Array.append_assoc, ← hRA] at hrz
  clear hRA
  obtain ⟨A, hA⟩ : ∃ A, A = cellsE tmE (L.take i) := ⟨_, rfl⟩
  have hAl : A.length = i * 4 := by rw [hA, cellsE_length, List.length_take, Nat.min_eq_left (by omega)]; rfl
  rw [← hA] at hrz
  obtain ⟨R, hR⟩ : ∃ R, R = RA.toList := ⟨_, rfl⟩
  have hRl : R.length = (G - i) * 4 := by rw [hR, ← hRs]; simp
  obtain ⟨W1, hW1⟩ : ∃ W1, W1 = w.drew.alloc (.cells (A.toArray ++ RA) 25) := ⟨_, rfl⟩
  rw [← hW1] at hrz
  have hRA : RA = R.toArray := by rw [hR, Array.toArray_toList]
  have hg1 : W1.heap[w.heap.size]? = some (.cells (A ++ R).toArray 25 (0, 0)) := by
    rw [hW1, hRA]
    rw [show A.toArray ++ R.toArray = (A ++ R).toArray from by simp]
    exact heap_alloc_new w.drew (.cells (A ++ R).toArray 25)
  have hO1 : Only (fun _ => False) w W1 := by rw [hW1]; exact Only.of_below (belowAlloc (Below.refl _ _).drew _)
  have HG1 := Lib.hid hg1
  have HO1 := Lib.hid hO1
  have HRZ := Lib.hid hrz
  have HL := Lib.hid (And.intro hL (And.intro hch hno))
  have HLN := Lib.hid hLn
  have HT := Lib.hid (And.intro ht hZ)
  have HAR := Lib.hid (And.intro hAl (And.intro hRl hA))
  have HGW := Lib.hid hgw
  have HSRV : Hid (∀ (W : World), Only (fun k => k = w.heap.size) W1 W → ∀ j u, (cells4 t (.slice ta t.args.length tc))[j]? = some u → W.cell? ((⟨gv, 0, none⟩ : Addr).add j) = some u) := Lib.hid fun W hW j u hj => by
    have hvW := (hW.block gv (by have := hO1.size; omega) (by omega)).trans ((hO1.block gv hvw (fun h => h)).trans hv)
    obtain ⟨q0, q1, q2, q3, _⟩ := box_cells hvW
    rw [addr_add, Nat.zero_add]
    have hj4 : j < 4 := (List.getElem?_eq_some_iff.1 hj).1
    match j, hj with
    | 0, hj => simp [cells4] at hj; rw [← hj]; exact q0
    | 1, hj => simp [cells4] at hj; rw [← hj]; exact q1
    | 2, hj => simp [cells4] at hj; rw [← hj]; exact q2
    | 3, hj => simp [cells4] at hj; rw [← hj]; exact q3
  have HSRC : Hid (∀ (W : World), Only (fun k => k = w.heap.size) W1 W → ∀ j u, (cellsE tmE (L.drop i))[j]? = some u → W.cell? ((⟨g, i * 4, none⟩ : Addr).add j) = some u) := Lib.hid fun W hW j u hj => by
    rw [addr_add]
    rw [← cellsE_drop L i (by omega), List.getElem?_drop] at hj
    have hgW := (hW.block g (by have := hO1.size; omega) (by omega)).trans (hO1.block g hgw (fun h => h))
    have := hcell _ u hj
    unfold World.cell? at this ⊢
    simp only at this ⊢
    rw [hgW]
    exact this
  have HONE : Hid (∀ u ∈ cellsE tmE (L.drop i), u.oneCell' = true) := Lib.hid (tm_one fun j p hj => hch (i + j) p (by rwa [List.getElem?_drop] at hj))
  have HDL : Hid ((cellsE tmE (L.drop i)).length = (l.length - i) * 4) := Lib.hid (by rw [cellsE_length, List.length_drop, hLn]; rfl)
  obtain ⟨CS, hCS⟩ : ∃ CS, cellsE tmE (L.drop i) = CS := ⟨_, rfl⟩
  rw [hCS] at HSRC HONE HDL
  have HCS := Lib.hid hCS
  obtain ⟨H, hH⟩ : ∃ H, H = w.heap.size := ⟨_, rfl⟩
  rw [← hH] at HSRC HSRV HG1 HRZ
  have HH := Lib.hid hH
  clear hL hrow hch hno hLn hg h1 h2 h3 h4 hv ht hZ hCS hold hik hkk hG hRs hA hAl hR hRl hW1 hRA hg1 hO1 hrz hgw hvw hH hcell
  have a1 : ((i : Int) == (l.length : Int)) = false := by rw [beq_eq_false_iff_ne]; omega
  have a2 : (0 : Int) ≤ (i : Int) := by omega
  have a3 : (i : Int) ≤ (l.length : Int) := by omega
  have a5 : (l.length : Int) < (l.length : Int) + 1 := by omega
  have a6 : (l.length : Int) + 1 ≤ (G : Int) := by omega
  have a7 : ¬ (G = i) := by omega
  have a8 : ¬ (G = i + 1) := by omega
  have a13 : ¬ (l.length = i) := by omega
  have a9 : (i : Int) + 1 ≤ (l.length : Int) + 1 := by omega
  have a10 : (i : Int) ≤ (l.length : Int) + 1 := by omega
  have a11 : (0 : Int) ≤ (l.length : Int) + 1 := by omega
  have a12 : (0 : Int) ≤ (i : Int) + 1 := by omega
  have hw1 : IntKind.i64.wrap ((i : Int) + 1) = (i : Int) + 1 := IntWalk.i64_in _ (by omega)
  have hn1 : ((i : Int) + 1).toNat = i + 1 := by omega
  go_enter Try.func73, Try.ntmps73
  go_wp2_with (first
    | (at_builtin; refine Lib.wpList_append_run _ rfl _ _ _ _ rfl _ _ rfl rfl _ _ (HRZ.out _) ?_)
    | (refine wpList_copy4 rfl _ _ 23 23 rfl 25 Try.underlying23 sizeTermT H (i * 4) (l.length + 1 - i) (G - i) ⟨gv, 0, none⟩ 1 1 (by simp [Act.eval, Act.put]) (by simp [Act.eval, Act.put]) (A ++ R) 25 HG1.out (cells4 t (.slice ta t.args.length tc)) (by show 4 = _; simp only [Nat.min_def]; split <;> omega) (HSRV.out _ (Only.refl _ _)) (by rw [List.length_append, HAR.out.1, HAR.out.2.1]; show i * 4 + 4 ≤ _; omega) (by intro u hu; simp [cells4] at hu; rcases hu with rfl | rfl | rfl | rfl <;> rfl) ?_; intro w2 H1 H2))
  go_region_law (refine step_copy4 rfl _ _ 23 23 rfl 25 Try.underlying23 sizeTermT H ((i + 1) * 4) (l.length - i) (G - (i + 1)) ⟨g, i * 4, none⟩ (l.length - i) (l.length - i) (by simp [Act.eval, Act.put]) (by simp [Act.eval, Act.put]) (splice (A ++ R) (i * 4) (cells4 t (.slice ta t.args.length tc))) 25 H1.out CS (by rw [HDL.out]; simp only [Nat.min_def]; split <;> omega) (HSRC.out _ (by first | exact H2.out | exact ⟨H2.out.os, H2.out.tape, H2.out.output, H2.out.size, H2.out.block⟩)) (by rw [HDL.out, length_splice _ _ _ (by rw [List.length_append, HAR.out.1, HAR.out.2.1]; show i * 4 + 4 ≤ _; omega), List.length_append, HAR.out.1, HAR.out.2.1]; omega) HONE.out ?_; intro w3 H3 H4)
  all_goals
    have H4 : Hid (Only (fun k => k = H) w2 w3) := Lib.hid (by first | exact H4.out | exact ⟨H4.out.os, H4.out.tape, H4.out.output, H4.out.size, H4.out.block⟩)
    go_wp2
    go_ret
    obtain ⟨q1, q2⟩ := splice_insert2 (A := A) (R := R) (CS := CS) (c4 := cells4 t (.slice ta t.args.length tc)) (i := i) (n := l.length) HAR.out.1 (by omega) (by rw [HAR.out.2.1]; omega) rfl HDL.out
    have ho : Only (fun _ => False) w w3 := by
      have h := H2.out.trans H4.out
      have h1 := HO1.out
      exact ⟨h.os.trans h1.os, h.tape.trans h1.tape, h.output.trans h1.output, Nat.le_trans h1.size h.size, fun k hk hn => (h.block k (by have := h1.size; omega) (by have := HH.out; omega)).trans (h1.block k hk hn)⟩
    refine ⟨_, rfl, ⟨L.take i ++ (t, .slice ta t.args.length tc) :: L.drop i, by rw [HL.out.1]; simp [List.map_take, List.map_drop], ?_, fun j p hj => ?_, fun b hb hz => ?_⟩, ho.sub fun k hk => hk.elim, fun b hb => ?_⟩
    · have hll : (L.take i ++ (t, Value.slice ta t.args.length tc) :: L.drop i).length = l.length + 1 := by rw [List.length_append, List.length_cons, List.length_take, List.length_drop, ← HLN.out]; omega
      rw [hll, cellsE_append, cellsE_cons, HCS.out, ← HAR.out.2.2]
      refine ⟨by rw [List.length_append, List.length_append, HDL.out, HAR.out.1]; show i * 4 + (4 + (l.length - i) * 4) = (l.length + 1) * 4; omega, .inr ⟨H, G, _, rfl, Nat.zero_le _, H3.out, by omega, hG63, ?_, ?_⟩⟩
      · simp only [List.size_toArray]; rw [q2, List.length_append, HAR.out.1, HAR.out.2.1]; omega
      · exact q1
    · have hk : ∀ k, Z k → k < w.heap.size → w3.heap[k]? = w.heap[k]? := fun k hk hl => ho.block k hl fun e => e
      have hm : p ∈ L.take i ++ (t, Value.slice ta t.args.length tc) :: L.drop i := List.mem_of_getElem? hj
      rw [List.mem_append, List.mem_cons] at hm
      rcases hm with h | h | h
      · obtain ⟨j', hj'⟩ := List.getElem?_of_mem (List.mem_of_mem_take h)
        exact (HL.out.2.1 j' p hj').frame ho.size hk
      · rw [h]; exact HT.out.1.frame ho.size hk
      · obtain ⟨j', hj'⟩ := List.getElem?_of_mem (List.mem_of_mem_drop h)
        exact (HL.out.2.1 j' p hj').frame ho.size hk
    · have hb2 : H = b := Option.some.inj hb
      have := HT.out.2 b hz
      have := HH.out
      omega
    · have hb2 : H = b := Option.some.inj hb
      have := HH.out
      exact .inr (by omega)

/-- slices.Insert of one term at the place i of a row of at most 512. -/
theorem insertT_any (l : List Tm) (V : Value) (i : Nat) (Z : Nat → Prop) (t : Tm) (Vt : Value) (gv : Nat) (w : World) (h : RowT w Z V l) (hl : l.length ≤ 512) (hi : i ≤ l.length) (hv : w.heap[gv]? = some (.cells #[.int .i64 t.kind, .int .i64 t.num, .string t.name, Vt] 25)) (hgv : ∀ b, V.ownBlock = some b → gv ≠ b) (ht : ArgsS w Z Vt t.args) (hZ : ∀ k, Z k → k < w.heap.size) :
    Calls Try.prog 73 #[V, .int .i64 (i : Int), .slice (some ⟨gv, 0, none⟩) 1 1] w (InsR Z V (l.take i ++ t :: l.drop i) w) := by
  by_cases he : i = l.length
  · subst he
    have h := insert_end l V Z t Vt gv w h hl hv ht hZ
    rwa [List.take_of_length_le (Nat.le_refl _), List.drop_of_length_le (Nat.le_refl _)]
  · have hlt : i < l.length := by omega
    obtain ⟨L, hL, hrow, hch, hno⟩ := id h
    have hLn : l.length = L.length := by rw [hL, List.length_map]
    rcases hrow.2 with ⟨_, hn⟩ | ⟨g, cap, cur, rfl, _, hg, h1, h2, h3, h4⟩
    · omega
    · by_cases hc : l.length < cap
      · rw [← hLn] at h hrow ⊢
        exact insert_room l g cap i Z t Vt gv w h hl hlt hc hv (hgv g rfl) ht hZ
      · obtain rfl : cap = L.length := by omega
        rw [← hLn] at h ⊢
        exact insert_grow l g i Z t Vt gv w h hl hlt hv ht hZ
end Go.Proofs.Ytoihimdfmncdoaa

