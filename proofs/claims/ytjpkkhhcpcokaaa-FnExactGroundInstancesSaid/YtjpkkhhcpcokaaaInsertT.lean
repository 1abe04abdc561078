/-
  slices.Insert of one term into a row of terms that the call owns.
-/
import Derived.Test.YtjpkkhhcpcokaaaCopy4
import Derived.IntWalk
import Derived.Deep.RegionLaw
import Derived.Deep.DeepAppendWide
import Derived.Deep.AppendLies
namespace Go.Proofs.Ytjpkkhhcpcokaaa
open Go.RowKit
set_option linter.unusedVariables false
set_option linter.unusedSimpArgs false

theorem infoTermT : (Try.prog.info? 46).map (fun i => (i.zero, i.size, i.bytes)) = some (some (.agg #[.int .i64 0, .int .i64 0, .string ⟨#[]⟩, .slice none 0 0]), 4, 56) := by kernel_rfl
theorem sizeTermT : (Try.prog.info? 46).map (·.size) = some 4 := by kernel_rfl
theorem tm_one {L : List (Tm × Value)} {w : World} {Z : Nat → Prop} (h : ∀ (j : Nat) (p : Tm × Value), L[j]? = some p → ArgsS w Z p.2 p.1.args) : ∀ u ∈ cellsE tmE L, u.oneCell' = true := by
  intro u hu
  obtain ⟨p, hp, hu⟩ := List.mem_flatMap.1 hu
  obtain ⟨j, hj⟩ := List.getElem?_of_mem hp
  obtain ⟨a, c, he⟩ := (h j p hj).at.slice
  simp only [tmE, cells4, List.mem_cons, List.not_mem_nil, or_false] at hu
  rcases hu with rfl | rfl | rfl | rfl
  · rfl
  · rfl
  · rfl
  · rw [he]; rfl
theorem cellsE_take (L : List (Tm × Value)) (k : Nat) : (cellsE tmE L).take (k * 4) = cellsE tmE (L.take k) := by
  by_cases hk : k ≤ L.length
  · have h : cellsE tmE L = cellsE tmE (L.take k) ++ cellsE tmE (L.drop k) := by rw [← cellsE_append, List.take_append_drop]
    have hl : (cellsE tmE (L.take k)).length = k * 4 := by rw [cellsE_length, List.length_take, show min k L.length = k from by omega]; rfl
    rw [h, List.take_append_of_le_length (by omega), List.take_of_length_le (by omega)]
  · rw [List.take_of_length_le (by rw [cellsE_length]; show L.length * 4 ≤ k * 4; omega), List.take_of_length_le (by omega)]
theorem cellsE_drop (L : List (Tm × Value)) (k : Nat) (hk : k ≤ L.length) : (cellsE tmE L).drop (k * 4) = cellsE tmE (L.drop k) := by
  have h : cellsE tmE L = cellsE tmE (L.take k) ++ cellsE tmE (L.drop k) := by rw [← cellsE_append, List.take_append_drop]
  have hl : (cellsE tmE (L.take k)).length = k * 4 := by rw [cellsE_length, List.length_take, show min k L.length = k from by omega]; rfl
  rw [h, List.drop_append_of_le_length (by omega), List.drop_of_length_le (by omega), List.nil_append]

def InsR (Z : Nat → Prop) (V : Value) (l : List Tm) (w : World) (e : Ending) (w' : World) : Prop :=
  ∃ U, e = .returned U ∧ RowT w' Z U l ∧ Only (fun k => V.ownBlock = some k) w w' ∧ ∀ b, U.ownBlock = some b → V.ownBlock = some b ∨ w.heap.size ≤ b

theorem addr_add (g o j : Nat) : (⟨g, o, none⟩ : Addr).add j = ⟨g, o + j, none⟩ := by unfold Addr.add; split <;> simp_all
theorem splice_insert {C0 CS c4 A : List Value} {i n : Nat} (hA : C0.take (i * 4) = A) (hi : i ≤ n) (hc : (n + 1) * 4 ≤ C0.length) (h4 : c4.length = 4) (hS : CS.length = (n - i) * 4) :
    (splice (splice C0 ((i + 1) * 4) CS) (i * 4) c4).take ((n + 1) * 4) = A ++ (c4 ++ CS) ∧ (splice (splice C0 ((i + 1) * 4) CS) (i * 4) c4).length = C0.length := by
  have hl1 : (splice C0 ((i + 1) * 4) CS).length = C0.length := length_splice _ _ _ (by omega)
  have hl2 : (splice (splice C0 ((i + 1) * 4) CS) (i * 4) c4).length = C0.length := by rw [length_splice _ _ _ (by omega), hl1]
  refine ⟨?_, hl2⟩
  have hAl : A.length = i * 4 := by rw [← hA, List.length_take]; omega
  have e1 : (splice C0 ((i + 1) * 4) CS).take (i * 4) = A := by
    unfold splice
    rw [List.take_append_of_le_length (by rw [List.length_take]; omega), List.take_take, show min (i * 4) ((i + 1) * 4) = i * 4 by omega, hA]
  have e2 : (splice C0 ((i + 1) * 4) CS).drop (i * 4 + c4.length) = CS ++ C0.drop ((i + 1) * 4 + CS.length) := by
    unfold splice
    rw [h4, show i * 4 + 4 = (i + 1) * 4 by omega, List.drop_append_of_le_length (by rw [List.length_take]; omega), List.drop_of_length_le (by rw [List.length_take]; omega), List.nil_append]
  conv => lhs; unfold splice
  rw [show List.take (i * 4) (List.take ((i + 1) * 4) C0 ++ (CS ++ List.drop ((i + 1) * 4 + CS.length) C0)) = A from e1, show List.drop (i * 4 + c4.length) (List.take ((i + 1) * 4) C0 ++ (CS ++ List.drop ((i + 1) * 4 + CS.length) C0)) = _ from e2]
  rw [← List.append_assoc c4, ← List.append_assoc A, List.take_append_of_le_length (by simp only [List.length_append]; omega), List.take_of_length_le (by simp only [List.length_append]; omega)]
theorem splice_insert2 {A R CS c4 : List Value} {i n : Nat} (hA : A.length = i * 4) (hi : i ≤ n) (hR : (n + 1 - i) * 4 ≤ R.length) (h4 : c4.length = 4) (hS : CS.length = (n - i) * 4) :
    (splice (splice (A ++ R) (i * 4) c4) ((i + 1) * 4) CS).take ((n + 1) * 4) = A ++ (c4 ++ CS) ∧ (splice (splice (A ++ R) (i * 4) c4) ((i + 1) * 4) CS).length = (A ++ R).length := by
  have hl : (A ++ R).length = i * 4 + R.length := by rw [List.length_append, hA]
  have hl1 : (splice (A ++ R) (i * 4) c4).length = (A ++ R).length := length_splice _ _ _ (by omega)
  refine ⟨?_, by rw [length_splice _ _ _ (by omega), hl1]⟩
  have e0 : splice (A ++ R) (i * 4) c4 = (A ++ c4) ++ R.drop 4 := by
    unfold splice
    rw [← hA, List.take_left, List.append_assoc, h4]
    congr 2
    rw [show A.length + 4 = A.length + 4 from rfl, ← List.drop_drop, List.drop_left]
  rw [e0]
  unfold splice
  have e1 : ((A ++ c4) ++ R.drop 4).take ((i + 1) * 4) = A ++ c4 := by rw [List.take_append_of_le_length (by rw [List.length_append]; omega), List.take_of_length_le (by rw [List.length_append]; omega)]
  rw [e1, ← List.append_assoc (A ++ c4), List.take_append_of_le_length (by simp only [List.length_append]; omega), List.take_of_length_le (by simp only [List.length_append]; omega), List.append_assoc]

end Go.Proofs.Ytjpkkhhcpcokaaa

