/-
  copy over rows of terms (four cells an element); a row of terms that the call owns, its parts in a set of blocks.
-/
import Derived.Test.YtjpkkhhcpcokaaaAscT
import Derived.Test.YtjpkkhhcpcokaaaTmE
import Derived.Laws.CopyOwn
import Derived.Laws.AppendOwnNone
import Derived.Lib.AppendZerosOnto
import Derived.Lib.Overlaps
import Derived.Laws.Externs
namespace Go.Proofs.Ytjpkkhhcpcokaaa
open Go.RowKit
set_option linter.unusedVariables false
set_option linter.unusedSimpArgs false

theorem run_copy_row4 (P : Program) (w : World) (dT sT ty elem : TypeId) (g o dLen dCap : Nat) (a : Addr) (sLen sCap : Nat) (cur : Array Value) (t : TypeId) (cs : List Value)
    (hu : P.underlying dT = some (.slice elem)) (hs : (P.info? elem).map (·.size) = some 4)
    (hg : w.heap[g]? = some (.cells cur t (0, 0))) (hn : cs.length = Nat.min sLen dLen * 4)
    (hsrc : ∀ j v, cs[j]? = some v → w.cell? (a.add j) = some v) (hfit : o + cs.length ≤ cur.size) (h1 : ∀ v ∈ cs, v.oneCell' = true) :
    (Builtin.copy_ #[dT, sT] ty #[.slice (some ⟨g, o, none⟩) dLen dCap, .slice (some a) sLen sCap]).run P w =
      .ok (goInt (Nat.min sLen dLen)) (w.setRow g (cur.toList.take o ++ cs ++ cur.toList.drop (o + cs.length)).toArray) := by
  have hl := run_loadCells_list (P := P) w a cs hsrc
  have hst := run_storeCells_at P g o t cs 0 cur w hg (by simpa using hfit) h1
  cases hq : P.info? elem with
  | none => simp [hq] at hs
  | some i =>
    have hi : i.size = 4 := by simpa [hq] using hs
    simp [Builtin.copy_, run_underlying hu, Builtin.lenOf, Builtin.firstCells, sizeOf, typeInfo, hq, hi, ← hn, hl, hst]

theorem only_setRow (w : World) (g : Nat) (cs : Array Value) : Only (fun k => k = g) w (w.setRow g cs) :=
  ⟨rfl, rfl, rfl, by simp [World.setRow], fun k hk hne => setRow_other w g k cs hne⟩

theorem copy4_run {P : Program} {w : World} (dT sT ty elem : TypeId) (hu : P.underlying dT = some (.slice elem)) (hsz : (P.info? elem).map (·.size) = some 4)
    (g off dLen dCap : Nat) (ad : Addr) (sLen sCap : Nat) (cur : List Value) (t : TypeId) (hg : w.heap[g]? = some (.cells cur.toArray t (0, 0))) (cs : List Value) (hn : cs.length = Nat.min sLen dLen * 4)
    (hsrc : ∀ j v, cs[j]? = some v → w.cell? (ad.add j) = some v) (hfit : off + cs.length ≤ cur.length) (h1 : ∀ v ∈ cs, v.oneCell' = true) :
    ∃ w', (Builtin.copy_ #[dT, sT] ty #[.slice (some ⟨g, off, none⟩) dLen dCap, .slice (some ad) sLen sCap]).run P w = .ok (goInt (Nat.min sLen dLen)) w' ∧ w'.heap[g]? = some (.cells (splice cur off cs).toArray t (0, 0)) ∧ Only (fun k => k = g) w w' := by
  refine ⟨_, run_copy_row4 P w dT sT ty elem g off dLen dCap ad sLen sCap cur.toArray t cs hu hsz hg hn hsrc (by simpa using hfit) h1, ?_, only_setRow _ _ _⟩
  simpa [splice] using setRow_heap w g _ _ t _ hg

theorem step_copy4 {P : Program} {ops : Array Oper} {o : Oper} {a : Act} {w : World} {K : Act → World → Prop} {Q : Exit → Act → World → Prop} {E : Prop} (hgd : o.guard = none) (d s : Operand) (dT sT : TypeId)
    (ho : o.op = .call { callee := .builtin .copy, args := #[d, s], argTypes := #[dT, sT] }) (elem : TypeId) (hu : P.underlying dT = some (.slice elem)) (hsz : (P.info? elem).map (·.size) = some 4)
    (g off dLen dCap : Nat) (ad : Addr) (sLen sCap : Nat) (hd : a.eval d = .slice (some ⟨g, off, none⟩) dLen dCap) (hs : a.eval s = .slice (some ad) sLen sCap)
    (cur : List Value) (t : TypeId) (hg : w.heap[g]? = some (.cells cur.toArray t (0, 0))) (cs : List Value) (hn : cs.length = Nat.min sLen dLen * 4)
    (hsrc : ∀ j v, cs[j]? = some v → w.cell? (ad.add j) = some v) (hfit : off + cs.length ≤ cur.length) (h1 : ∀ v ∈ cs, v.oneCell' = true)
    (h : ∀ w', Hid (w'.heap[g]? = some (.cells (splice cur off cs).toArray t (0, 0))) → Hid (Only (fun k => k = g) w w') → K (a.put o.dst (goInt (Nat.min sLen dLen))) w') :
    if Region.wanted o (yielded ops a.tmps) = true then Oper.wp P o a w K Q else E := by
  have hw : Region.wanted o (yielded ops a.tmps) = true := by simp [Region.wanted, hgd]
  rw [if_pos hw]
  obtain ⟨w', hrun, h2, h3⟩ := copy4_run (P := P) (w := w) dT sT o.type elem hu hsz g off dLen dCap ad sLen sCap cur t hg cs hn hsrc hfit h1
  unfold Oper.wp
  simp [execOp, ho, resolve, invoke, builtin, hd, hs, hrun, Result.andThen]
  exact h w' h2 h3

theorem wpList_copy4 {P : Program} {w : World} {ops : Array Oper} {rest : List Oper} {o : Oper} {a : Act} {Q : Exit → Act → World → Prop} (hgd : o.guard = none) (d s : Operand) (dT sT : TypeId)
    (ho : o.op = .call { callee := .builtin .copy, args := #[d, s], argTypes := #[dT, sT] }) (elem : TypeId) (hu : P.underlying dT = some (.slice elem)) (hsz : (P.info? elem).map (·.size) = some 4)
    (g off dLen dCap : Nat) (ad : Addr) (sLen sCap : Nat) (hd : a.eval d = .slice (some ⟨g, off, none⟩) dLen dCap) (hs : a.eval s = .slice (some ad) sLen sCap)
    (cur : List Value) (t : TypeId) (hg : w.heap[g]? = some (.cells cur.toArray t (0, 0))) (cs : List Value) (hn : cs.length = Nat.min sLen dLen * 4)
    (hsrc : ∀ j v, cs[j]? = some v → w.cell? (ad.add j) = some v) (hfit : off + cs.length ≤ cur.length) (h1 : ∀ v ∈ cs, v.oneCell' = true)
    (h : ∀ w', Hid (w'.heap[g]? = some (.cells (splice cur off cs).toArray t (0, 0))) → Hid (Only (fun k => k = g) w w') → wpList P ops Q rest (a.put o.dst (goInt (Nat.min sLen dLen))) w') :
    wpList P ops Q (o :: rest) a w := by
  refine wpList_plain hgd fun K hK => ?_
  obtain ⟨w', hrun, h2, h3⟩ := copy4_run (P := P) (w := w) dT sT o.type elem hu hsz g off dLen dCap ad sLen sCap cur t hg cs hn hsrc hfit h1
  unfold Oper.wp
  simp [execOp, ho, resolve, invoke, builtin, hd, hs, hrun, Result.andThen]
  exact hK _ _ (h w' h2 h3)

/-- A row of terms that the call owns; what the terms hold lies in Z. -/
def RowT (w : World) (Z : Nat → Prop) (V : Value) (l : List Tm) : Prop :=
  ∃ L : List (Tm × Value), l = L.map Prod.fst ∧ w.ownsRow 0 46 4 V L.length (cellsE tmE L) ∧ (∀ (j : Nat) (p : Tm × Value), L[j]? = some p → ArgsS w Z p.2 p.1.args) ∧ ∀ b, V.ownBlock = some b → ¬ Z b
theorem RowT.nil (w : World) (Z : Nat → Prop) : RowT w Z (.slice none 0 0) [] := ⟨[], rfl, World.ownsRow_nil w 0 46 4, fun j p h => by simp at h, fun b h => by cases h⟩
theorem RowT.moved {w w' : World} {Z Z' : Nat → Prop} {V : Value} {l : List Tm} (h : RowT w Z V l) (hs : w.heap.size ≤ w'.heap.size) (hb : ∀ k, Z k → k < w.heap.size → w'.heap[k]? = w.heap[k]?) (hv : ∀ b, V.ownBlock = some b → w'.heap[b]? = w.heap[b]?) (hZ : ∀ k, Z k → Z' k) (hn : ∀ b, V.ownBlock = some b → ¬ Z' b) : RowT w' Z' V l := by
  obtain ⟨L, h1, h2, h3, h4⟩ := h
  exact ⟨L, h1, rowE_moved h2 hv, fun j p hj => ((h3 j p hj).frame hs hb).sub hZ, hn⟩
theorem RowT.lt {w : World} {Z : Nat → Prop} {V : Value} {l : List Tm} (h : RowT w Z V l) : ∀ b, V.ownBlock = some b → b < w.heap.size := by
  obtain ⟨L, h1, h2, h3, h4⟩ := h
  exact fun b hb => (World.ownsRow.lt h2 b hb).2
theorem RowT.slice {w : World} {Z : Nat → Prop} {V : Value} {l : List Tm} (h : RowT w Z V l) : ∃ a c, V = .slice a l.length c := by
  obtain ⟨L, rfl, h2, h3, h4⟩ := h
  rw [List.length_map]
  rcases h2.2 with ⟨rfl, hn⟩ | ⟨g, cap, cur, rfl, _⟩
  · exact ⟨none, 0, by rw [hn]⟩
  · exact ⟨_, _, rfl⟩
theorem RowT.args {w : World} {Z : Nat → Prop} {V : Value} {l : List Tm} (h : RowT w Z V l) : ArgsS w (fun k => Z k ∨ V.ownBlock = some k) V l := by
  obtain ⟨L, rfl, h2, h3, h4⟩ := h
  rcases h2.2 with ⟨rfl, hn⟩ | ⟨g, cap, cur, rfl, h5, h6, h7, h8, h9, h10⟩
  · have : L = [] := List.length_eq_zero_iff.1 hn
    subst this
    exact .nil none 0
  · have hlen := cellsE_length tmE L
    refine .row g 0 L.length cap (fun j => ((L[j]?).map Prod.snd).getD (.int .i64 0)) _ (by rw [List.length_map]) (.inr rfl) (World.ownsRow.lt h2 g rfl).2 (fun j t hj i v hv => ?_) fun j t hj => ?_
    · rw [List.getElem?_map] at hj
      obtain ⟨p, hp, rfl⟩ := Option.map_eq_some_iff.1 hj
      rw [hp] at hv
      have h := cellsE_at (E := tmE) hp hv
      have hi : j * 4 + i < L.length * 4 := by rw [← show (cellsE tmE L).length = L.length * 4 from hlen]; exact (List.getElem?_eq_some_iff.1 h).1
      rw [Nat.zero_add, World.ownsRow.cellAt h2 _ hi]
      exact h
    · rw [List.getElem?_map] at hj
      obtain ⟨p, hp, rfl⟩ := Option.map_eq_some_iff.1 hj
      rw [hp]
      exact (h3 j p hp).sub fun k hk => .inl hk
end Go.Proofs.Ytjpkkhhcpcokaaa

