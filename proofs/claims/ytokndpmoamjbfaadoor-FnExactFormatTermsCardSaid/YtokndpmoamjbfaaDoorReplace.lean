/-
  ReplaceVar: what it answers; its contracts on both sides.
-/
import Derived.Test.YtokndpmoamjbfaaDoorSpecCopy
import Derived.IntWalk
namespace Go.Proofs.YtokndpmoamjbfaaDoor
open Go.RowKit
set_option linter.unusedVariables false
set_option linter.unusedSimpArgs false

theorem good_sz {t : Tm} (h : Good t) : t.sz + 1 ≤ 13 * t.nodes := by
  induction h with
  | nil => simp [Tm.sz, Tm.nodes, szL, nodesL, ByteArray.size]
  | var i h0 h1 => simp [Tm.sz, Tm.nodes, szL, nodesL, ByteArray.size]
  | sym s h =>
    have := (Good.fit (.sym s h)).name_size
    have e : (Tm.mk 2 0 s []).name = s := rfl
    rw [e] at this
    simp [Tm.sz, Tm.nodes, szL, nodesL]
    omega
  | int i h0 h1 => simp [Tm.sz, Tm.nodes, szL, nodesL, ByteArray.size]
  | pair a b ha hb iha ihb =>
    rw [nodes_two]
    simp only [Tm.sz, szL]
    have : (⟨#[]⟩ : ByteArray).size = 0 := rfl
    omega

def RvOk (t : Tm) (v : Int) (b : Tm) : Prop := Ok t ∧ Ok b ∧ (t.put v b).nodes ≤ 5000
open Classical in
noncomputable def rvB (t : Tm) (v : Int) (b : Tm) : Bool := decide (RvOk t v b)
open Classical in
noncomputable def rvT (t : Tm) (v : Int) (b : Tm) : Tm := if RvOk t v b then t.put v b else zeroTm
theorem rv_no {t : Tm} {v : Int} {b : Tm} (h : ¬ RvOk t v b) : rvT t v b = zeroTm ∧ rvB t v b = false := ⟨by rw [rvT, if_neg h], by simp [rvB, h]⟩
theorem rv_yes {t : Tm} {v : Int} {b : Tm} (h : RvOk t v b) : rvT t v b = t.put v b ∧ rvB t v b = true := ⟨by rw [rvT, if_pos h], by simp [rvB, h]⟩

/-- The answer: a term that can be read and a yes or no. -/
def OldTm2 (t : Tm) (b : Bool) (w : World) (e : Ending) (w' : World) : Prop := ∃ u, e = .returned (.tuple #[.agg #[.int .i64 t.kind, .int .i64 t.num, .string t.name, u], .bool b]) ∧ ArgsS w' (iv w.heap.size w'.heap.size) u t.args ∧ Below w.heap.size w w'
theorem oldTm2_end {P : Program} {fn : Func} {t : Tm} {k i : Int} {s : ByteArray} {B : Bool} {C : Nat → Prop} {w wE : World} {a : Act} {p q : Tmp} {b : Nat} {x0 x1 x2 x3 u : Value} {fs : Array Field} (h1 : t.kind = k) (h2 : t.num = i) (h3 : t.name = s) (h : fn.results = #[.cell p 26, .tmp q]) (hp : a.tmps.getD p undef = .pointer (some ⟨b, 0, none⟩)) (hq : a.tmps.getD q undef = .bool B) (hd : a.defers = [])
    (hu : P.underlying 26 = some (.struct fs)) (hi : (P.info? 26).map (·.size) = some 4) (hb : wE.heap[b]? = some (Obj.cells #[x0, x1, x2, x3] 26))
    (hW : Below w.heap.size w wE) (hb1 : w.heap.size ≤ b) (hC : ¬ C b) (hC2 : ∀ k, C k → w.heap.size ≤ k ∧ k < wE.heap.size) (hn : ArgsS wE C u t.args) :
    bodyPost P fn (OldTm2 t B w) .ret a ((((wE.setCell ⟨b, 0, none⟩ (.int .i64 k)).setCell ⟨b, 1, none⟩ (.int .i64 i)).setCell ⟨b, 2, none⟩ (.string s)).setCell ⟨b, 3, none⟩ u) := by
  subst h1
  subst h2
  subst h3
  refine bodyPost_four2 h hp hq hd hu rfl hi hb fun w' hw => ⟨_, rfl, (hn.frame hw.size fun k hk hks => hw.block k hks (fun e => hC (by rw [← e]; exact hk))).sub fun k hk => ⟨(hC2 k hk).1, Nat.lt_of_lt_of_le (hC2 k hk).2 hw.size⟩, hW.trans (hw.below (fun k hk => by omega) hW.size)⟩

theorem Own.inS {w : World} {e : TypeId} {S : Nat → Prop} {v : Value} {l : List Tm} (h : Own w e S v l) : ArgsS w S v l := by
  induction h with
  | nil S => exact .nil none 0
  | row S g n cap L C l hl hn hg hown hr hC hd ih =>
    subst hl
    refine .row g 0 n cap (fun j => match L[j]? with | some p => p.2 | none => .bool false) _ (by simpa using hn) hg (row_hit hown) ?_ ?_
    · intro j t hj i v hv
      rw [List.getElem?_map] at hj
      obtain ⟨p, hp, rfl⟩ := Option.map_eq_some_iff.1 hj
      rw [hp] at hv
      have hi4 : i < 4 := by have := (List.getElem?_eq_some_iff.1 hv).1; simpa [cells4] using this
      have hjn : j < n := by have := (List.getElem?_eq_some_iff.1 hp).1; omega
      rw [Nat.zero_add, World.ownsRow.cellAt hown _ (by omega)]
      exact cellsL_at hp hv
    · intro j t hj
      rw [List.getElem?_map] at hj
      obtain ⟨p, hp, rfl⟩ := Option.map_eq_some_iff.1 hj
      rw [hp]
      exact (ih j p hp).sub fun k hk => (hC j k (by have := (List.getElem?_eq_some_iff.1 hp).1; omega) hk).1
theorem NewTm2.old {t : Tm} {b : Bool} {w w' : World} {e : Ending} (h : NewTm2 t b w e w') : OldTm2 t b w e w' := by
  obtain ⟨u, he, hn, hb⟩ := h
  exact ⟨u, he, hn.inS, hb⟩

theorem rv_sz (t : Tm) (v : Int) (b : Tm) : (rvT t v b).sz ≤ 1048576 := by
  by_cases h : RvOk t v b
  · rw [(rv_yes h).1]
    have h1 := good_sz (good_put (v := v) h.2.1.2 h.1.2)
    have h2 := h.2.2
    omega
  · rw [(rv_no h).1]
    simp [zeroTm, Tm.sz, szL, ByteArray.size]
end Go.Proofs.YtokndpmoamjbfaaDoor

