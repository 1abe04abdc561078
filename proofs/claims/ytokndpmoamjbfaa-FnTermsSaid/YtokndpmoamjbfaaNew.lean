/-
  New trees: a pair made of two trees; the contracts of pairOf, l02Pair.
-/
import Derived.Test.YtokndpmoamjbfaaSpecCmp
namespace Go.Proofs.Ytokndpmoamjbfaa
open Go.RowKit
set_option linter.unusedVariables false
set_option linter.unusedSimpArgs false

/-- The answer is a term, its list of arguments a new tree of the call's own. -/
def NewTm (t : Tm) (w : World) (e : Ending) (w' : World) : Prop := ∃ u, e = .returned (.agg #[.int .i64 t.kind, .int .i64 t.num, .string t.name, u]) ∧ NewTree t.args w u w'
/-- The answer is a term that can be read. -/
def OldTm (t : Tm) (w : World) (e : Ending) (w' : World) : Prop := ∃ u, e = .returned (.agg #[.int .i64 t.kind, .int .i64 t.num, .string t.name, u]) ∧ ArgsAt w' u t.args ∧ Below w.heap.size w w'

theorem row_pair {w : World} {e : TypeId} {g : Nat} {a b : Tm} {Va Vb : Value} (h : w.heap[g]? = some (.cells #[.int .i64 a.kind, .int .i64 a.num, .string a.name, Va, .int .i64 b.kind, .int .i64 b.num, .string b.name, Vb] e)) :
    w.ownsRow 0 e 4 (.slice (some ⟨g, 0, none⟩) 2 2) 2 (cellsL [(a, Va), (b, Vb)]) :=
  ⟨rfl, .inr ⟨g, 2, _, rfl, Nat.zero_le _, h, Nat.le_refl _, by unfold maxLen; omega, rfl, rfl⟩⟩
theorem own_pair {w : World} {e : TypeId} {g : Nat} {a b : Tm} {Va Vb : Value} {S Sa Sb : Nat → Prop} (h : w.heap[g]? = some (.cells #[.int .i64 a.kind, .int .i64 a.num, .string a.name, Va, .int .i64 b.kind, .int .i64 b.num, .string b.name, Vb] e)) (hg : S g)
    (ha : Own w e Sa Va a.args) (hb : Own w e Sb Vb b.args) (hSa : ∀ k, Sa k → S k ∧ k ≠ g) (hSb : ∀ k, Sb k → S k ∧ k ≠ g) (hd : ∀ k, Sa k → ¬ Sb k) : Own w e S (.slice (some ⟨g, 0, none⟩) 2 2) [a, b] := by
  refine .row S g 2 2 [(a, Va), (b, Vb)] (fun i k => (i = 0 ∧ Sa k) ∨ (i = 1 ∧ Sb k)) _ rfl rfl hg (row_pair h) ?_ ?_ ?_
  · intro j p hj
    match j, hj with
    | 0, hj => simp at hj; subst hj; exact ha.sub fun k hk => .inl ⟨rfl, hk⟩
    | 1, hj => simp at hj; subst hj; exact hb.sub fun k hk => .inr ⟨rfl, hk⟩
    | j + 2, hj => simp at hj
  · intro j k hj hk
    rcases hk with ⟨_, hk⟩ | ⟨_, hk⟩
    · exact hSa k hk
    · exact hSb k hk
  · intro i j k hi hj hk hk'
    rcases hk with ⟨rfl, hk⟩ | ⟨rfl, hk⟩
    · rcases hk' with ⟨rfl, hk'⟩ | ⟨rfl, hk'⟩
      · rfl
      · exact absurd hk' (hd k hk)
    · rcases hk' with ⟨rfl, hk'⟩ | ⟨rfl, hk'⟩
      · exact absurd hk (hd k hk')
      · rfl
theorem args_pair {w : World} {e : TypeId} {g : Nat} {a b : Tm} {Va Vb : Value} (h : w.heap[g]? = some (.cells #[.int .i64 a.kind, .int .i64 a.num, .string a.name, Va, .int .i64 b.kind, .int .i64 b.num, .string b.name, Vb] e)) (hg : g < w.heap.size)
    (ha : ArgsAt w Va a.args) (hb : ArgsAt w Vb b.args) : ArgsAt w (.slice (some ⟨g, 0, none⟩) 2 2) [a, b] := by
  have hr := row_pair h
  refine .row g 0 2 2 (fun j => if j = 0 then Va else Vb) _ rfl hg ?_ ?_
  · intro j t hj i v hv
    match j, hj with
    | 0, hj =>
      simp at hj; subst hj
      simp only [if_pos] at hv
      have hi : i < 4 := by have := (List.getElem?_eq_some_iff.1 hv).1; simpa [cells4] using this
      rw [Nat.zero_add, World.ownsRow.cellAt hr _ (by omega)]
      exact cellsL_at (L := [(a, Va), (b, Vb)]) (j := 0) rfl hv
    | 1, hj =>
      simp at hj; subst hj
      simp only [if_neg (show ¬ (1 : Nat) = 0 from by omega)] at hv
      have hi : i < 4 := by have := (List.getElem?_eq_some_iff.1 hv).1; simpa [cells4] using this
      rw [Nat.zero_add, World.ownsRow.cellAt hr _ (by omega)]
      exact cellsL_at (L := [(a, Va), (b, Vb)]) (j := 1) rfl hv
    | j + 2, hj => simp at hj
  · intro j t hj
    match j, hj with
    | 0, hj => simp at hj; subst hj; simpa using ha
    | 1, hj => simp at hj; subst hj; simpa using hb
    | j + 2, hj => simp at hj

set_option maxHeartbeats 400000 in
theorem pairOf_any (x0 x1 : Int) (x2 : ByteArray) (xa : Option Addr) (xn xc : Nat) (y0 y1 : Int) (y2 : ByteArray) (ya : Option Addr) (yn yc : Nat) (w : World) :
    Calls Try.prog 28 #[.agg #[.int .i64 x0, .int .i64 x1, .string x2, .slice xa xn xc], .agg #[.int .i64 y0, .int .i64 y1, .string y2, .slice ya yn yc]] w fun e w' =>
      ∃ g, e = .returned (.agg #[.int .i64 4, .int .i64 0, .string ⟨#[]⟩, .slice (some ⟨g, 0, none⟩) 2 2]) ∧ w.heap.size ≤ g ∧ g < w'.heap.size ∧
        w'.heap[g]? = some (.cells #[.int .i64 x0, .int .i64 x1, .string x2, .slice xa xn xc, .int .i64 y0, .int .i64 y1, .string y2, .slice ya yn yc] 25) ∧ Below w.heap.size w w' := by
  go_enter Try.func28, Try.ntmps28
  go_wp2
  refine bodyPost_ret (v := .agg #[.int .i64 4, .int .i64 0, .string ⟨#[]⟩, .slice (some ⟨w.heap.size + 1 + 1 + 1, 0, none⟩) 2 2]) (by simp [results, Try.results28, go_sem]) rfl ⟨_, rfl, by omega, by simp, ?_, ?_⟩
  · have h := heap_new (((w.alloc (.cells #[.int .i64 x0, .int .i64 x1, .string x2, .slice xa xn xc] 25)).alloc (.cells #[.int .i64 y0, .int .i64 y1, .string y2, .slice ya yn yc] 25)).alloc (.cells #[.int .i64 4, .int .i64 0, .string ⟨#[]⟩, .slice (some ⟨w.heap.size + 1 + 1 + 1, 0, none⟩) 2 2] 25)) (.cells #[.int .i64 x0, .int .i64 x1, .string x2, .slice xa xn xc, .int .i64 y0, .int .i64 y1, .string y2, .slice ya yn yc] 25)
    simpa using h
  · exact ((((Below.refl _ _).alloc (Nat.le_refl _) _).alloc (by simp) _).alloc (by simp; omega) _).alloc (by simp; omega) _

set_option maxHeartbeats 400000 in
theorem specPair_any (x0 x1 : Int) (x2 : ByteArray) (xa : Option Addr) (xn xc : Nat) (y0 y1 : Int) (y2 : ByteArray) (ya : Option Addr) (yn yc : Nat) (w : World) :
    Calls Try.prog 30 #[.agg #[.int .i64 x0, .int .i64 x1, .string x2, .slice xa xn xc], .agg #[.int .i64 y0, .int .i64 y1, .string y2, .slice ya yn yc]] w fun e w' =>
      ∃ g, e = .returned (.agg #[.int .i64 4, .int .i64 0, .string ⟨#[]⟩, .slice (some ⟨g, 0, none⟩) 2 2]) ∧ w.heap.size ≤ g ∧ g < w'.heap.size ∧
        w'.heap[g]? = some (.cells #[.int .i64 x0, .int .i64 x1, .string x2, .slice xa xn xc, .int .i64 y0, .int .i64 y1, .string y2, .slice ya yn yc] 25) ∧ Below w.heap.size w w' := by
  go_enter Try.func30, Try.ntmps30
  go_wp2
  refine bodyPost_ret (v := .agg #[.int .i64 4, .int .i64 0, .string ⟨#[]⟩, .slice (some ⟨w.heap.size + 1 + 1 + 1, 0, none⟩) 2 2]) (by simp [results, Try.results30, go_sem]) rfl ⟨_, rfl, by omega, by simp, ?_, ?_⟩
  · have h := heap_new (((w.alloc (.cells #[.int .i64 x0, .int .i64 x1, .string x2, .slice xa xn xc] 25)).alloc (.cells #[.int .i64 y0, .int .i64 y1, .string y2, .slice ya yn yc] 25)).alloc (.cells #[.int .i64 4, .int .i64 0, .string ⟨#[]⟩, .slice (some ⟨w.heap.size + 1 + 1 + 1, 0, none⟩) 2 2] 25)) (.cells #[.int .i64 x0, .int .i64 x1, .string x2, .slice xa xn xc, .int .i64 y0, .int .i64 y1, .string y2, .slice ya yn yc] 25)
    simpa using h
  · exact ((((Below.refl _ _).alloc (Nat.le_refl _) _).alloc (by simp) _).alloc (by simp; omega) _).alloc (by simp; omega) _
end Go.Proofs.Ytokndpmoamjbfaa

