/-
  Terms copied and a variable in them replaced: the contracts of the program's copied and replaced.
-/
import Derived.Test.YtokndpmoamjbfaaDoorNew
namespace Go.Proofs.YtokndpmoamjbfaaDoor
open Go.RowKit
set_option linter.unusedVariables false
set_option linter.unusedSimpArgs false

theorem newPair {x y : Tm} {w1 A B C D E : World} {u0 u1 : Value} {g : Nat} (h1 : Below w1.heap.size w1 A) (h0 : NewTree x.args A u0 B) (h2 : Below B.heap.size B C) (h3 : NewTree y.args C u1 D) (hg : D.heap.size ≤ g) (hg2 : g < E.heap.size)
    (hh : E.heap[g]? = some (.cells #[.int .i64 x.kind, .int .i64 x.num, .string x.name, u0, .int .i64 y.kind, .int .i64 y.num, .string y.name, u1] 26)) (h4 : Below D.heap.size D E) : NewTree [x, y] w1 (.slice (some ⟨g, 0, none⟩) 2 2) E := by
  have s1 := h1.size
  have s0 := h0.2.size
  have s2 := h2.size
  have s3 := h3.2.size
  have s4 := h4.size
  have hBD := belowOn h2 (Nat.le_refl _) h3.2
  have hBE := belowOn hBD (Nat.le_refl _) h4
  refine ⟨own_pair hh (by unfold iv; omega) (h0.1.kept' hBE fun k hk => hk.2) (h3.1.kept' h4 fun k hk => hk.2) ?_ ?_ ?_, belowOn (belowOn h1 (Nat.le_refl _) h0.2) (Nat.le_refl _) hBE⟩
  · intro k hk
    unfold iv at hk ⊢
    omega
  · intro k hk
    unfold iv at hk ⊢
    omega
  · intro k hk hk'
    unfold iv at hk hk'
    omega
theorem fit_atom_new {t : Tm} {w w' : World} (h : t.args = []) (hb : Below w.heap.size w w') : NewTree t.args w (.slice none 0 0) w' := by
  rw [h]; exact ⟨.nil _, hb⟩
theorem pair_fields {t : Tm} (h : Good t) (hk : t.kind = 4) : t.num = 0 ∧ t.name = ⟨#[]⟩ := by
  rcases h.fit with ⟨h, _⟩ | ⟨h, _⟩ | ⟨h, _⟩ | ⟨h, _⟩ | ⟨_, h1, h2, _⟩
  · rw [hk] at h; cases h
  · rw [hk] at h; cases h
  · rw [hk] at h; cases h
  · rw [hk] at h; cases h
  · exact ⟨h1, h2⟩
theorem below3 {w w0 w1 : World} (h : Below w.heap.size w w0) (h1 : Below w0.heap.size w0 w1) : Below w.heap.size w w1 := belowOn h (Nat.le_refl _) h1
/-- What a function that returns a struct by its result's cell hands back. -/
theorem newTm_end {P : Program} {fn : Func} {t : Tm} {w W wE : World} {a : Act} {p : Tmp} {b : Nat} {x0 x1 x2 x3 u : Value} {fs : Array Field} (h : fn.results = #[.cell p 26]) (hp : a.tmps.getD p undef = .pointer (some ⟨b, 0, none⟩)) (hd : a.defers = [])
    (hu : P.underlying 26 = some (.struct fs)) (hi : (P.info? 26).map (·.size) = some 4) (hb : wE.heap[b]? = some (Obj.cells #[x0, x1, x2, x3] 26))
    (hW : Below w.heap.size w W) (hb1 : w.heap.size ≤ b) (hb2 : b < W.heap.size) (hn : NewTree t.args W u wE) :
    bodyPost P fn (NewTm t w) .ret a ((((wE.setCell ⟨b, 0, none⟩ (.int .i64 t.kind)).setCell ⟨b, 1, none⟩ (.int .i64 t.num)).setCell ⟨b, 2, none⟩ (.string t.name)).setCell ⟨b, 3, none⟩ u) := by
  refine bodyPost_four h hp hd hu rfl hi hb fun w' hw => ⟨_, rfl, NewTree.after hn hW (hw.sub fun k hk => ?_)⟩
  subst hk
  unfold iv
  omega
theorem newTm_end' {P : Program} {fn : Func} {t : Tm} {k i : Int} {s : ByteArray} {w W wE : World} {a : Act} {p : Tmp} {b : Nat} {x0 x1 x2 x3 u : Value} {fs : Array Field} (h1 : t.kind = k) (h2 : t.num = i) (h3 : t.name = s) (h : fn.results = #[.cell p 26]) (hp : a.tmps.getD p undef = .pointer (some ⟨b, 0, none⟩)) (hd : a.defers = [])
    (hu : P.underlying 26 = some (.struct fs)) (hi : (P.info? 26).map (·.size) = some 4) (hb : wE.heap[b]? = some (Obj.cells #[x0, x1, x2, x3] 26))
    (hW : Below w.heap.size w W) (hb1 : w.heap.size ≤ b) (hb2 : b < W.heap.size) (hn : NewTree t.args W u wE) :
    bodyPost P fn (NewTm t w) .ret a ((((wE.setCell ⟨b, 0, none⟩ (.int .i64 k)).setCell ⟨b, 1, none⟩ (.int .i64 i)).setCell ⟨b, 2, none⟩ (.string s)).setCell ⟨b, 3, none⟩ u) := by
  subst h1
  subst h2
  subst h3
  exact newTm_end h hp hd hu hi hb hW hb1 hb2 hn

end Go.Proofs.YtokndpmoamjbfaaDoor

