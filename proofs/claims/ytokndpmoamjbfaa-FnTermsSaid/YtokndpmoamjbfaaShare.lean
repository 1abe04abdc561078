/-
  Trees that can be read, all their blocks in a set; a struct and a second result returned.
-/
import Derived.Test.YtokndpmoamjbfaaReplaced
namespace Go.Proofs.Ytokndpmoamjbfaa
open Go.RowKit
set_option linter.unusedVariables false
set_option linter.unusedSimpArgs false

inductive ArgsS (w : World) (S : Nat → Prop) : Value → List Tm → Prop
  | nil (a : Option Addr) (cap : Nat) : ArgsS w S (.slice a 0 cap) []
  | row (g off n cap : Nat) (V : Nat → Value) (l : List Tm) (hn : n = l.length) (hS : S g) (hg : g < w.heap.size)
      (hc : ∀ j t, l[j]? = some t → ∀ i v, (cells4 t (V j))[i]? = some v → w.cell? ⟨g, off + (j * 4 + i), none⟩ = some v)
      (hr : ∀ j t, l[j]? = some t → ArgsS w S (V j) t.args) : ArgsS w S (.slice (some ⟨g, off, none⟩) n cap) l

theorem ArgsS.at {w : World} {S : Nat → Prop} {v : Value} {l : List Tm} (h : ArgsS w S v l) : ArgsAt w v l := by
  induction h with
  | nil a cap => exact .nil a cap
  | row g off n cap V l hn hS hg hc hr ih => exact .row g off n cap V l hn hg hc ih
theorem ArgsS.root {w : World} {S : Nat → Prop} {v : Value} {l : List Tm} (h : ArgsS w S v l) (hne : l ≠ []) : ∃ g off n cap, v = .slice (some ⟨g, off, none⟩) n cap ∧ S g := by
  cases h with
  | nil a cap => exact absurd rfl hne
  | row g off n cap V l hn hS hg hc hr => exact ⟨g, off, n, cap, rfl, hS⟩
theorem ArgsAt.inS {w : World} {v : Value} {l : List Tm} (h : ArgsAt w v l) : ArgsS w (fun k => k < w.heap.size) v l := by
  induction h with
  | nil a cap => exact .nil a cap
  | row g off n cap V l hn hg hc hr ih => exact .row g off n cap V l hn hg hg hc ih
theorem ArgsS.sub {w : World} {S S' : Nat → Prop} {v : Value} {l : List Tm} (h : ArgsS w S v l) (hS : ∀ k, S k → S' k) : ArgsS w S' v l := by
  induction h with
  | nil a cap => exact .nil a cap
  | row g off n cap V l hn hs hg hc hr ih => exact .row g off n cap V l hn (hS g hs) hg hc ih
theorem ArgsS.frame {w w' : World} {S : Nat → Prop} {v : Value} {l : List Tm} (h : ArgsS w S v l) (hs : w.heap.size ≤ w'.heap.size) (hb : ∀ k, S k → k < w.heap.size → w'.heap[k]? = w.heap[k]?) : ArgsS w' S v l := by
  induction h with
  | nil a cap => exact .nil a cap
  | row g off n cap V l hn hS hg hc hr ih =>
    exact .row g off n cap V l hn hS (Nat.lt_of_lt_of_le hg hs) (fun j t hj i v hv => (World.cell?_of_block (a := ⟨g, off + (j * 4 + i), none⟩) (hb g hS hg)).trans (hc j t hj i v hv)) ih
theorem ArgsS.kept {w w' : World} {S : Nat → Prop} {v : Value} {l : List Tm} (h : ArgsS w S v l) (hb : Below w.heap.size w w') : ArgsS w' S v l := h.frame hb.size fun k _ hk => hb.block k hk
theorem ArgsS.elem {w : World} {S : Nat → Prop} {a : Option Addr} {n cap : Nat} {l : List Tm} (h : ArgsS w S (.slice a n cap) l) {k : Nat} {x : Tm} (hx : l[k]? = some x) :
    ∃ g off u1 u2, a = some ⟨g, off, none⟩ ∧ g < w.heap.size ∧ n = l.length ∧
      (∀ W, Below w.heap.size w W → W.cell? ⟨g, off + k * 4, none⟩ = some (.int .i64 x.kind) ∧ W.cell? ⟨g, off + k * 4 + 1, none⟩ = some (.int .i64 x.num) ∧ W.cell? ⟨g, off + k * 4 + 2, none⟩ = some (.string x.name) ∧ W.cell? ⟨g, off + k * 4 + 3, none⟩ = some (.slice u1 x.args.length u2)) ∧
      ArgsS w S (.slice u1 x.args.length u2) x.args := by
  cases h with
  | nil => simp at hx
  | row g off n cap V l hn hS hg hc hr =>
    obtain ⟨u1, u2, hV⟩ := (hr k x hx).at.slice
    have cc : ∀ i v, (cells4 x (V k))[i]? = some v → w.cell? ⟨g, off + k * 4 + i, none⟩ = some v := fun i v hv => by rw [Nat.add_assoc]; exact hc k x hx i v hv
    refine ⟨g, off, u1, u2, rfl, hg, hn, fun W hW => ⟨(hW.cell (p := ⟨g, off + k * 4, none⟩) hg).trans (cc 0 _ rfl), (hW.cell (p := ⟨g, off + k * 4 + 1, none⟩) hg).trans (cc 1 _ rfl), (hW.cell (p := ⟨g, off + k * 4 + 2, none⟩) hg).trans (cc 2 _ rfl), ?_⟩, by have := hr k x hx; rwa [hV] at this⟩
    rw [← hV]
    exact (hW.cell (p := ⟨g, off + k * 4 + 3, none⟩) hg).trans (cc 3 _ rfl)
theorem ArgsS.two {w : World} {S : Nat → Prop} {a : Option Addr} {n cap : Nat} {l : List Tm} {x y : Tm} (h : ArgsS w S (.slice a n cap) l) (hl : l = [x, y]) :
    ∃ g off u1 u2 v1 v2, a = some ⟨g, off, none⟩ ∧ g < w.heap.size ∧ n = 2 ∧
      (∀ W, Below w.heap.size w W → W.cell? ⟨g, off, none⟩ = some (.int .i64 x.kind) ∧ W.cell? ⟨g, off + 1, none⟩ = some (.int .i64 x.num) ∧ W.cell? ⟨g, off + 2, none⟩ = some (.string x.name) ∧ W.cell? ⟨g, off + 3, none⟩ = some (.slice u1 x.args.length u2)) ∧
      (∀ W, Below w.heap.size w W → W.cell? ⟨g, off + 4, none⟩ = some (.int .i64 y.kind) ∧ W.cell? ⟨g, off + 4 + 1, none⟩ = some (.int .i64 y.num) ∧ W.cell? ⟨g, off + 4 + 2, none⟩ = some (.string y.name) ∧ W.cell? ⟨g, off + 4 + 3, none⟩ = some (.slice v1 y.args.length v2)) ∧
      ArgsS w S (.slice u1 x.args.length u2) x.args ∧ ArgsS w S (.slice v1 y.args.length v2) y.args := by
  obtain ⟨g, off, u1, u2, rfl, hg, hn, hc, hx⟩ := h.elem (k := 0) (x := x) (by rw [hl]; rfl)
  obtain ⟨g', off', v1, v2, he, hg', hn', hc', hy⟩ := h.elem (k := 1) (x := y) (by rw [hl]; rfl)
  simp only [Option.some.injEq, Addr.mk.injEq, and_true] at he
  obtain ⟨rfl, rfl⟩ := he
  refine ⟨g, off, u1, u2, v1, v2, rfl, hg, by rw [hn, hl]; rfl, fun W hW => ?_, fun W hW => ?_, hx, hy⟩
  · have := hc W hW
    simpa using this
  · have := hc' W hW
    simpa using this
theorem argsS_pair {w : World} {S : Nat → Prop} {e : TypeId} {g : Nat} {a b : Tm} {Va Vb : Value} (h : w.heap[g]? = some (.cells #[.int .i64 a.kind, .int .i64 a.num, .string a.name, Va, .int .i64 b.kind, .int .i64 b.num, .string b.name, Vb] e)) (hg : g < w.heap.size) (hS : S g)
    (ha : ArgsS w S Va a.args) (hb : ArgsS w S Vb b.args) : ArgsS w S (.slice (some ⟨g, 0, none⟩) 2 2) [a, b] := by
  have hr := row_pair h
  refine .row g 0 2 2 (fun j => if j = 0 then Va else Vb) _ rfl hS hg ?_ ?_
  · intro j t hj i v hv
    match j, hj with
    | 0, hj =>
      simp at hj; subst hj
      simp only [if_pos] at hv
      have hi : i < 4 := by have := (List.getElem?_eq_some_iff.1 hv).1; simpa [cells4] using this
      rw [Nat.zero_add, World.ownsRow.cellAt hr _ (by omega)]
      exact cellsL_at (L := [(a, Va), (b, Vb)]) (j := 0) rfl hv
    | 1, hj =>
      simp at hj; subst hj
      simp only [if_neg (show ¬ (1 : Nat) = 0 from by omega)] at hv
      have hi : i < 4 := by have := (List.getElem?_eq_some_iff.1 hv).1; simpa [cells4] using this
      rw [Nat.zero_add, World.ownsRow.cellAt hr _ (by omega)]
      exact cellsL_at (L := [(a, Va), (b, Vb)]) (j := 1) rfl hv
    | j + 2, hj => simp at hj
  · intro j t hj
    match j, hj with
    | 0, hj => simp at hj; subst hj; simpa using ha
    | 1, hj => simp at hj; subst hj; simpa using hb
    | j + 2, hj => simp at hj

/-- The answer is a term that can be read: what was there before in S, and what is new. -/
def OldS (S : Nat → Prop) (t : Tm) (w : World) (e : Ending) (w' : World) : Prop :=
  ∃ u, e = .returned (.agg #[.int .i64 t.kind, .int .i64 t.num, .string t.name, u]) ∧ ArgsS w' (fun k => S k ∨ (w.heap.size ≤ k ∧ k < w'.heap.size)) u t.args ∧ Below w.heap.size w w'
/-- The same, its new blocks counted from an elder world. -/
theorem OldS.from {S : Nat → Prop} {t : Tm} {w0 w : World} {e : Ending} {w' : World} (h : OldS S t w e w') (hs : w0.heap.size ≤ w.heap.size) :
    ∃ u, e = .returned (.agg #[.int .i64 t.kind, .int .i64 t.num, .string t.name, u]) ∧ ArgsS w' (fun k => S k ∨ (w0.heap.size ≤ k ∧ k < w'.heap.size)) u t.args ∧ Below w.heap.size w w' := by
  obtain ⟨u, he, ha, hb⟩ := h
  exact ⟨u, he, ha.sub fun k hk => hk.imp id fun h => ⟨by omega, h.2⟩, hb⟩
theorem OldS.old {S : Nat → Prop} {t : Tm} {w w' : World} {e : Ending} (h : OldS S t w e w') : OldTm t w e w' := by
  obtain ⟨u, he, ha, hb⟩ := h
  exact ⟨u, he, ha.at, hb⟩

/-- The result's variable written, the term in it reads on: nothing that it reaches is that variable. -/
theorem oldS_end {P : Program} {fn : Func} {t : Tm} {k i : Int} {s : ByteArray} {S : Nat → Prop} {w W wE : World} {a : Act} {p : Tmp} {b : Nat} {x0 x1 x2 x3 u : Value} {fs : Array Field} (h1 : t.kind = k) (h2 : t.num = i) (h3 : t.name = s) (h : fn.results = #[.cell p 25]) (hp : a.tmps.getD p undef = .pointer (some ⟨b, 0, none⟩)) (hd : a.defers = [])
    (hu : P.underlying 25 = some (.struct fs)) (hi : (P.info? 25).map (·.size) = some 4) (hb : wE.heap[b]? = some (Obj.cells #[x0, x1, x2, x3] 25))
    (hS : ∀ k, S k → k < w.heap.size) (hW : Below w.heap.size w W) (hE : Below W.heap.size W wE) (hb1 : w.heap.size ≤ b) (hb2 : b < W.heap.size) (hn : ArgsS wE (fun k => S k ∨ (W.heap.size ≤ k ∧ k < wE.heap.size)) u t.args) :
    bodyPost P fn (OldS S t w) .ret a ((((wE.setCell ⟨b, 0, none⟩ (.int .i64 k)).setCell ⟨b, 1, none⟩ (.int .i64 i)).setCell ⟨b, 2, none⟩ (.string s)).setCell ⟨b, 3, none⟩ u) := by
  subst h1
  subst h2
  subst h3
  refine bodyPost_four h hp hd hu rfl hi hb fun w' hw => ⟨u, rfl, ?_, ?_⟩
  · have s1 := hW.size
    have s2 := hw.size
    refine (hn.frame hw.size fun k hk _ => hw.block k (by
      rcases hk with hk | hk
      · have := hS k hk; omega
      · omega) fun e => ?_).sub fun k hk => ?_
    · rcases hk with hk | hk
      · have := hS k hk; omega
      · omega
    · rcases hk with hk | hk
      · exact .inl hk
      · exact .inr ⟨by omega, by omega⟩
  · have h5 := belowOn hW (Nat.le_refl _) hE
    exact h5.trans (hw.below (fun k hk => by omega) h5.size)

theorem results_cell_row2 {P : Program} {fn : Func} {p q : Tmp} {ty : TypeId} (h : fn.results = #[.cell p ty, .tmp q]) (tmps : Array Value) (w : World) (g : Nat) (t : TypeId) (cs : Array Value) (fr : Nat × Nat) (d : TypeDesc)
    (hp : tmps.getD p undef = .pointer (some ⟨g, 0, none⟩)) (hg : w.heap[g]? = some (.cells cs t fr))
    (hu : P.underlying ty = some d) (hd : (match d with | .struct _ | .array _ _ => true | _ => false) = true) (hi : (P.info? ty).map (·.size) = some cs.size) :
    (results fn tmps).run P w = .ok (.tuple #[.agg cs, tmps.getD q undef]) w := by
  have hp' : tmps[p]?.getD undef = .pointer (some ⟨g, 0, none⟩) := by simpa using hp
  simp [results, h, hp', asAddr, run_loadVar_row w g t ty cs fr d hg hu hd hi]
/-- The return of a struct of four cells that has just been stored into the result's variable, and of a second result. -/
theorem bodyPost_four2 {P : Program} {fn : Func} {R : Ending → World → Prop} {a : Act} {w : World} {p q : Tmp} {ty e : TypeId} {b : Nat} {x0 x1 x2 x3 y0 y1 y2 y3 z : Value} {d : TypeDesc} (h : fn.results = #[.cell p ty, .tmp q]) (hp : a.tmps.getD p undef = .pointer (some ⟨b, 0, none⟩)) (hq : a.tmps.getD q undef = z) (hd : a.defers = [])
    (hu : P.underlying ty = some d) (hdd : (match d with | .struct _ | .array _ _ => true | _ => false) = true) (hi : (P.info? ty).map (·.size) = some 4) (hb : w.heap[b]? = some (Obj.cells #[x0, x1, x2, x3] e))
    (hR : ∀ w', Only (fun k => k = b) w w' → R (.returned (.tuple #[.agg #[y0, y1, y2, y3], z])) w') :
    bodyPost P fn R .ret a ((((w.setCell ⟨b, 0, none⟩ y0).setCell ⟨b, 1, none⟩ y1).setCell ⟨b, 2, none⟩ y2).setCell ⟨b, 3, none⟩ y3) := by
  subst hq
  have h0 := heap_setCell_same w b 0 _ e y0 hb
  have h1 := heap_setCell_same _ b 1 _ e y1 h0
  have h2 := heap_setCell_same _ b 2 _ e y2 h1
  have h3 := heap_setCell_same _ b 3 _ e y3 h2
  refine bodyPost_ret (results_cell_row2 h _ _ b e #[y0, y1, y2, y3] (0, 0) d hp h3 hu hdd hi) hd (hR _ ?_)
  have one : ∀ (W : World) (j : Nat) (u : Value), Only (fun k => k = b) W (W.setCell ⟨b, j, none⟩ u) := fun W j u => ⟨rfl, rfl, rfl, by simp, fun k _ hk => Below.heap_setCell _ _ _ _ hk⟩
  exact (((one _ _ _).trans (one _ _ _)).trans (one _ _ _)).trans (one _ _ _)
/-- The answer: a new term and a yes or no. -/
def NewTm2 (t : Tm) (b : Bool) (w : World) (e : Ending) (w' : World) : Prop := ∃ u, e = .returned (.tuple #[.agg #[.int .i64 t.kind, .int .i64 t.num, .string t.name, u], .bool b]) ∧ NewTree t.args w u w'
theorem newTm2_end {P : Program} {fn : Func} {t : Tm} {k i : Int} {s : ByteArray} {B : Bool} {w W wE : World} {a : Act} {p q : Tmp} {b : Nat} {x0 x1 x2 x3 u : Value} {fs : Array Field} (h1 : t.kind = k) (h2 : t.num = i) (h3 : t.name = s) (h : fn.results = #[.cell p 25, .tmp q]) (hp : a.tmps.getD p undef = .pointer (some ⟨b, 0, none⟩)) (hq : a.tmps.getD q undef = .bool B) (hd : a.defers = [])
    (hu : P.underlying 25 = some (.struct fs)) (hi : (P.info? 25).map (·.size) = some 4) (hb : wE.heap[b]? = some (Obj.cells #[x0, x1, x2, x3] 25))
    (hW : Below w.heap.size w W) (hb1 : w.heap.size ≤ b) (hb2 : b < W.heap.size) (hn : NewTree t.args W u wE) :
    bodyPost P fn (NewTm2 t B w) .ret a ((((wE.setCell ⟨b, 0, none⟩ (.int .i64 k)).setCell ⟨b, 1, none⟩ (.int .i64 i)).setCell ⟨b, 2, none⟩ (.string s)).setCell ⟨b, 3, none⟩ u) := by
  subst h1
  subst h2
  subst h3
  refine bodyPost_four2 h hp hq hd hu rfl hi hb fun w' hw => ⟨_, rfl, NewTree.after hn hW (hw.sub fun k hk => ?_)⟩
  subst hk
  unfold iv
  omega
def zeroTm : Tm := .mk 0 0 ⟨#[]⟩ []
theorem zero_new {w w' : World} (hb : Below w.heap.size w w') : NewTree zeroTm.args w (.slice none 0 0) w' := ⟨.nil _, hb⟩
end Go.Proofs.Ytokndpmoamjbfaa

