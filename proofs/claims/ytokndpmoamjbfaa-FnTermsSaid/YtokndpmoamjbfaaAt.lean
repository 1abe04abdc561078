/-
  What holds of blocks from one number to another, and stays as long as these blocks do. Over whatever program.
-/
import Derived.Test.YtokndpmoamjbfaaHelp
import Derived.Deep.Cut
import Derived.Deep.CutRange
namespace Go.Proofs.Ytokndpmoamjbfaa
open Go.RowKit
set_option linter.unusedVariables false

theorem belowOn {B : Nat} {w w1 w2 : World} (h : Below B w w1) (hB : B ≤ w.heap.size) (hb : Below w1.heap.size w1 w2) : Below B w w2 := h.trans (hb.mono (Nat.le_trans hB h.size))

def Stays (lo hi : Nat) (P : World → Prop) : Prop := ∀ W W', P W → hi ≤ W.heap.size → (∀ k, lo ≤ k → k < hi → W'.heap[k]? = W.heap[k]?) → W.heap.size ≤ W'.heap.size → P W'
structure At (w : World) (lo hi : Nat) (P : World → Prop) : Prop where
  now : P w
  stays : Stays lo hi P
  le : hi ≤ w.heap.size
theorem At.read {w w' : World} {lo hi : Nat} {P : World → Prop} (h : At w lo hi P) (hb : Below w.heap.size w w') : At w' lo hi P :=
  ⟨h.stays w w' h.now h.le (fun k _ hk => hb.block k (Nat.lt_of_lt_of_le hk h.le)) hb.size, h.stays, Nat.le_trans h.le hb.size⟩
theorem At.only {w w' : World} {lo hi a b : Nat} {P : World → Prop} (h : At w lo hi P) (ho : Only (iv a b) w w') (hd : hi ≤ a ∨ b ≤ lo) : At w' lo hi P :=
  ⟨h.stays w w' h.now h.le (fun k h1 h2 => ho.block k (Nat.lt_of_lt_of_le h2 h.le) fun hs => by have := hs.1; have := hs.2; omega) ho.size, h.stays, Nat.le_trans h.le ho.size⟩
theorem At.of_below {w w' : World} {B lo hi : Nat} {P : World → Prop} (h : At w lo hi P) (hb : Below B w w') (hB : hi ≤ B) : At w' lo hi P :=
  ⟨h.stays w w' h.now h.le (fun k _ h2 => hb.block k (by omega)) hb.size, h.stays, Nat.le_trans h.le hb.size⟩

def BoxP (b : Nat) (xs : Array Value) (e : TypeId) (W : World) : Prop := W.heap[b]? = some (.cells xs e)
theorem stays_box (b : Nat) (xs : Array Value) (e : TypeId) : Stays b (b + 1) (BoxP b xs e) := fun W W' h _ hk _ => (hk b (Nat.le_refl _) (Nat.lt_succ_self _)).trans h
theorem at_box (w : World) (xs : Array Value) (e : TypeId) : At (w.alloc (.cells xs e)) w.heap.size (w.heap.size + 1) (BoxP w.heap.size xs e) := ⟨heap_new w _, stays_box _ _ _, by simp⟩
theorem at_box_of (w : World) (xs : Array Value) (e : TypeId) (n : Nat) (hn : w.heap.size = n) : At (w.alloc (.cells xs e)) n (n + 1) (BoxP n xs e) := by subst hn; exact at_box w xs e
theorem At.cells {w : World} {lo hi b : Nat} {e : TypeId} {x0 x1 x2 x3 : Value} (h : At w lo hi (BoxP b #[x0, x1, x2, x3] e)) :
    w.cell? ⟨b, 0, none⟩ = some x0 ∧ w.cell? ⟨b, 1, none⟩ = some x1 ∧ w.cell? ⟨b, 2, none⟩ = some x2 ∧ w.cell? ⟨b, 3, none⟩ = some x3 := by
  obtain ⟨h0, h1, h2, h3, _⟩ := box_cells h.now
  exact ⟨h0, h1, h2, h3⟩

def ArgsP (V : Value) (l : List Tm) (W : World) : Prop := ArgsAt W V l
theorem argsAt_part {w : World} {v : Value} {l : List Tm} (h : ArgsAt w v l) : Stays 0 w.heap.size (ArgsP v l) → At w 0 w.heap.size (ArgsP v l) := fun hs => ⟨h, hs, Nat.le_refl _⟩
/-- A list of arguments, seen at the world in which it was read first, holds as long as that world's blocks stay. -/
def ArgsFrom (w : World) (V : Value) (l : List Tm) (W : World) : Prop := ArgsAt W V l ∧ ∀ k, k < w.heap.size → W.heap[k]? = w.heap[k]?
theorem at_args {w : World} {V : Value} {l : List Tm} (h : ArgsAt w V l) : At w 0 w.heap.size (ArgsFrom w V l) :=
  ⟨⟨h, fun _ _ => rfl⟩, fun W W' hP hle hk hs => by
    have e : ∀ k, k < w.heap.size → W'.heap[k]? = w.heap[k]? := fun k hlt => (hk k (Nat.zero_le _) hlt).trans (hP.2 k hlt)
    exact ⟨h.keep (Nat.le_trans hle hs) e, e⟩, Nat.le_refl _⟩
def OwnP (e : TypeId) (lo hi : Nat) (V : Value) (l : List Tm) (W : World) : Prop := Own W e (iv lo hi) V l
theorem stays_own (e : TypeId) (lo hi : Nat) (V : Value) (l : List Tm) : Stays lo hi (OwnP e lo hi V l) := fun _ _ h _ hk _ => Own.frame h fun k hs _ => hk k hs.1 hs.2
theorem at_own {w : World} {e : TypeId} {lo hi : Nat} {V : Value} {l : List Tm} (h : Own w e (iv lo hi) V l) (hl : hi ≤ w.heap.size) : At w lo hi (OwnP e lo hi V l) := ⟨h, stays_own e lo hi V l, hl⟩
theorem NewTree.at {l : List Tm} {w w' : World} {u : Value} (h : NewTree l w u w') : At w' w.heap.size w'.heap.size (OwnP 25 w.heap.size w'.heap.size u l) := at_own h.1 (Nat.le_refl _)
class HasArgs (P : World → Prop) (V : outParam Value) (l : outParam (List Tm)) : Prop where
  get : ∀ w, P w → ArgsAt w V l
instance (e : TypeId) (lo hi : Nat) (V : Value) (l : List Tm) : HasArgs (OwnP e lo hi V l) V l := ⟨fun _ h => Own.argsAt h⟩
instance (w0 : World) (V : Value) (l : List Tm) : HasArgs (ArgsFrom w0 V l) V l := ⟨fun _ h => h.1⟩
theorem At.argsAt {P : World → Prop} {V : Value} {l : List Tm} [c : HasArgs P V l] {w : World} {lo hi : Nat} (h : At w lo hi P) : ArgsAt w V l := c.get w h.now
/-- One element of a list of arguments: its cells in every later world, its own arguments. -/
theorem ArgsAt.elem {w : World} {a : Option Addr} {n cap : Nat} {l : List Tm} (h : ArgsAt w (.slice a n cap) l) {k : Nat} {x : Tm} (hx : l[k]? = some x) :
    ∃ g off u1 u2, a = some ⟨g, off, none⟩ ∧ g < w.heap.size ∧ n = l.length ∧
      (∀ W, Below w.heap.size w W → W.cell? ⟨g, off + k * 4, none⟩ = some (.int .i64 x.kind) ∧ W.cell? ⟨g, off + k * 4 + 1, none⟩ = some (.int .i64 x.num) ∧ W.cell? ⟨g, off + k * 4 + 2, none⟩ = some (.string x.name) ∧ W.cell? ⟨g, off + k * 4 + 3, none⟩ = some (.slice u1 x.args.length u2)) ∧
      ArgsAt w (.slice u1 x.args.length u2) x.args := by
  obtain ⟨g, off, cap1, V, hv, hg, hc, hch⟩ := h.parts (by intro e; rw [e] at hx; simp at hx)
  simp only [Value.slice.injEq] at hv
  obtain ⟨rfl, rfl, rfl⟩ := hv
  obtain ⟨c0, c1, c2, c3⟩ := hc k x hx
  obtain ⟨u1, u2, hV⟩ := (hch k x hx).slice
  refine ⟨g, off, u1, u2, rfl, hg, rfl, fun W hW => ⟨(hW.cell (p := ⟨g, off + k * 4, none⟩) hg).trans c0, (hW.cell (p := ⟨g, off + k * 4 + 1, none⟩) hg).trans c1, (hW.cell (p := ⟨g, off + k * 4 + 2, none⟩) hg).trans c2, ?_⟩, by have := hch k x hx; rwa [hV] at this⟩
  rw [← hV]
  exact (hW.cell (p := ⟨g, off + k * 4 + 3, none⟩) hg).trans c3

end Go.Proofs.Ytokndpmoamjbfaa

