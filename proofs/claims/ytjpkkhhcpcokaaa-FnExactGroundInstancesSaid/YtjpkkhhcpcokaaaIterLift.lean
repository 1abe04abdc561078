/-
  Iterators that range over iterators: an invariant carried through an inner loop; the marks of the loops that a function has run.
-/
import Derived.Test.YtjpkkhhcpcokaaaIterTm
namespace Go.Proofs.Ytjpkkhhcpcokaaa
open Go.RowKit
set_option linter.unusedVariables false
set_option linter.unusedSimpArgs false

theorem heapE_0 (w : World) (o1 o2 : Obj) : ((w.alloc o1).alloc o2).heap[w.heap.size]? = some o1 := (Below.heap_alloc _ _ _ (by simp)).trans (World.alloc_heap_new w o1)
theorem heapE_1 (w : World) (o1 o2 : Obj) : ((w.alloc o1).alloc o2).heap[w.heap.size + 1]? = some o2 := by
  have := World.alloc_heap_new (w.alloc o1) o2
  rwa [World.size_alloc] at this
theorem cells1_of {w : World} {b : Nat} {e : TypeId} {x0 : Value} (h : w.heap[b]? = some (Obj.cells #[x0] e)) : w.cell? ⟨b, 0, none⟩ = some x0 := cell_of_row w b 0 _ _ _ h
theorem box_anew (w : World) (v v' : Value) (e : TypeId) : ((w.alloc (.cells #[v] e)).setCell ⟨w.heap.size, 0, none⟩ v').heap[w.heap.size]? = some (.cells #[v'] e) := (Boxed.new w e v).set v'
theorem below_anew (w : World) (v v' : Value) (e : TypeId) : Below w.heap.size w ((w.alloc (.cells #[v] e)).setCell ⟨w.heap.size, 0, none⟩ v') := ((Below.refl _ w).alloc (Nat.le_refl _) _).setCell (Nat.le_refl _) _
theorem size_anew (w : World) (v v' : Value) (e : TypeId) : ((w.alloc (.cells #[v] e)).setCell ⟨w.heap.size, 0, none⟩ v').heap.size = w.heap.size + 1 := by simp [World.setCell]
def Fp.join (A B : Fp) : Fp := ⟨fun k => A.p k ∨ B.p k, fun k => A.z k ∨ B.z k⟩
structure Apart (A B : Fp) : Prop where
  on : ∀ k, A.on k → ¬ B.p k
  z : ∀ k, A.p k → ¬ B.z k
theorem join_ok {A B : Fp} {n : Nat} (hA : A.ok n) (hB : B.ok n) (h : Apart A B) : (A.join B).ok n :=
  ⟨fun k hk => by
    rcases hk with (h | h) | (h | h)
    · exact hA.lt k (.inl h)
    · exact hB.lt k (.inl h)
    · exact hA.lt k (.inr h)
    · exact hB.lt k (.inr h), fun k hz hp => by
    rcases hz with hz | hz <;> rcases hp with hp | hp
    · exact hA.off k hz hp
    · exact h.on k (.inr hz) hp
    · exact h.z k hp hz
    · exact hB.off k hz hp⟩
/-- What is said of the outer loop's blocks alone. -/
def KStable (K : Fp → World → Prop) : Prop := ∀ A W W', K A W → A.ok W.heap.size → Only (fun k => ¬ A.on k) W W' → K A W'
/-- The outer invariant, with the inner iterator's blocks beside the outer ones. -/
def Lift {β : Type} (J : β → Fp → World → Prop) (K : Fp → World → Prop) (s : β) (Y : Fp) (W : World) : Prop := ∃ A : Fp, A.ok W.heap.size ∧ Apart A Y ∧ J s (A.join Y) W ∧ K A W
theorem lift_aby {β γ : Type} {J : β → Fp → World → Prop} {K : Fp → World → Prop} (hJ : AbY J) (hK : KStable K) (f : γ → β) : AbY fun s Y W => Lift J K (f s) Y W := by
  rintro s Y Y' W W' ⟨A, h1, h2, h3, h4⟩ hok ho ht hok'
  have hA : A.ok W'.heap.size := h1.up ho.size
  have h2' : Apart A Y' := ⟨fun k hk hp => by
    rcases ht.p k hp with h | h
    · exact h2.on k hk h
    · have := h1.lt k hk; omega, fun k hk hz => by
    rcases ht.z' k hz with h | h
    · exact h2.z k hk h
    · have := h1.lt k (.inl hk); omega⟩
  refine ⟨A, hA, h2', hJ _ _ _ W W' h3 (join_ok h1 hok h2) (ho.sub fun k hk => .inr hk) ⟨fun k hk => ?_, fun k hk => hk.imp id (ht.z k), fun k hk => ?_⟩ (join_ok hA hok' h2'), hK A W W' h4 h1 (ho.sub fun k hk hn => h2.on k hn hk)⟩
  · rcases hk with h | h
    · exact .inl (.inl h)
    · exact (ht.p k h).imp .inr id
  · rcases hk with h | h
    · exact .inl (.inl h)
    · exact (ht.z' k h).imp .inr id
/-- Out of the invariant over all blocks: those of the inner iterator set apart. -/
theorem lift_of {β : Type} {J : β → Fp → World → Prop} {K : Fp → World → Prop} {s : β} {Y B : Fp} {W : World} (hJ : AbY J) (hB : B.ok W.heap.size) (hs : J s B W) (hp : ∀ k, Y.p k → B.p k) (hz : ∀ k, Y.z k → B.z k) (hK : K ⟨fun k => B.p k ∧ ¬ Y.p k, B.z⟩ W) : Lift J K s Y W := by
  refine ⟨⟨fun k => B.p k ∧ ¬ Y.p k, B.z⟩, ⟨fun k hk => hB.lt k (hk.imp And.left id), fun k h1 h2 => hB.off k h1 h2.1⟩, ⟨fun k hk hy => ?_, fun k hk hy => hB.off k (hz k hy) hk.1⟩, ?_, hK⟩
  · rcases hk with h | h
    · exact h.2 hy
    · exact hB.off k h (hp k hy)
  · refine hJ _ _ _ W W hs hB (Only.refl _ _) ⟨fun k hk => .inl ?_, fun k hk => .inl hk, fun k hk => .inl ?_⟩ ⟨fun k hk => hB.lt k ?_, fun k h1 h2 => hB.off k ?_ ?_⟩
    · exact hk.elim And.left (hp k)
    · exact hk.elim id (hz k)
    · exact hk.imp (fun h => h.elim And.left (hp k)) (fun h => h.elim id (hz k))
    · exact h1.elim id (hz k)
    · exact h2.elim And.left (hp k)
/-- New blocks that nobody turns. -/
theorem AbY.fresh {β : Type} {J : β → Fp → World → Prop} (hJ : AbY J) {s : β} {B : Fp} {W W' : World} (h : J s B W) (hok : B.ok W.heap.size) (hb : Below W.heap.size W W') (Zn : Nat → Prop) (hZ : ∀ k, Zn k → W.heap.size ≤ k ∧ k < W'.heap.size) : J s ⟨B.p, fun k => B.z k ∨ Zn k⟩ W' ∧ Fp.ok ⟨B.p, fun k => B.z k ∨ Zn k⟩ W'.heap.size := by
  have hs := hb.size
  have ok : Fp.ok ⟨B.p, fun k => B.z k ∨ Zn k⟩ W'.heap.size := ⟨fun k hk => by
    rcases hk with h | h | h
    · have := hok.lt k (.inl h); omega
    · have := hok.lt k (.inr h); omega
    · exact (hZ k h).2, fun k hz hp => by
    rcases hz with h | h
    · exact hok.off k h hp
    · have := hok.lt k (.inl hp); have := (hZ k h).1; omega⟩
  exact ⟨hJ _ _ _ W W' h hok (Only.of_below hb) ⟨fun k hk => .inl hk, fun k hk => .inl hk, fun k hk => hk.imp id fun h => (hZ k h).1⟩ ok, ok⟩

/-- The mark of a loop that has been run. -/
def mk (D : Nat) : Deferred := { target := .collected D, args := #[] }
def Marks (Ds : List Nat) (A : Fp) (W : World) : Prop := Ds.Nodup ∧ ∀ D ∈ Ds, A.p D ∧ W.heap[D]? = some (.deferred (some []))
theorem Marks.only {Ds : List Nat} {A : Fp} {W W' : World} (h : Marks Ds A W) (ho : Only (fun k => ¬ A.on k) W W') : Marks Ds A W' :=
  ⟨h.1, fun D hD => ⟨(h.2 D hD).1, (ho.block D (Array.getElem?_eq_some_iff.1 (h.2 D hD).2).1 fun hn => hn (.inl (h.2 D hD).1)).trans (h.2 D hD).2⟩⟩
/-- The function's end: all marks are taken up. -/
theorem leaves_marks {P : Program} {fn : Func} {tmps : Array Value} {R : Ending → World → Prop} : ∀ (Ds : List Nat) (A : Fp) (W : World), Marks Ds A W → (∀ W', Only A.p W W' → LeavesIn Fence.wide 5 P fn tmps R [] .returning W') → LeavesInM Fence.wide 5 P fn tmps R (Ds.map mk) .returning W := by
  intro Ds
  induction Ds with
  | nil => intro A W _ h; exact h W (Only.refl _ _)
  | cons D Ds ih =>
    intro A W hM h
    obtain ⟨hp, hd⟩ := hM.2 D (by simp)
    refine ⟨by simp, .inl ⟨D, _, rfl, run_takeDeferred hd, ih A _ ⟨(List.nodup_cons.1 hM.1).2, fun D' hD' => ⟨(hM.2 D' (by simp [hD'])).1, ?_⟩⟩ fun W' ho => h W' (((only_putObj W D (.deferred none)).sub fun k hk => by rw [hk]; exact hp).trans ho)⟩⟩
    have hne : D' ≠ D := fun e => (List.nodup_cons.1 hM.1).1 (e ▸ hD')
    exact (World.putObj_heap_other hne).trans (hM.2 D' (by simp [hD'])).2
end Go.Proofs.Ytjpkkhhcpcokaaa

