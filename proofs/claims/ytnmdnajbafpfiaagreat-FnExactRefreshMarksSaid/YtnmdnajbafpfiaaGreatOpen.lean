/-
  An argument that is a term, or a slice of terms: the tree that it reads as.
-/
import Derived.Test.YtnmdnajbafpfiaaGreatTrees
import Derived.Test.YtnmdnajbafpfiaaGreatRows
import Derived.WalkKit
import Derived.ProofKit
import Derived.OpenShut
import Derived.ChangeOld
import Derived.Below
import Derived.Lib.SmallJoins
import Derived.Deep.Slices
import Derived.Deep.Fields
import Derived.DataReads
namespace Go.Proofs.YtnmdnajbafpfiaaGreat
open Go.RowKit Go.ChangeShapes Go.WideShapes Go.ChangeAt Go.Joins Go.Deep

theorem add_flat {g off i : Nat} : (⟨g, off, none⟩ : Addr).add i = ⟨g, off + i, none⟩ := by unfold Addr.add; split <;> simp_all

set_option maxRecDepth 100000 in
/-- The four cells of one term, read. -/
theorem open_cells {H : Type} {enc : TypeId × Value → H} {w : World} {n : Nat} {cs : List Value} {x : DataW H × List MemPlace} (h : DataW.trod enc Tryz.prog w 0 (fun _ => true) true n 26 cs = some x) :
    ∃ (k i : Int) (s : ByteArray) (V : Value) (m : Nat) (y : DataW H × List MemPlace), n = m + 1 ∧ cs = [.int .i64 k, .int .i64 i, .string s, V] ∧ s.size ≤ maxLen ∧ DataW.trod enc Tryz.prog w 0 (fun _ => true) true m 24 [V] = some y := by
  obtain ⟨xs, m, hm, _, hlen, hxl, hf⟩ := DataW.trod_struct Tryz.underlying26 h
  have hC : Tryz.prog.cellsOf 26 = 4 := by kernel_rfl
  have c0 : Tryz.prog.cellsOf 3 = 1 := by kernel_rfl
  have c1 : Tryz.prog.cellsOf 9 = 1 := by kernel_rfl
  have c2 : Tryz.prog.cellsOf 24 = 1 := by kernel_rfl
  rw [hC] at hlen
  match cs, hlen with
  | [v0, v1, v2, v3], _ =>
    match xs, hxl with
    | [y0, y1, y2, y3], _ =>
      have h0 := hf 0 _ rfl
      have h1 := hf 1 _ rfl
      have h2 := hf 2 _ rfl
      have h3 := hf 3 _ rfl
      simp [c0, c1, c2] at h0 h1 h2 h3
      obtain ⟨k, hk, _, _⟩ := DataW.trod_int Tryz.underlying3 h0
      obtain ⟨i, hi, _, _⟩ := DataW.trod_int Tryz.underlying3 h1
      obtain ⟨s, hs, _, hsz⟩ := DataW.trod_string Tryz.underlying9 h2
      simp only [List.cons.injEq, and_true] at hk hi hs
      subst hk; subst hi; subst hs
      exact ⟨k, i, s, v3, m, y3, hm, rfl, hsz, h3⟩

set_option maxRecDepth 100000 in
theorem open_args {H : Type} {enc : TypeId × Value → H} {w : World} (N : Nat) : ∀ (n : Nat) (V : Value) (x : DataW H × List MemPlace), n ≤ N → DataW.trod enc Tryz.prog w 0 (fun _ => true) true n 24 [V] = some x → ∃ l, ArgsAt w V l ∧ fineL l ∧ l.length ≤ maxLen := by
  induction N with
  | zero =>
    intro n V x hn h
    obtain rfl : n = 0 := by omega
    simp [DataW.trod] at h
  | succ N ih =>
    intro n V x hn h
    rcases DataW.trod_slice Tryz.underlying24 h with ⟨hcs, _⟩ | ⟨a, len, cap, elems, rest, m, hm, hcs, _, _, hl, hmx, hlen, hel, _, _⟩
    · simp only [List.cons.injEq, and_true] at hcs
      subst hcs
      exact ⟨[], .nil none 0, by rw [fineL]; trivial, Nat.zero_le _⟩
    · simp only [List.cons.injEq, and_true] at hcs
      subst hcs
      have hC : Tryz.prog.cellsOf 26 = 4 := by kernel_rfl
      rw [hC] at hel
      have each : ∀ i, i < len → ∃ (t : Tm) (U : Value), (∀ j v, (cells4 t U)[j]? = some v → w.cell? ((a.add (i * 4)).add j) = some v) ∧ ArgsAt w U t.args ∧ t.fine := by
        intro i hi
        have h1 := hel i hi
        rw [List.getElem?_eq_getElem (by omega)] at h1
        obtain ⟨cs', h2, h3⟩ := Option.bind_eq_some_iff.1 h1
        obtain ⟨k, q, s, U, m', y, hm', rfl, hsz, h4⟩ := open_cells h3
        obtain ⟨l, hA, hF, hL⟩ := ih m' U y (by omega) h4
        obtain ⟨_, _, hcell⟩ := World.cells?_some h2
        refine ⟨.mk k q s l, U, ?_, hA, ?_⟩
        · intro j v hv
          have hj : j < 4 := by have := (List.getElem?_eq_some_iff.1 hv).1; simpa [cells4] using this
          rw [hcell j hj]
          exact hv
        · rw [Tm.fine]; exact ⟨hsz, hL, hF⟩
      by_cases h0 : len = 0
      · subst h0
        exact ⟨[], .nil _ _, by rw [fineL]; trivial, Nat.zero_le _⟩
      · obtain ⟨t0, U0, hc0, _, _⟩ := each 0 (by omega)
        have hcc := hc0 0 _ rfl
        obtain ⟨g, off, spot⟩ := a
        have hspot : spot = none := by simpa [Addr.add] using World.cell?_spot hcc
        subst hspot
        have hg : g < w.heap.size := by
          have := World.block_lt_of_cell? w _ hcc
          simpa [Addr.add] using this
        have ⟨T, hT⟩ : ∃ T : Nat → Tm × Value, ∀ i, i < len → (∀ j v, (cells4 (T i).1 (T i).2)[j]? = some v → w.cell? ⟨g, off + (i * 4 + j), none⟩ = some v) ∧ ArgsAt w (T i).2 (T i).1.args ∧ (T i).1.fine := by
          refine ⟨fun i => if h : i < len then (Classical.choose (each i h), Classical.choose (Classical.choose_spec (each i h))) else (t0, U0), fun i hi => ?_⟩
          simp only [dif_pos hi]
          obtain ⟨p1, p2, p3⟩ := Classical.choose_spec (Classical.choose_spec (each i hi))
          refine ⟨fun j v hv => ?_, p2, p3⟩
          have := p1 j v hv
          rwa [add_flat, add_flat, Nat.add_assoc] at this
        have hat : ∀ j t, ((List.range len).map fun i => (T i).1)[j]? = some t → j < len ∧ t = (T j).1 := by
          intro j t hj
          have hjl : j < len := by have := (List.getElem?_eq_some_iff.1 hj).1; simpa using this
          rw [List.getElem?_map, List.getElem?_range hjl] at hj
          simp at hj
          exact ⟨hjl, hj.symm⟩
        refine ⟨(List.range len).map fun i => (T i).1, .row g off len cap (fun i => (T i).2) _ (by simp) hg ?_ ?_, ?_, by simp; omega⟩
        · intro j t hj i v hv
          obtain ⟨hjl, rfl⟩ := hat j t hj
          exact (hT j hjl).1 i v hv
        · intro j t hj
          obtain ⟨hjl, rfl⟩ := hat j t hj
          exact (hT j hjl).2.1
        · have all : ∀ l : List Tm, (∀ t ∈ l, t.fine) → fineL l := by
            intro l
            induction l with
            | nil => intro _; rw [fineL]; trivial
            | cons t l ih => intro h; rw [fineL]; exact ⟨h t (by simp), ih fun x hx => h x (by simp [hx])⟩
          refine all _ fun t ht => ?_
          simp only [List.mem_map, List.mem_range] at ht
          obtain ⟨i, hi, rfl⟩ := ht
          exact (hT i hi).2.2

set_option maxRecDepth 100000 in
/-- A parameter that is a term. -/
theorem open_term {H : Type} {enc : TypeId × Value → H} {W : World} {base : Nat} {v : Value} {d : DataW H} {p : List MemPlace} (hv : Value.okWide Tryz.prog W .any base 26 v) (h : DataW.Trod enc Tryz.prog W 0 (fun _ => true) true 26 v d p) :
    ∃ (t : Tm) (V : Value), v = .agg #[.int .i64 t.kind, .int .i64 t.num, .string t.name, V] ∧ ArgsAt W V t.args ∧ t.fine := by
  obtain ⟨cs, rfl, hsz⟩ := okWide_struct Tryz.underlying26 hv
  obtain ⟨n, hn⟩ := h
  obtain ⟨k, i, s, V, m, y, _, hcs, hs, h4⟩ := open_cells hn
  obtain ⟨l, hA, hF, hL⟩ := open_args m m V y (Nat.le_refl _) h4
  refine ⟨.mk k i s l, V, ?_, hA, by rw [Tm.fine]; exact ⟨hs, hL, hF⟩⟩
  have : cs = #[.int .i64 k, .int .i64 i, .string s, V] := by
    apply Array.toList_inj.1
    simpa [Value.cells] using hcs
  rw [this]
  rfl
set_option maxRecDepth 100000 in
/-- A parameter that is a slice of terms. -/
theorem open_terms {H : Type} {enc : TypeId × Value → H} {W : World} {base : Nat} {v : Value} {d : DataW H} {p : List MemPlace} (hv : Value.okWide Tryz.prog W .any base 24 v) (h : DataW.Trod enc Tryz.prog W 0 (fun _ => true) true 24 v d p) :
    ∃ l : List Tm, ArgsAt W v l ∧ fineL l ∧ l.length ≤ maxLen := by
  obtain ⟨a, len, cap, rfl⟩ := okWide_slice Tryz.underlying24 hv
  obtain ⟨n, hn⟩ := h
  exact open_args n n _ _ (Nat.le_refl _) hn
end Go.Proofs.YtnmdnajbafpfiaaGreat

