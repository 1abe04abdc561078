/-
  An argument that is a slice of bindings: the list that it reads as.
-/
import Derived.Test.YtnmdnajbafpfiaaGreatOpen
import Derived.Test.YtnmdnajbafpfiaaGreatRows3
namespace Go.Proofs.YtnmdnajbafpfiaaGreat
open Go.RowKit Go.ChangeShapes Go.WideShapes Go.ChangeAt Go.Joins Go.Deep

set_option maxRecDepth 100000 in
/-- The five cells of one binding, read. -/
theorem open_cells5 {H : Type} {enc : TypeId × Value → H} {w : World} {n : Nat} {cs : List Value} {x : DataW H × List MemPlace} (h : DataW.trod enc Tryz.prog w 0 (fun _ => true) true n 62 cs = some x) :
    ∃ (v k i : Int) (s : ByteArray) (V : Value) (m : Nat) (y : DataW H × List MemPlace), n = m + 2 ∧ cs = [.int .i64 v, .int .i64 k, .int .i64 i, .string s, V] ∧ s.size ≤ maxLen ∧ wfI v ∧ DataW.trod enc Tryz.prog w 0 (fun _ => true) true m 24 [V] = some y := by
  obtain ⟨xs, m, hm, _, hlen, hxl, hf⟩ := DataW.trod_struct Tryz.underlying62 h
  have hC : Tryz.prog.cellsOf 62 = 5 := by kernel_rfl
  have c0 : Tryz.prog.cellsOf 3 = 1 := by kernel_rfl
  have c1 : Tryz.prog.cellsOf 26 = 4 := by kernel_rfl
  rw [hC] at hlen
  match cs, hlen with
  | [v0, v1, v2, v3, v4], _ =>
    match xs, hxl with
    | [y0, y1], _ =>
      have h0 := hf 0 _ rfl
      have h1 := hf 1 _ rfl
      simp [c0, c1] at h0 h1
      obtain ⟨v, hv, _, hwf⟩ := DataW.trod_int Tryz.underlying3 h0
      obtain ⟨k, i, s, V, m', y, hm', hcs, hs, hy⟩ := open_cells h1
      simp only [List.cons.injEq, and_true] at hv hcs
      subst hv
      obtain ⟨rfl, rfl, rfl, rfl⟩ := hcs
      exact ⟨v, k, i, s, v4, m', y, by omega, rfl, hs, hwf, hy⟩

set_option maxRecDepth 100000 in
/-- A parameter that is a slice of bindings. -/
theorem open_binds {H : Type} {enc : TypeId × Value → H} {W : World} {base : Nat} {v : Value} {d : DataW H} {p : List MemPlace} (hv : Value.okWide Tryz.prog W .any base 22 v) (h : DataW.Trod enc Tryz.prog W 0 (fun _ => true) true 22 v d p) :
    ∃ l : List Bd, ListS bdE W Any v l ∧ fineB l ∧ l.length ≤ maxLen := by
  obtain ⟨a, len, cap, rfl⟩ := okWide_slice Tryz.underlying22 hv
  obtain ⟨n, hn⟩ := h
  have hn' : DataW.trod enc Tryz.prog W 0 (fun _ => true) true n 22 [.slice a len cap] = some (d, p) := by simpa [Value.cells] using hn
  rcases DataW.trod_slice Tryz.underlying22 hn' with ⟨hcs, _⟩ | ⟨a', len', cap', elems, rest, m, hm, hcs, _, _, hl, hmx, hlen, hel, _, _⟩
  · simp only [List.cons.injEq, and_true, Value.slice.injEq] at hcs
    obtain ⟨rfl, rfl, rfl⟩ := hcs
    exact ⟨[], .nil none 0, fun b hb => by simp at hb, Nat.zero_le _⟩
  · simp only [List.cons.injEq, and_true, Value.slice.injEq] at hcs
    obtain ⟨rfl, rfl, rfl⟩ := hcs
    have hC : Tryz.prog.cellsOf 62 = 5 := by kernel_rfl
    rw [hC] at hel
    have each : ∀ i, i < len → ∃ (b : Bd) (U : Value), (∀ j u, (bdE.cells b U)[j]? = some u → W.cell? ((a'.add (i * 5)).add j) = some u) ∧ ArgsAt W U b.t.args ∧ b.t.fine ∧ wfI b.v := by
      intro i hi
      have h1 := hel i hi
      rw [List.getElem?_eq_getElem (by omega)] at h1
      obtain ⟨cs', h2, h3⟩ := Option.bind_eq_some_iff.1 h1
      obtain ⟨v, k, q, s, U, m', y, hm', rfl, hsz, hwf, h4⟩ := open_cells5 h3
      obtain ⟨l, hA, hF, hL⟩ := open_args m' m' U y (Nat.le_refl _) h4
      obtain ⟨_, _, hcell⟩ := World.cells?_some h2
      refine ⟨⟨v, .mk k q s l⟩, U, ?_, hA, ?_, hwf⟩
      · intro j u hu
        have hj : j < 5 := by have := (List.getElem?_eq_some_iff.1 hu).1; rwa [bdE.len] at this
        rw [hcell j hj]
        exact hu
      · rw [Tm.fine]; exact ⟨hsz, hL, hF⟩
    by_cases h0 : len = 0
    · subst h0
      exact ⟨[], .nil _ _, fun b hb => by simp at hb, Nat.zero_le _⟩
    · obtain ⟨b0, U0, hc0, _, _, _⟩ := each 0 (by omega)
      have hcc := hc0 0 _ rfl
      obtain ⟨g, off, spot⟩ := a'
      have hspot : spot = none := by simpa [Addr.add] using World.cell?_spot hcc
      subst hspot
      have hg : g < W.heap.size := by
        have := World.block_lt_of_cell? W _ hcc
        simpa [Addr.add] using this
      have ⟨T, hT⟩ : ∃ T : Nat → Bd × Value, ∀ i, i < len → (∀ j u, (bdE.cells (T i).1 (T i).2)[j]? = some u → W.cell? ⟨g, off + (i * 5 + j), none⟩ = some u) ∧ ArgsAt W (T i).2 (T i).1.t.args ∧ (T i).1.t.fine ∧ wfI (T i).1.v := by
        refine ⟨fun i => if h : i < len then (Classical.choose (each i h), Classical.choose (Classical.choose_spec (each i h))) else (b0, U0), fun i hi => ?_⟩
        simp only [dif_pos hi]
        obtain ⟨p1, p2, p3⟩ := Classical.choose_spec (Classical.choose_spec (each i hi))
        refine ⟨fun j u hu => ?_, p2, p3⟩
        have := p1 j u hu
        rwa [add_flat, add_flat, Nat.add_assoc] at this
      have hTl : ∀ j p, ((List.range len).map T)[j]? = some p → j < len ∧ p = T j := by
        intro j p hj
        have hjl : j < len := by have := (List.getElem?_eq_some_iff.1 hj).1; simpa using this
        rw [List.getElem?_map, List.getElem?_range hjl] at hj
        simp at hj
        exact ⟨hjl, hj.symm⟩
      refine ⟨((List.range len).map T).map Prod.fst, .row g off len cap ((List.range len).map T) _ rfl (by simp) trivial hg ?_ ?_, ?_, by simp; omega⟩
      · intro i u hu
        have hil := (List.getElem?_eq_some_iff.1 hu).1
        rw [cellsE_length] at hil
        simp only [List.length_map, List.length_range] at hil
        have hn5 : bdE.n = 5 := rfl
        rw [hn5] at hil
        have hq : i / 5 < len := by omega
        have hp : ((List.range len).map T)[i / 5]? = some (T (i / 5)) := by rw [List.getElem?_map, List.getElem?_range hq]; rfl
        obtain ⟨z, hz⟩ : ∃ z, (bdE.cells (T (i / 5)).1 (T (i / 5)).2)[i % 5]? = some z := ⟨_, List.getElem?_eq_getElem (by rw [bdE.len, hn5]; omega)⟩
        have h1 := cellsE_at (E := bdE) hp hz
        rw [hn5, show i / 5 * 5 + i % 5 = i from by omega, hu] at h1
        cases h1
        have := (hT (i / 5) hq).1 (i % 5) _ hz
        rwa [show i / 5 * 5 + i % 5 = i from by omega] at this
      · intro j p hj
        obtain ⟨hjl, rfl⟩ := hTl j p hj
        exact (hT j hjl).2.1.inS.sub fun _ _ => trivial
      · intro b hb
        obtain ⟨p, hp, rfl⟩ := List.mem_map.1 hb
        obtain ⟨j, hj⟩ := List.getElem?_of_mem hp
        obtain ⟨hjl, rfl⟩ := hTl j p hj
        exact (hT j hjl).2.2
end Go.Proofs.YtnmdnajbafpfiaaGreat

