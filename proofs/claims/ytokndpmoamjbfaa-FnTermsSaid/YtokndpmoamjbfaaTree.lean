/-
  Trees that a call owns: no two nodes' lists in one block; what else is laid or written leaves them; a node's cell written, a child's tree written. Over whatever program.
-/
import Derived.Test.YtokndpmoamjbfaaTm
namespace Go.Proofs.Ytokndpmoamjbfaa
open Go.RowKit

inductive Own (w : World) (e : TypeId) : (Nat → Prop) → Value → List Tm → Prop
  | nil (S : Nat → Prop) : Own w e S (.slice none 0 0) []
  | row (S : Nat → Prop) (g n cap : Nat) (L : List (Tm × Value)) (C : Nat → Nat → Prop) (l : List Tm) (hl : l = L.map Prod.fst) (hn : n = L.length) (hg : S g)
      (hown : w.ownsRow 0 e 4 (.slice (some ⟨g, 0, none⟩) n cap) n (cellsL L)) (hr : ∀ j p, L[j]? = some p → Own w e (C j) p.2 p.1.args)
      (hC : ∀ j k, j < n → C j k → S k ∧ k ≠ g) (hd : ∀ i j k, i < n → j < n → C i k → C j k → i = j) : Own w e S (.slice (some ⟨g, 0, none⟩) n cap) l

theorem row_hit {w : World} {e : TypeId} {g n cap : Nat} {xs : List Value} (h : w.ownsRow 0 e 4 (.slice (some ⟨g, 0, none⟩) n cap) n xs) : g < w.heap.size := (World.ownsRow.lt h g rfl).2
theorem row_moved {w w' : World} {e : TypeId} {g n cap : Nat} {xs : List Value} (h : w.ownsRow 0 e 4 (.slice (some ⟨g, 0, none⟩) n cap) n xs) (hb : w'.heap[g]? = w.heap[g]?) : w'.ownsRow 0 e 4 (.slice (some ⟨g, 0, none⟩) n cap) n xs := by
  refine ⟨h.1, ?_⟩
  rcases h.2 with hn | ⟨g', cap', cur, he, h1, h2, h3⟩
  · exact .inl hn
  · refine .inr ⟨g', cap', cur, he, h1, ?_, h3⟩
    simp only [Value.slice.injEq, Option.some.injEq, Addr.mk.injEq] at he
    obtain ⟨⟨rfl, _⟩, _⟩ := he
    rw [hb]; exact h2

theorem Own.sub {w : World} {e : TypeId} {S S' : Nat → Prop} {v : Value} {l : List Tm} (h : Own w e S v l) (hS : ∀ k, S k → S' k) : Own w e S' v l := by
  cases h with
  | nil S => exact .nil S'
  | row S g n cap L C l hl hn hg hown hr hC hd => exact .row S' g n cap L C l hl hn (hS g hg) hown hr (fun j k hj hk => ⟨hS k (hC j k hj hk).1, (hC j k hj hk).2⟩) hd

theorem Own.frame {w w' : World} {e : TypeId} {S : Nat → Prop} {v : Value} {l : List Tm} (h : Own w e S v l) (hb : ∀ k, S k → k < w.heap.size → w'.heap[k]? = w.heap[k]?) : Own w' e S v l := by
  induction h with
  | nil S => exact .nil S
  | row S g n cap L C l hl hn hg hown hr hC hd ih =>
    refine .row S g n cap L C l hl hn hg (row_moved hown (hb g hg (row_hit hown))) (fun j p hj => ih j p hj fun k hk hks => hb k (hC j k ?_ hk).1 hks) hC hd
    have := (List.getElem?_eq_some_iff.1 hj).1; omega
theorem Own.kept {w w' : World} {e : TypeId} {S : Nat → Prop} {v : Value} {l : List Tm} (h : Own w e S v l) (hb : Below w.heap.size w w') : Own w' e S v l := h.frame fun k _ hk => hb.block k hk
theorem Own.kept' {w w' : World} {B : Nat} {e : TypeId} {S : Nat → Prop} {v : Value} {l : List Tm} (h : Own w e S v l) (hb : Below B w w') (hS : ∀ k, S k → k < B) : Own w' e S v l := h.frame fun k hk _ => hb.block k (hS k hk)

theorem Own.argsAt {w : World} {e : TypeId} {S : Nat → Prop} {v : Value} {l : List Tm} (h : Own w e S v l) : ArgsAt w v l := by
  induction h with
  | nil S => exact .nil none 0
  | row S g n cap L C l hl hn hg hown hr hC hd ih =>
    subst hl
    refine .row g 0 n cap (fun j => match L[j]? with | some p => p.2 | none => .bool false) _ (by simpa using hn) (row_hit hown) ?_ ?_
    · intro j t hj i v hv
      rw [List.getElem?_map] at hj
      obtain ⟨p, hp, rfl⟩ := Option.map_eq_some_iff.1 hj
      rw [hp] at hv
      have hi4 : i < 4 := by have := (List.getElem?_eq_some_iff.1 hv).1; simpa [cells4] using this
      have hjn : j < n := by have := (List.getElem?_eq_some_iff.1 hp).1; omega
      rw [Nat.zero_add, World.ownsRow.cellAt hown _ (by omega)]
      exact cellsL_at hp hv
    · intro j t hj
      rw [List.getElem?_map] at hj
      obtain ⟨p, hp, rfl⟩ := Option.map_eq_some_iff.1 hj
      rw [hp]
      exact ih j p hp

/-- Only blocks of S are written; new ones may be laid. -/
structure Only (S : Nat → Prop) (w w' : World) : Prop where
  os : w'.os = w.os
  tape : w'.tape = w.tape
  output : w'.output = w.output
  size : w.heap.size ≤ w'.heap.size
  block : ∀ k, k < w.heap.size → ¬ S k → w'.heap[k]? = w.heap[k]?
theorem Only.refl (S : Nat → Prop) (w : World) : Only S w w := ⟨rfl, rfl, rfl, Nat.le_refl _, fun _ _ _ => rfl⟩
theorem Only.trans {S : Nat → Prop} {a b c : World} (h : Only S a b) (k : Only S b c) : Only S a c :=
  ⟨k.os.trans h.os, k.tape.trans h.tape, k.output.trans h.output, Nat.le_trans h.size k.size, fun i hi hS => (k.block i (Nat.lt_of_lt_of_le hi h.size) hS).trans (h.block i hi hS)⟩
theorem Only.sub {S S' : Nat → Prop} {w w' : World} (h : Only S w w') (hS : ∀ k, S k → S' k) : Only S' w w' := ⟨h.os, h.tape, h.output, h.size, fun k hk hn => h.block k hk fun x => hn (hS k x)⟩
theorem Only.of_below {S : Nat → Prop} {w w' : World} (h : Below w.heap.size w w') : Only S w w' := ⟨h.os, h.tape, h.output, h.size, fun k hk _ => h.block k hk⟩
theorem Only.below {S : Nat → Prop} {B : Nat} {w w' : World} (h : Only S w w') (hS : ∀ k, S k → B ≤ k) (hB : B ≤ w.heap.size) : Below B w w' := ⟨h.os, h.tape, h.output, h.size, fun k hk => h.block k (by omega) fun x => by have := hS k x; omega⟩
theorem Only.of_grown {S : Nat → Prop} {g : Nat} {w w' : World} (h : w.grownBy w' (some g)) (hS : S g) : Only S w w' := ⟨h.os, h.tape, h.output, h.size, fun k hk hn => h.block k hk fun x => by cases x; exact hn hS⟩
theorem Own.only {w w' : World} {e : TypeId} {S S' : Nat → Prop} {v : Value} {l : List Tm} (h : Own w e S v l) (hb : Only S' w w') (hS : ∀ k, S k → ¬ S' k) : Own w' e S v l := h.frame fun k hk hks => hb.block k hks (hS k hk)

/-- The parts of a tree that is not empty, at one place: the root's block, the element's cells, the child; how one of the element's first three cells is written; how the child is exchanged. -/
theorem Own.at {w : World} {e : TypeId} {S : Nat → Prop} {v : Value} {l : List Tm} (h : Own w e S v l) {j : Nat} {t : Tm} (hj : l[j]? = some t) :
    ∃ (g cap : Nat) (V : Value) (C : Nat → Prop), v = .slice (some ⟨g, 0, none⟩) l.length cap ∧ S g ∧ (∀ k, C k → S k ∧ k ≠ g) ∧ g < w.heap.size ∧ (∀ i, w.frozen? ⟨g, i, none⟩ = false) ∧
      w.cell? ⟨g, j * 4, none⟩ = some (.int .i64 t.kind) ∧ w.cell? ⟨g, j * 4 + 1, none⟩ = some (.int .i64 t.num) ∧ w.cell? ⟨g, j * 4 + 2, none⟩ = some (.string t.name) ∧ w.cell? ⟨g, j * 4 + 3, none⟩ = some V ∧
      Own w e C V t.args ∧
      (∀ k, w.grownBy (w.setCell ⟨g, j * 4, none⟩ (.int .i64 k)) (some g) ∧ Own (w.setCell ⟨g, j * 4, none⟩ (.int .i64 k)) e S v (l.set j (.mk k t.num t.name t.args))) ∧
      (∀ k, w.grownBy (w.setCell ⟨g, j * 4 + 1, none⟩ (.int .i64 k)) (some g) ∧ Own (w.setCell ⟨g, j * 4 + 1, none⟩ (.int .i64 k)) e S v (l.set j (.mk t.kind k t.name t.args))) ∧
      (∀ s, w.grownBy (w.setCell ⟨g, j * 4 + 2, none⟩ (.string s)) (some g) ∧ Own (w.setCell ⟨g, j * 4 + 2, none⟩ (.string s)) e S v (l.set j (.mk t.kind t.num s t.args))) ∧
      (∀ w' as, Own w' e C V as → Only C w w' → Own w' e S v (l.set j (.mk t.kind t.num t.name as))) ∧
      ∀ u S' as, Own w e S' u as → (∀ k, S' k → ¬ S k) → w.grownBy (w.setCell ⟨g, j * 4 + 3, none⟩ u) (some g) ∧ Own (w.setCell ⟨g, j * 4 + 3, none⟩ u) e (fun k => S k ∨ S' k) v (l.set j (.mk t.kind t.num t.name as)) := by
  cases h with
  | nil S => simp at hj
  | row S g n cap L C l hl hn hg hown hr hC hd =>
    subst hl
    subst hn
    rw [List.getElem?_map] at hj
    obtain ⟨p, hp, rfl⟩ := Option.map_eq_some_iff.1 hj
    have hjn : j < L.length := (List.getElem?_eq_some_iff.1 hp).1
    have cell : ∀ i v, (cells4 p.1 p.2)[i]? = some v → w.cell? ⟨g, j * 4 + i, none⟩ = some v := by
      intro i v hv
      have hi4 : i < 4 := by have := (List.getElem?_eq_some_iff.1 hv).1; simpa [cells4] using this
      rw [World.ownsRow.cellAt hown _ (by omega)]
      exact cellsL_at hp hv
    have hset : ∀ (q : Tm) (i : Nat) (u : Value), i < 4 → q.args = p.1.args → cells4 q p.2 = (cells4 p.1 p.2).set i u →
        w.grownBy (w.setCell ⟨g, j * 4 + i, none⟩ u) (some g) ∧ Own (w.setCell ⟨g, j * 4 + i, none⟩ u) e S (.slice (some ⟨g, 0, none⟩) L.length cap) ((L.map Prod.fst).set j q) := by
      intro q i u hi ha hq
      obtain ⟨h1, h2⟩ := World.ownsRow.stored hown (j * 4 + i) u
      refine ⟨h2, .row S g L.length cap (L.set j (q, p.2)) C _ (by rw [List.map_set]) (by simp) hg ?_ ?_ hC hd⟩
      · rw [cellsL_set hp hi (q := (q, p.2)) hq] at h1
        exact h1
      · intro i' p' hp'
        have hf : Own (w.setCell ⟨g, j * 4 + i, none⟩ u) e (C i') p'.2 p'.1.args := by
          by_cases hij : i' = j
          · subst hij
            rw [List.getElem?_set_self hjn] at hp'
            simp only [Option.some.injEq] at hp'
            subst hp'
            show Own _ e (C i') p.2 q.args
            rw [ha]
            exact (hr i' p hp).frame fun k hk hks => h2.block k hks fun x => (hC i' k hjn hk).2 (by cases x; rfl)
          · rw [List.getElem?_set_ne (fun x => hij x.symm)] at hp'
            have hi' : i' < L.length := (List.getElem?_eq_some_iff.1 hp').1
            exact (hr i' p' hp').frame fun k hk hks => h2.block k hks fun x => (hC i' k hi' hk).2 (by cases x; rfl)
        exact hf
    refine ⟨g, cap, p.2, C j, by rw [List.length_map], hg, fun k hk => hC j k hjn hk, row_hit hown, fun i => World.ownsRow.frozenAt hown i, cell 0 _ rfl, cell 1 _ rfl, cell 2 _ rfl, cell 3 _ rfl, hr j p hp, ?_, ?_, ?_, ?_, ?_⟩
    · intro k
      exact hset (.mk k p.1.num p.1.name p.1.args) 0 (.int .i64 k) (by omega) rfl rfl
    · intro k
      exact hset (.mk p.1.kind k p.1.name p.1.args) 1 (.int .i64 k) (by omega) rfl rfl
    · intro s
      exact hset (.mk p.1.kind p.1.num s p.1.args) 2 (.string s) (by omega) rfl rfl
    · intro w' as ho hb
      have hgh : w'.heap[g]? = w.heap[g]? := hb.block g (row_hit hown) fun x => (hC j g hjn x).2 rfl
      refine .row S g L.length cap (L.set j (.mk p.1.kind p.1.num p.1.name as, p.2)) C _ (by rw [List.map_set]) (by simp) hg ?_ ?_ hC hd
      · have h1 := row_moved hown hgh
        have e1 : cellsL (L.set j (.mk p.1.kind p.1.num p.1.name as, p.2)) = cellsL L := by
          rw [← cellsL_set hp (i := 0) (by omega) (q := (.mk p.1.kind p.1.num p.1.name as, p.2)) (u := .int .i64 p.1.kind) rfl]
          apply List.ext_getElem?
          intro m
          by_cases hm : m = j * 4 + 0
          · subst hm
            rw [List.getElem?_set_self (by rw [cellsL_length]; omega)]
            exact (cellsL_at hp rfl).symm
          · rw [List.getElem?_set_ne (fun x => hm x.symm)]
        rw [e1]; exact h1
      · intro i' p' hp'
        by_cases hij : i' = j
        · subst hij
          rw [List.getElem?_set_self hjn] at hp'
          simp only [Option.some.injEq] at hp'
          subst hp'
          exact ho
        · rw [List.getElem?_set_ne (fun x => hij x.symm)] at hp'
          have hi' : i' < L.length := (List.getElem?_eq_some_iff.1 hp').1
          exact (hr i' p' hp').frame fun k hk hks => hb.block k hks fun x => hij (hd i' j k hi' hjn hk x)
    · intro u S' as hu hdis
      obtain ⟨h1, h2⟩ := World.ownsRow.stored hown (j * 4 + 3) u
      refine ⟨h2, .row _ g L.length cap (L.set j (.mk p.1.kind p.1.num p.1.name as, u)) (fun i k => if i = j then S' k else C i k) _ (by rw [List.map_set]) (by simp) (.inl hg) ?_ ?_ ?_ ?_⟩
      · rw [cellsL_set hp (i := 3) (by omega) (q := (.mk p.1.kind p.1.num p.1.name as, u)) rfl] at h1
        exact h1
      · intro i' p' hp'
        by_cases hij : i' = j
        · subst hij
          rw [List.getElem?_set_self hjn] at hp'
          simp only [Option.some.injEq] at hp'
          subst hp'
          simp only [if_pos]
          exact hu.frame fun k hk hks => h2.block k hks fun x => hdis k hk (by cases x; exact hg)
        · rw [List.getElem?_set_ne (fun x => hij x.symm)] at hp'
          have hi' : i' < L.length := (List.getElem?_eq_some_iff.1 hp').1
          simp only [if_neg hij]
          exact (hr i' p' hp').frame fun k hk hks => h2.block k hks fun x => (hC i' k hi' hk).2 (by cases x; rfl)
      · intro i k hi hk
        by_cases hij : i = j
        · simp only [hij, if_pos] at hk
          exact ⟨.inr hk, fun x => hdis k hk (by subst x; exact hg)⟩
        · simp only [if_neg hij] at hk
          exact ⟨.inl (hC i k hi hk).1, (hC i k hi hk).2⟩
      · intro i i' k hi hi' hk hk'
        by_cases hij : i = j
        · by_cases hij' : i' = j
          · omega
          · simp only [hij, if_pos] at hk
            simp only [if_neg hij'] at hk'
            exact absurd (hC i' k hi' hk').1 (hdis k hk)
        · simp only [if_neg hij] at hk
          by_cases hij' : i' = j
          · simp only [hij', if_pos] at hk'
            exact absurd (hC i k hi hk).1 (hdis k hk')
          · simp only [if_neg hij'] at hk'
            exact hd i i' k hi hi' hk hk'

/-- A whole element put into a tree, its child a tree apart. -/
theorem Own.put {w : World} {e : TypeId} {S S' : Nat → Prop} {g n cap : Nat} {l : List Tm} (h : Own w e S (.slice (some ⟨g, 0, none⟩) n cap) l) {j : Nat} {x t : Tm} (hj : l[j]? = some x) {u : Value} (hu : Own w e S' u t.args) (hd : ∀ k, S' k → ¬ S k) :
    Only S w ((((w.setCell ⟨g, j * 4, none⟩ (.int .i64 t.kind)).setCell ⟨g, j * 4 + 1, none⟩ (.int .i64 t.num)).setCell ⟨g, j * 4 + 2, none⟩ (.string t.name)).setCell ⟨g, j * 4 + 3, none⟩ u) ∧
      Own ((((w.setCell ⟨g, j * 4, none⟩ (.int .i64 t.kind)).setCell ⟨g, j * 4 + 1, none⟩ (.int .i64 t.num)).setCell ⟨g, j * 4 + 2, none⟩ (.string t.name)).setCell ⟨g, j * 4 + 3, none⟩ u) e (fun k => S k ∨ S' k) (.slice (some ⟨g, 0, none⟩) n cap) (l.set j t) := by
  have hjl : j < l.length := (List.getElem?_eq_some_iff.1 hj).1
  obtain ⟨g0, cap0, V0, C0, hv0, hS0, _, _, _, _, _, _, _, _, k0, _, _, _, _⟩ := h.at hj
  simp only [Value.slice.injEq, Option.some.injEq, Addr.mk.injEq] at hv0
  obtain ⟨⟨rfl, _⟩, _, rfl⟩ := hv0
  obtain ⟨g1, o1⟩ := k0 t.kind
  obtain ⟨g', cap', V1, C1, hv1, hS1, _, _, _, _, _, _, _, _, _, k1, _, _, _⟩ := o1.at (t := .mk t.kind x.num x.name x.args) (j := j) (by rw [List.getElem?_set_self hjl])
  simp only [Value.slice.injEq, Option.some.injEq, Addr.mk.injEq] at hv1
  obtain ⟨⟨rfl, _⟩, _, rfl⟩ := hv1
  obtain ⟨g2, o2⟩ := k1 t.num
  rw [List.set_set] at o2
  obtain ⟨g', cap', V2, C2, hv2, hS2, _, _, _, _, _, _, _, _, _, _, k2, _, _⟩ := o2.at (t := .mk t.kind t.num x.name x.args) (j := j) (by rw [List.getElem?_set_self hjl]; rfl)
  simp only [Value.slice.injEq, Option.some.injEq, Addr.mk.injEq] at hv2
  obtain ⟨⟨rfl, _⟩, _, rfl⟩ := hv2
  obtain ⟨g3, o3⟩ := k2 t.name
  rw [List.set_set] at o3
  obtain ⟨g', cap', V3, C3, hv3, hS3, _, _, _, _, _, _, _, _, _, _, _, _, k3⟩ := o3.at (t := .mk t.kind t.num t.name x.args) (j := j) (by rw [List.getElem?_set_self hjl]; rfl)
  simp only [Value.slice.injEq, Option.some.injEq, Addr.mk.injEq] at hv3
  obtain ⟨⟨rfl, _⟩, _, rfl⟩ := hv3
  have hu1 := hu.frame (w' := w.setCell ⟨g, j * 4, none⟩ (.int .i64 t.kind)) fun k hk hks => g1.block k hks fun x => hd k hk (by cases x; exact hS0)
  have hu2 := hu1.frame (w' := (w.setCell ⟨g, j * 4, none⟩ (.int .i64 t.kind)).setCell ⟨g, j * 4 + 1, none⟩ (.int .i64 t.num)) fun k hk hks => g2.block k hks fun x => hd k hk (by cases x; exact hS0)
  have hu3 := hu2.frame (w' := ((w.setCell ⟨g, j * 4, none⟩ (.int .i64 t.kind)).setCell ⟨g, j * 4 + 1, none⟩ (.int .i64 t.num)).setCell ⟨g, j * 4 + 2, none⟩ (.string t.name)) fun k hk hks => g3.block k hks fun x => hd k hk (by cases x; exact hS0)
  obtain ⟨g4, o4⟩ := k3 u S' t.args hu3 hd
  refine ⟨(((Only.of_grown g1 hS0).trans (Only.of_grown g2 hS0)).trans (Only.of_grown g3 hS0)).trans (Only.of_grown g4 hS0), ?_⟩
  rw [List.set_set] at o4
  have o5 : Own ((((w.setCell ⟨g, j * 4, none⟩ (.int .i64 t.kind)).setCell ⟨g, j * 4 + 1, none⟩ (.int .i64 t.num)).setCell ⟨g, j * 4 + 2, none⟩ (.string t.name)).setCell ⟨g, j * 4 + 3, none⟩ u) e (fun k => S k ∨ S' k) (.slice (some ⟨g, 0, none⟩) n cap) (l.set j (.mk t.kind t.num t.name t.args)) := o4
  rw [t.eta] at o5
  exact o5
end Go.Proofs.Ytokndpmoamjbfaa

