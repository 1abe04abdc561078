/-
  slices.SortFunc over a row of bindings that the call owns, by the program's comparison.
-/
import Derived.Test.YtoihimdfmncdoaaRows3
import Derived.Test.YtoihimdfmncdoaaSortShelf
import Derived.Shelf.SlSortCmp.NoneTotal
namespace Go.Proofs.Ytoihimdfmncdoaa
open Go.RowKit
open Go.Sort (HoldsK putRowK grow flatK get_flatK size_flatK SWO PermIn SortedIn mapBlock putCells onCells)
set_option linter.unusedVariables false
set_option linter.unusedSimpArgs false

abbrev EntB := Bd × (Option Addr × Nat × Nat)
instance : Inhabited EntB := ⟨(zeroBd, none, 0, 0)⟩
def pairB (a : EntB) : Bd × Value := (a.1, .slice a.2.1 a.2.2.1 a.2.2.2)
def encB (a : EntB) : List Value := [.int .i64 a.1.v, .int .i64 a.1.t.kind, .int .i64 a.1.t.num, .string a.1.t.name, .slice a.2.1 a.2.2.1 a.2.2.2]
theorem encB_cells (a : EntB) : encB a = bdE.cells (pairB a).1 (pairB a).2 := rfl
theorem flat_cells (d : Array EntB) : (flatK encB 5 d).toList = cellsE bdE (d.toList.map pairB) := by
  apply List.ext_getElem?
  intro i
  by_cases hi : i < d.size * 5
  · have hq : i / 5 < d.size := by omega
    have hp : (d.toList.map pairB)[i / 5]? = some (pairB d[i / 5]) := by simp [hq]
    obtain ⟨v, hv⟩ : ∃ v, (encB d[i / 5])[i % 5]? = some v := ⟨_, List.getElem?_eq_getElem (show i % 5 < (encB d[i / 5]).length by show i % 5 < 5; omega)⟩
    have h1 := cellsE_at (E := bdE) hp (by rw [← encB_cells]; exact hv)
    rw [show i / 5 * bdE.n + i % 5 = i from by show i / 5 * 5 + i % 5 = i; omega] at h1
    rw [h1, Array.getElem?_toList]
    have h2 := get_flatK encB 5 d i hi
    have hs : i < (flatK encB 5 d).size := by rw [size_flatK]; exact hi
    rw [Array.getElem?_eq_getElem hs]
    rw [getElem!_pos _ i hs] at h2
    rw [h2, getElem!_pos d (i / 5) hq]
    have h3 := (List.getElem?_eq_some_iff.1 hv)
    rw [getElem!_pos _ (i % 5) h3.1, h3.2]
  · rw [List.getElem?_eq_none (by simp [size_flatK]; omega), List.getElem?_eq_none (by rw [cellsE_length]; show (d.toList.map pairB).length * 5 ≤ i; simp; omega)]
def cfB (x y : EntB) : Int := cmpI x.1.v y.1.v
theorem ltB (x y : EntB) : ltOf cfB x y = decide (x.1.v < y.1.v) := by
  unfold ltOf cfB cmpI
  by_cases h1 : x.1.v < y.1.v
  · simp [h1]
  · by_cases h2 : y.1.v < x.1.v <;> simp [h1, h2]
theorem swoB : SWO (ltOf cfB) where
  irrefl x := by rw [ltB]; simp
  trans x y z h1 h2 := by rw [ltB] at *; simp at *; omega
  ntrans x y z h1 h2 := by rw [ltB] at *; simp at *; omega

set_option maxHeartbeats 1000000 in
theorem closureB_any (x y : EntB) (W : World) : Calls Try.prog 104 (#[.agg (encB x).toArray, .agg (encB y).toArray] ++ #[]) W fun e w' => e = .returned (.int .i64 (cfB x y)) ∧ ∃ q os', w' = grow (W.drewN q) os' := by
  show Calls Try.prog 104 #[.agg #[.int .i64 x.1.v, .int .i64 x.1.t.kind, .int .i64 x.1.t.num, .string x.1.t.name, .slice x.2.1 x.2.2.1 x.2.2.2], .agg #[.int .i64 y.1.v, .int .i64 y.1.t.kind, .int .i64 y.1.t.num, .string y.1.t.name, .slice y.2.1 y.2.2.1 y.2.2.2]] W _
  have hcon := fun W' => cmpInt_any x.1.v y.1.v W'
  show Calls _ _ _ _ fun e w' => e = .returned (.int .i64 (cmpI x.1.v y.1.v)) ∧ _
  generalize cmpI x.1.v y.1.v = r at hcon ⊢
  go_enter Try.func104, Try.ntmps104
  go_wp2_with (go_at_call 114; refine (hcon _).mono ?_; rintro e w' ⟨rfl, rfl⟩)
  go_ret
  exact ⟨rfl, 0, _, by rw [Go.Sort.alloc_eq_grow, Go.Sort.alloc_eq_grow, Go.Sort.grow_grow]; rfl⟩

theorem perm_lift {α β : Type} (f : α → β) : ∀ {l' : List β} {m : List β}, l'.Perm m → ∀ l : List α, m = l.map f → ∃ k : List α, k.Perm l ∧ k.map f = l' := by
  intro l' m h
  induction h with
  | nil => intro l hl; exact ⟨[], by rw [List.map_eq_nil_iff.1 hl.symm], rfl⟩
  | cons x h ih =>
    intro l hl
    cases l with
    | nil => simp at hl
    | cons a l =>
      simp only [List.map_cons, List.cons.injEq] at hl
      obtain ⟨k, hk, hkm⟩ := ih l hl.2
      exact ⟨a :: k, hk.cons a, by rw [List.map_cons, hkm, hl.1]⟩
  | swap x y t =>
    intro l hl
    match l, hl with
    | a :: b :: l, hl =>
      simp only [List.map_cons, List.cons.injEq] at hl
      exact ⟨b :: a :: l, List.Perm.swap a b l, by rw [List.map_cons, List.map_cons, hl.1, hl.2.1, hl.2.2]⟩
  | trans h1 h2 ih1 ih2 =>
    intro l hl
    obtain ⟨k2, hk2, hm2⟩ := ih2 l hl
    obtain ⟨k1, hk1, hm1⟩ := ih1 k2 hm2.symm
    exact ⟨k1, hk1.trans hk2, hm1⟩
/-- The order of an owned list's elements changed. -/
theorem listO_perm {α : Type} {E : El α} {e : TypeId} {w w' : World} {S : Nat → Prop} {g n cap : Nat} {L L' : List (α × Value)} {C : Nat → Nat → Prop} (hn : n = L.length) (hp : L'.Perm L) (hg : S g)
    (hr : ∀ (j : Nat) (p : α × Value), L[j]? = some p → E.own w (C j) p.2 p.1) (hC : ∀ j k, j < n → C j k → S k ∧ k ≠ g) (hd : ∀ i j k, i < n → j < n → C i k → C j k → i = j)
    (hown : w'.ownsRow 0 e E.n (.slice (some ⟨g, 0, none⟩) n cap) n (cellsE E L')) (hb : ∀ k, k < w.heap.size → k ≠ g → w'.heap[k]? = w.heap[k]?) : ListO E e w' S (.slice (some ⟨g, 0, none⟩) n cap) (L'.map Prod.fst) := by
  subst hn
  obtain ⟨T, hT, hTf⟩ : ∃ T : List ((α × Value) × (Nat → Prop)), T.map Prod.fst = L ∧ ∀ (j : Nat) q, T[j]? = some q → q.2 = C j ∧ L[j]? = some q.1 := by
    refine ⟨(List.range L.length).filterMap fun j => (L[j]?).map fun p => (p, C j), ?_, ?_⟩
    · have h2 : ∀ m, ((List.range m).filterMap fun j => (L[j]?).map fun p => (p, C j)).map Prod.fst = L.take m := by
        intro m
        induction m with
        | zero => simp
        | succ m ih =>
          rw [List.range_succ, List.filterMap_append, List.map_append, ih, List.take_add_one]
          cases h : L[m]? with
          | none => simp [h]
          | some x => simp [h]
      rw [h2, List.take_length]
    · have h3 : ∀ m, m ≤ L.length → ((List.range m).filterMap fun j => (L[j]?).map fun p => (p, C j)).length = m ∧ ∀ (j : Nat) q, ((List.range m).filterMap fun j => (L[j]?).map fun p => (p, C j))[j]? = some q → q.2 = C j ∧ L[j]? = some q.1 := by
        intro m
        induction m with
        | zero => intro _; exact ⟨rfl, fun j q h => by simp at h⟩
        | succ m ih =>
          intro hm
          obtain ⟨i1, i2⟩ := ih (by omega)
          obtain ⟨x, hx⟩ : ∃ x, L[m]? = some x := ⟨_, List.getElem?_eq_getElem (by omega)⟩
          rw [List.range_succ, List.filterMap_append]
          have e1 : ([m].filterMap fun j => (L[j]?).map fun p => (p, C j)) = [(x, C m)] := by simp [hx]
          rw [e1]
          refine ⟨by rw [List.length_append, i1]; rfl, fun j q hq => ?_⟩
          by_cases hj : j < m
          · rw [List.getElem?_append_left (by rw [i1]; exact hj)] at hq
            exact i2 j q hq
          · rw [List.getElem?_append_right (by rw [i1]; omega), i1] at hq
            have hjm : j = m := by
              have := (List.getElem?_eq_some_iff.1 hq).1
              simp at this
              omega
            subst hjm
            rw [Nat.sub_self] at hq
            simp at hq
            subst hq
            exact ⟨rfl, hx⟩
      exact (h3 L.length (Nat.le_refl _)).2
  obtain ⟨T', hpT, hT'⟩ := perm_lift Prod.fst hp T hT.symm
  have lT : T.length = L.length := by rw [← hT, List.length_map]
  have lT' : T'.length = L.length := by rw [hpT.length_eq, lT]
  have lL' : L'.length = L.length := hp.length_eq
  have all : ∀ q ∈ T, E.own w q.2 q.1.2 q.1.1 ∧ ∀ k, q.2 k → S k ∧ k ≠ g := by
    intro q hq
    obtain ⟨j, hj⟩ := List.getElem?_of_mem hq
    obtain ⟨h1, h2⟩ := hTf j q hj
    have hjl : j < L.length := (List.getElem?_eq_some_iff.1 h2).1
    exact ⟨h1 ▸ hr j q.1 h2, fun k hk => hC j k hjl (h1 ▸ hk)⟩
  have dis : T.Pairwise fun a b => ∀ k, a.2 k → ¬ b.2 k := by
    rw [List.pairwise_iff_getElem]
    intro i j hi hj hij k h1 h2
    obtain ⟨e1, _⟩ := hTf i T[i] (List.getElem?_eq_getElem hi)
    obtain ⟨e2, _⟩ := hTf j T[j] (List.getElem?_eq_getElem hj)
    have := hd i j k (by omega) (by omega) (e1 ▸ h1) (e2 ▸ h2)
    omega
  have dis' : T'.Pairwise fun a b => ∀ k, a.2 k → ¬ b.2 k := (hpT.pairwise_iff (fun {a b} h k h1 h2 => h k h2 h1)).2 dis
  have hidx := List.pairwise_iff_getElem.1 dis'
  refine .row g L.length cap L' (fun j k => ∃ q, T'[j]? = some q ∧ q.2 k) _ rfl lL'.symm hg hown ?_ ?_ ?_
  · intro j p hj
    have hjl := (List.getElem?_eq_some_iff.1 hj).1
    obtain ⟨q, hq⟩ : ∃ q, T'[j]? = some q := ⟨_, List.getElem?_eq_getElem (by omega)⟩
    have hqp : q.1 = p := by
      rw [← hT', List.getElem?_map, hq] at hj
      simpa using hj
    obtain ⟨o1, o2⟩ := all q (hpT.mem_iff.1 (List.mem_of_getElem? hq))
    rw [hqp] at o1
    refine E.ownSub (E.ownFrame o1 fun k hk hks => hb k hks (o2 k hk).2) fun k hk => ⟨q, hq, hk⟩
  · rintro j k hj ⟨q, hq, hk⟩
    exact (all q (hpT.mem_iff.1 (List.mem_of_getElem? hq))).2 k hk
  · rintro i j k hi hj ⟨q, hq, hk⟩ ⟨q', hq', hk'⟩
    obtain ⟨a1, a2⟩ := List.getElem?_eq_some_iff.1 hq
    obtain ⟨b1, b2⟩ := List.getElem?_eq_some_iff.1 hq'
    rcases Nat.lt_trichotomy i j with h | h | h
    · exact absurd (b2.symm ▸ hk') (hidx i j a1 b1 h k (a2.symm ▸ hk))
    · exact h
    · exact absurd (a2.symm ▸ hk) (hidx j i b1 a1 h k (b2.symm ▸ hk'))

theorem heap_put {w : World} {g n : Nat} {os : Array Obj} {cur : Array Value} {e : TypeId} {fr : Nat × Nat} (d : Array Value) (hb : w.heap[g]? = some (.cells cur e fr)) : (grow (Go.Sort.putRow id (Go.Sort.ahead w n) g 0 d) os).heap[g]? = some (.cells (putCells id 0 d cur) e fr) := by
  have hg := (Array.getElem?_eq_some_iff.1 hb).1
  rw [Go.Sort.heap_grow_old _ _ (by simpa [Go.Sort.putRow, mapBlock, Go.Sort.ahead] using hg)]
  simp [Go.Sort.putRow, mapBlock, Go.Sort.ahead, Array.getElem?_modify, hb, onCells]
theorem only_put {w : World} {g n : Nat} {os : Array Obj} (d : Array Value) : Only (fun k => k = g) w (grow (Go.Sort.putRow id (Go.Sort.ahead w n) g 0 d) os) := by
  refine ⟨rfl, rfl, rfl, by simp [Go.Sort.putRow, mapBlock, Go.Sort.ahead], fun k hk hne => ?_⟩
  rw [Go.Sort.heap_grow_old _ _ (by simpa [Go.Sort.putRow, mapBlock, Go.Sort.ahead] using hk)]
  have : g ≠ k := fun e => hne e.symm
  simp [Go.Sort.putRow, mapBlock, Go.Sort.ahead, Array.getElem?_modify, this]
theorem take_put (cur : Array Value) (D : Array Value) (h : D.size ≤ cur.size) : (putCells id 0 D cur).toList.take D.size = D.toList := by
  apply List.ext_getElem?
  intro j
  by_cases hj : j < D.size
  · rw [List.getElem?_take_of_lt hj, Array.getElem?_toList]
    simp [putCells, hj, show j < cur.size by omega]
  · rw [List.getElem?_take_eq_none (by omega), List.getElem?_eq_none (by simp; omega)]
theorem holds_row {w : World} {g : Nat} {cur : Array Value} {e : TypeId} {D : Array Value} (hb : w.heap[g]? = some (.cells cur e (0, 0))) (ht : cur.toList.take D.size = D.toList) : Go.Sort.Holds id w g 0 D := by
  intro j hj
  refine ⟨?_, by simp [World.frozen?, hb]⟩
  have h1 : (cur.toList.take D.size)[j]? = D.toList[j]? := by rw [ht]
  rw [List.getElem?_take_of_lt hj] at h1
  simp only [World.cell?, hb, Nat.zero_add]
  simp only [Option.isSome_none, Bool.false_eq_true, if_false]
  rw [← Array.getElem?_toList, h1, Array.getElem?_toList, Array.getElem?_eq_getElem hj, getElem!_pos _ j hj]
  rfl
/-- The answer: the row's elements in ascending order. -/
def SortedP (l : List Bd) (S : Nat → Prop) (v : Value) (w : World) (e : Ending) (w' : World) : Prop :=
  e = .returned (.tuple #[]) ∧ ∃ m, m.Perm l ∧ m.Pairwise (fun a b => ¬ b.v < a.v) ∧ ListO bdE 118 w' S v m ∧ Only S w w'

theorem sortB_any (l : List Bd) (S : Nat → Prop) (v : Value) (w : World) (h : ListO bdE 118 w S v l) (hl : l.length ≤ 4194304) :
    Calls Try.prog 103 #[v, .func (.func 104) #[] #[]] w (SortedP l S v w) := by
  have eg : ∀ args w, (callFunc 104 args).run Try.prog w = .ok (.enter 104 args) w := enters_of Try.func104 (by kernel_rfl) rfl
  cases h with
  | nil =>
    have hcon := AnyF.slices_SortFunc_none Try.sortBd none 0 (.func (.func 104) #[] #[]) w
    exact Calls.mono hcon fun e w' hh => ⟨hh.1, [], List.Perm.refl _, List.Pairwise.nil, by rw [hh.2]; exact .nil, by rw [hh.2]; exact Only.refl _ _⟩
  | row g n cap L C l hl1 hn hg hown hr hC hd =>
    subst hl1
    subst hn
    obtain ⟨d, hd1⟩ : ∃ d : Array EntB, d.toList.map pairB = L := by
      have each : ∀ M : List (Bd × Value), (∀ p ∈ M, ∃ a, pairB a = p) → ∃ D : List EntB, D.map pairB = M := by
        intro M
        induction M with
        | nil => exact fun _ => ⟨[], rfl⟩
        | cons p M ih =>
          intro hM
          obtain ⟨D, hD⟩ := ih fun q hq => hM q (by simp [hq])
          obtain ⟨a, ha⟩ := hM p (by simp)
          exact ⟨a :: D, by rw [List.map_cons, hD, ha]⟩
      obtain ⟨D, hD⟩ := each L fun p hp => by
        obtain ⟨j, hj⟩ := List.getElem?_of_mem hp
        obtain ⟨a, c, ha⟩ := (show Own w 25 (C j) p.2 p.1.t.args from hr j p hj).argsAt.slice
        exact ⟨(p.1, a, p.1.t.args.length, c), by unfold pairB; rw [← ha]⟩
      exact ⟨D.toArray, by simpa using hD⟩
    have hdl : d.size = L.length := by rw [← hd1]; simp
    obtain ⟨cur, fr0, hb, hcap1, hcap2, hcs, htk⟩ : ∃ cur : Array Value, ∃ _ : True, w.heap[g]? = some (.cells cur 118 (0, 0)) ∧ L.length ≤ cap ∧ cap ≤ maxLen ∧ cur.size = cap * 5 ∧ cur.toList.take (L.length * 5) = cellsE bdE L := by
      rcases hown.2 with ⟨h1, _⟩ | ⟨g', cap', cur, he, h1, h2, h3, h4, h5, h6⟩
      · cases h1
      · simp only [Value.slice.injEq, Option.some.injEq, Addr.mk.injEq] at he
        obtain ⟨⟨rfl, _⟩, _, rfl⟩ := he
        exact ⟨cur, trivial, h2, h3, h4, h5, h6⟩
    have hgl : g < w.heap.size := (Array.getElem?_eq_some_iff.1 hb).1
    have hfl : (flatK encB 5 d).size = L.length * 5 := by rw [size_flatK, hdl]
    have hH : HoldsK encB 5 w g 0 d := holds_row hb (by rw [hfl, htk, flat_cells, hd1])
    have hsz : L.length ≤ 4194304 := by rw [List.length_map] at hl; exact hl
    have hcon := AnyQ.slices_SortFunc Try.sortBd 5 Try.isAgg118 Try.sizeOf118 encB (fun _ => rfl) (fun x v hv => by simp [encB] at hv; rcases hv with rfl | rfl | rfl | rfl | rfl <;> rfl) cfB swoB 104 #[] g 0 cap d w eg (fun _ _ _ _ x y => closureB_any x y _) hH hgl (by omega)
    rw [hdl] at hcon
    refine Calls.mono (P := Try.prog) (show Calls Try.prog 103 _ _ _ from hcon) ?_
    rintro e w' ⟨rfl, d', nn, os, hp, hs, rfl⟩
    obtain ⟨hp1, _, hp2⟩ := hp
    have hd's : d'.size = L.length := by rw [hp1, hdl]
    have hpl : d'.toList.Perm d.toList := by
      have e1 : d'.extract 0 L.length = d' := by rw [← hd's]; simp
      have e2 : d.extract 0 L.length = d := by rw [← hdl]; simp
      rw [e1, e2] at hp2
      exact hp2
    have hLp : (d'.toList.map pairB).Perm L := by rw [← hd1]; exact hpl.map pairB
    have hfl' : (flatK encB 5 d').size = L.length * 5 := by rw [size_flatK, hd's]
    refine ⟨rfl, (d'.toList.map pairB).map Prod.fst, hLp.map _, ?_, ?_, (only_put _).sub fun k hk => by subst hk; exact hg⟩
    · rw [List.pairwise_map, List.pairwise_map, List.pairwise_iff_getElem]
      intro i j hi hj hij
      have hi' : i < d'.size := by simpa using hi
      have hj' : j < d'.size := by simpa using hj
      have h1 := hs i j (Nat.zero_le _) hij (by omega)
      rw [ltB, getElem!_pos d' i hi', getElem!_pos d' j hj'] at h1
      simpa [pairB] using h1
    · refine listO_perm (n := L.length) rfl hLp hg hr hC hd ?_ fun k hk hne => (only_put _).block k hk hne
      refine ⟨?_, .inr ⟨g, cap, _, rfl, Nat.zero_le _, heap_put _ hb, hcap1, hcap2, by simp [putCells, hcs]; rfl, ?_⟩⟩
      · rw [cellsE_length, List.length_map, Array.length_toList, hd's]
      · have h1 := take_put cur (flatK encB 5 d') (by rw [hfl', hcs]; exact Nat.mul_le_mul_right _ hcap1)
        rw [hfl', flat_cells] at h1
        exact h1
end Go.Proofs.Ytoihimdfmncdoaa

