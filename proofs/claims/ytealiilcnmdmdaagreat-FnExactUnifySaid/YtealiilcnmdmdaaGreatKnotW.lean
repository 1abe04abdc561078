/-
  The program's solver in memory: maps from variables to knots; knots, closures on the stack, the solver's own block; what a step leaves as it was.
-/
import Derived.Test.YtealiilcnmdmdaaGreatKnotM
import Derived.Test.YtealiilcnmdmdaaGreatMapSubst
import Derived.Deep.LoopGhost
namespace Go.Proofs.YtealiilcnmdmdaaGreat
open Go.RowKit
open Go.Maps (Keyed)
set_option linter.unusedVariables false
set_option linter.unusedSimpArgs false

abbrev ptrN (b : Nat) : Value := .pointer (some ⟨b, 0, none⟩)
def ptrO : Option Nat → Value
  | none => .pointer none
  | some b => ptrN b
theorem ptrO_inj {a b : Option Nat} (h : ptrO a = ptrO b) : a = b := by
  cases a <;> cases b <;> simp [ptrO] at h ⊢
  exact h
open Classical in
noncomputable def elemK (v : Value) : Option (DataW Value × List MemPlace) := if ∃ o, v = ptrO o then some (.held v, []) else none
theorem elemK_mk (o : Option Nat) : elemK (ptrO o) = some (.held (ptrO o), []) := by rw [elemK, if_pos ⟨o, rfl⟩]
theorem elemK_inv {v : Value} {y : DataW Value × List MemPlace} (h : elemK v = some y) : ∃ o, v = ptrO o ∧ y = (.held v, []) := by
  unfold elemK at h
  split at h
  · rename_i hc
    obtain ⟨c, hc⟩ := hc
    cases h
    exact ⟨c, hc, rfl⟩
  · cases h
theorem zeroKnot (w : World) : (zeroValue 90).run Tryz.prog w = .ok (ptrO none) w := by kernel_rfl
/-- What a map holds, by the number of the variable: a knot. -/
abbrev EntK := Int → Option Nat
def FitsK (D : DataW Value) (f : EntK) : Prop := ∀ v, (f v = none → Maps.has D (.int .i64 v) = false) ∧ (∀ p, f v = some p → ∀ zd, D.atKey (.int .i64 v) zd = .held (ptrO (some p)))
def MapK (w : World) (b n : Nat) (f : EntK) : Prop := ∃ D : DataW Value, w.ownsMap Tryz.prog 3 elemK b n D ∧ FitsK D f
theorem FitsK.has {D : DataW Value} {f : EntK} (h : FitsK D f) (v : Int) : Maps.has D (.int .i64 v) = (f v).isSome := by
  cases hf : f v with
  | none => rw [(h v).1 hf]; rfl
  | some p => rw [Maps.has_true_of_atKey ((h v).2 p hf)]; rfl
theorem MapK.frame {w w' : World} {b n : Nat} {f : EntK} (h : MapK w b n f) (hb : w'.heap[b]? = w.heap[b]?) : MapK w' b n f := by
  obtain ⟨D, ⟨es, clock, h1, h2⟩, h3⟩ := h
  exact ⟨D, ⟨es, clock, hb.trans h1, h2⟩, h3⟩
theorem MapK.block {w : World} {b n : Nat} {f : EntK} (h : MapK w b n f) : ∃ es clock, w.heap[b]? = some (.map es clock) := by
  obtain ⟨D, ⟨es, clock, h1, h2⟩, h3⟩ := h
  exact ⟨es, clock, h1⟩
theorem MapK.lt {w : World} {b n : Nat} {f : EntK} (h : MapK w b n f) : b < w.heap.size := by obtain ⟨D, h1, _⟩ := h; exact h1.lt
theorem MapK.kept {w w' : World} {b n : Nat} {f : EntK} (h : MapK w b n f) (hb : Below w.heap.size w w') : MapK w' b n f := h.frame (hb.block b h.lt)
theorem mapK_made (w : World) : MapK (w.alloc (.map #[] 0)) w.heap.size 0 (fun _ => none) :=
  ⟨.map [], World.ownsMap_made w _ _ _, fun v => ⟨fun _ => rfl, fun p h => by cases h⟩⟩
def updK (f : EntK) (v : Int) (p : Nat) : EntK := fun x => if x = v then some p else f x
theorem updK_self (f : EntK) (v : Int) (p : Nat) : updK f v p v = some p := if_pos rfl
theorem updK_ne (f : EntK) {v x : Int} (p : Nat) (h : ¬ x = v) : updK f v p x = f x := if_neg h
theorem FitsK.put {D : DataW Value} {f : EntK} (h : FitsK D f) (hm : Maps.IsMap D) (v : Int) (p : Nat) : FitsK (D.put (.int .i64 v) (.held (ptrO (some p)))) (updK f v p) := by
  intro x
  by_cases e : x = v
  · subst e
    rw [updK_self]
    refine ⟨(fun h => by cases h), fun q hq zd => ?_⟩
    cases hq
    exact Maps.atKey_put_same hm (litInt x) _ _
  · rw [updK_ne f p e]
    refine ⟨fun hx => ?_, fun q hq zd => ?_⟩
    · rw [Maps.has_put_other (litInt_ne e)]; exact (h x).1 hx
    · rw [Maps.atKey_put_other (litInt_ne e)]; exact (h x).2 q hq zd
/-- 'x, ok := m[v]'. -/
theorem MapK.look {w : World} {b n : Nat} {f : EntK} (h : MapK w b n f) {v : Int} (hv : wfI v) :
    (Instr.lookup 85 (.map (some b)) (.int .i64 v) true).run Tryz.prog w = .ok (match f v with | none => .tuple #[.pointer none, .bool false] | some p => .tuple #[ptrN p, .bool true]) w := by
  obtain ⟨D, hown, hf⟩ := h
  obtain ⟨u, ps, hrun, hu⟩ := hown.look_ok keyedInt Tryz.underlying85 (zeroKnot w) (elemK_mk _) (keyInt hv)
  obtain ⟨c, rfl, hy⟩ := elemK_inv hu
  simp only [Prod.mk.injEq] at hy
  rw [hrun]
  cases hfv : f v with
  | none =>
    have h1 := (hf v).1 hfv
    rw [h1]
    have h2 := hy.1
    rw [Maps.atKey_of_not_has h1] at h2
    simp only [DataW.held.injEq] at h2
    rw [← h2]
    rfl
  | some p =>
    have h1 := (hf v).2 p hfv
    rw [Maps.has_true_of_atKey h1]
    have h2 := hy.1
    rw [h1] at h2
    simp only [DataW.held.injEq] at h2
    rw [← h2]
    rfl
theorem MapK.look_no {w : World} {b n : Nat} {f : EntK} (h : MapK w b n f) {v : Int} (hv : wfI v) (hf : f v = none) :
    (Instr.lookup 85 (.map (some b)) (.int .i64 v) true).run Tryz.prog w = .ok (.tuple #[.pointer none, .bool false]) w := by rw [h.look hv, hf]
theorem MapK.look_yes {w : World} {b n : Nat} {f : EntK} (h : MapK w b n f) {v : Int} (hv : wfI v) {p : Nat} (hf : f v = some p) :
    (Instr.lookup 85 (.map (some b)) (.int .i64 v) true).run Tryz.prog w = .ok (.tuple #[ptrN p, .bool true]) w := by rw [h.look hv, hf]

section
variable (w : World) {ops : Array Oper} {rest : List Oper} {o : Oper} {a : Act} {Q : Exit → Act → World → Prop}
/-- 'm[v] = k'. -/
theorem wpList_putK (hg : o.guard = none) (m x v : Operand) (hop : o.op = Op.mapUpdate 85 m x v) (b n : Nat) (f : EntK) (hm : a.eval m = .map (some b)) (h : MapK w b n f) (hn : n < maxLen) (k : Int) (hx : a.eval x = .int .i64 k) (hk : wfI k)
    (p : Nat) (hv : a.eval v = .pointer (some ⟨p, 0, none⟩)) (hK : ∀ w', MapK w' b (n + 1) (updK f k p) → w.grownBy w' (some b) → wpList Tryz.prog ops Q rest (a.put o.dst undef) w') : wpList Tryz.prog ops Q (o :: rest) a w := by
  obtain ⟨D, hown, hf⟩ := h
  exact wpList_mapUpdate_in w hg m x v _ hop _ _ keyedInt Tryz.underlying85 elemK b n D hm hown hn _ _ _ hx hv (keyInt hk) _ [] (elemK_mk (some p)) fun w' h1 h2 => hK w' ⟨_, h1, hf.put hown.isMap k p⟩ h2.grown
end
/-- A map ranged over: what it holds; which of its keys are still to come, how many. -/
def RanK (w : World) (b r n : Nat) (f : EntK) (left : Int → Bool) (cnt : Nat) : Prop := ∃ (D : DataW Value) (lf : Lit → Bool), w.ranges Tryz.prog 3 elemK b r n D lf cnt ∧ FitsK D f ∧ ∀ v, lf (.int .i64 v) = left v
theorem RanK.frame {w w' : World} {b r n cnt : Nat} {f : EntK} {left : Int → Bool} (h : RanK w b r n f left cnt) (hb : w'.heap[b]? = w.heap[b]?) (hr : w'.heap[r]? = w.heap[r]?) : RanK w' b r n f left cnt := by
  obtain ⟨D, lf, ⟨es, clock, since, seen, c0, h1, h2, h3, h4, h5, h6⟩, hf, hl⟩ := h
  exact ⟨D, lf, ⟨es, clock, since, seen, c0, hb.trans h1, h2, h3, h4, hr.trans h5, h6⟩, hf, hl⟩
theorem RanK.lt {w : World} {b r n cnt : Nat} {f : EntK} {left : Int → Bool} (h : RanK w b r n f left cnt) : b < w.heap.size ∧ r < w.heap.size ∧ r ≠ b := by
  obtain ⟨D, lf, h1, _⟩ := h
  exact ⟨h1.owns.lt, h1.lt, h1.ne⟩
theorem RanK.left_eq {w : World} {b r n cnt : Nat} {f : EntK} {left : Int → Bool} (h : RanK w b r n f left cnt) : w.rangeLeft b r = cnt := by
  obtain ⟨D, lf, h1, _⟩ := h
  exact h1.left_eq
theorem RanK.kept {w w' : World} {b r n cnt : Nat} {f : EntK} {left : Int → Bool} (h : RanK w b r n f left cnt) (hb : Below w.heap.size w w') : RanK w' b r n f left cnt := h.frame (hb.block b h.lt.1) (hb.block r h.lt.2.1)
section
variable (w : World) {ops : Array Oper} {rest : List Oper} {o : Oper} {a : Act} {Q : Exit → Act → World → Prop}
theorem wpList_rangeK (hg : o.guard = none) (m : Operand) (hop : o.op = Op.range 85 m) (b n : Nat) (f : EntK) (hm : a.eval m = .map (some b)) (h : MapK w b n f)
    (hK : ∀ w' cnt, cnt ≤ n → RanK w' b w.heap.size n f (fun v => (f v).isSome) cnt → Below w.heap.size w w' → w'.heap.size = w.heap.size + 1 → wpList Tryz.prog ops Q rest (a.put o.dst (.pointer (some ⟨w.heap.size, 0, none⟩))) w') : wpList Tryz.prog ops Q (o :: rest) a w := by
  obtain ⟨D, hown, hf⟩ := h
  exact wpList_range_own w hg m _ hop _ _ keyedInt Tryz.underlying85 elemK b n D hm hown fun w' h1 h2 h3 => hK w' _ hown.size_le ⟨D, _, h1, hf, fun v => hf.has v⟩ ⟨h2.os, h2.tape, h2.output, h2.size, fun i hi => h2.block i hi (by simp)⟩ h3
theorem wpList_nextK (hg : o.guard = none) (it : Operand) (hop : o.op = Op.next it false) (b r n cnt : Nat) (f : EntK) (left : Int → Bool) (hit : a.eval it = .pointer (some ⟨r, 0, none⟩)) (h : RanK w b r n f left cnt)
    (hDone : cnt = 0 → (∀ v, left v = false) → wpList Tryz.prog ops Q rest (a.put o.dst (.tuple #[.bool false])) w)
    (hMore : ∀ (v : Int) (p : Nat) (w' : World) (cnt' : Nat), wfI v → left v = true → f v = some p → RanK w' b r n f (fun x => left x && !decide (x = v)) cnt' → cnt' < cnt → w.grownBy w' (some r) → w'.heap.size = w.heap.size →
      (Instr.entry (.pointer (some ⟨r, 0, none⟩))).run Tryz.prog w' = .ok (.tuple #[.int .i64 v, .pointer (some ⟨p, 0, none⟩)]) w' →
      wpList Tryz.prog ops Q rest (a.put o.dst (.tuple #[.bool true, .int .i64 v, .pointer (some ⟨p, 0, none⟩)])) w') : wpList Tryz.prog ops Q (o :: rest) a w := by
  obtain ⟨D, lf, hr, hf, hl⟩ := h
  refine wpList_next_ranges w hg it hop _ keyedInt elemK (Value.int .i64) ptrO (fun key kl hk => by obtain ⟨x, rfl, _⟩ := Maps.keyOf_int_inv Tryz.underlying3 hk; exact ⟨x, rfl⟩) (fun v y hv => by obtain ⟨c, rfl, _⟩ := elemK_inv hv; exact ⟨c, rfl⟩) b r n D lf cnt hit hr (fun h0 hl0 => hDone h0 fun v => by rw [← hl v]; exact hl0 _) ?_
  intro x c kl y w' cnt' hkey hlk hv hat hrg hlt hgr hsz hen
  obtain ⟨x', ex, rfl, hwx⟩ := Maps.keyOf_int_inv Tryz.underlying3 hkey
  simp only [Value.int.injEq, true_and] at ex
  subst ex
  obtain ⟨c', hc', hy⟩ := elemK_inv hv
  have hhas : Maps.has D (.int .i64 x) = true := Maps.has_true_of_atKey hat
  rw [hf.has x] at hhas
  obtain ⟨p, hp⟩ := Option.isSome_iff_exists.1 hhas
  have h1 := (hf x).2 _ hp (.held (ptrO c))
  rw [hat, hy] at h1
  simp only [DataW.held.injEq] at h1
  obtain rfl := ptrO_inj h1
  refine hMore x p w' cnt' hwx (by rw [← hl x]; exact hlk) hp ⟨D, _, hrg, hf, fun v => ?_⟩ hlt hgr hsz hen
  show (lf (.int .i64 v) && !(Lit.int .i64 v).sameKey (.int .i64 x)) = _
  rw [hl v]
  by_cases e : v = x
  · subst e; rw [WideAt.sameKey_self (litInt v)]; simp
  · rw [Maps.sameKey_ne (litInt_ne e)]; simp [e]
end

/-! What the solver holds, in memory. -/
/-- A way along the ties. -/
inductive Chain (tie : Nat → Option Nat) : Nat → Nat → Nat → Prop
  | nil {b : Nat} (h : tie b = none) : Chain tie b 0 b
  | cons {b c n r : Nat} (h : tie b = some c) (k : Chain tie c n r) : Chain tie b (n + 1) r
theorem Chain.fn {tie : Nat → Option Nat} {b n r : Nat} (h : Chain tie b n r) : ∀ {m q}, Chain tie b m q → n = m ∧ r = q := by
  induction h with
  | nil h => intro m q k; cases k with
    | nil _ => exact ⟨rfl, rfl⟩
    | cons h' _ => rw [h] at h'; cases h'
  | cons h k ih => intro m q k'; cases k' with
    | nil h' => rw [h] at h'; cases h'
    | cons h' k'' =>
      rw [h] at h'
      cases h'
      obtain ⟨rfl, rfl⟩ := ih k''
      exact ⟨rfl, rfl⟩
theorem Chain.end {tie : Nat → Option Nat} {b n r : Nat} (h : Chain tie b n r) : tie r = none := by
  induction h with
  | nil h => exact h
  | cons _ _ ih => exact ih
/-- A way shortened. -/
theorem chain_short {tie : Nat → Option Nat} {k j i : Nat} (h1 : tie k = some j) (h2 : tie j = some i) : ∀ (m x r : Nat), Chain tie x m r → ∃ m', m' ≤ m ∧ Chain (updN tie k (some i)) x m' r := by
  intro m
  induction m using Nat.strongRecOn with
  | _ m ih =>
    intro x r h
    cases h with
    | nil h =>
      refine ⟨0, Nat.le_refl _, .nil ?_⟩
      rw [updN_ne _ _ (fun e => by subst e; rw [h1] at h; cases h)]; exact h
    | @cons _ c n _ h k' =>
      by_cases e : x = k
      · subst e
        rw [h1] at h
        cases h
        cases k' with
        | nil h => rw [h2] at h; cases h
        | @cons _ d n' _ h k2 =>
          rw [h2] at h
          cases h
          obtain ⟨m', hm, hc⟩ := ih n' (by omega) i r k2
          exact ⟨m' + 1, by omega, .cons (updN_self _ _ _) hc⟩
      · obtain ⟨m', hm, hc⟩ := ih n (by omega) c r k'
        exact ⟨m' + 1, by omega, .cons (by rw [updN_ne _ _ e]; exact h) hc⟩
/-- A root tied to another one. -/
theorem chain_link {tie : Nat → Option Nat} {a b : Nat} (ha : tie a = none) (hb : tie b = none) (hab : a ≠ b) {x n r : Nat} (h : Chain tie x n r) : ∃ m, Chain (updN tie a (some b)) x m (if r = a then b else r) := by
  induction h with
  | @nil x h =>
    by_cases e : x = a
    · subst e
      rw [if_pos rfl]
      exact ⟨1, .cons (updN_self _ _ _) (.nil (by rw [updN_ne _ _ (Ne.symm hab)]; exact hb))⟩
    · rw [if_neg e]
      exact ⟨0, .nil (by rw [updN_ne _ _ e]; exact h)⟩
  | @cons x c n r h k ih =>
    obtain ⟨m, hm⟩ := ih
    have e : ¬ x = a := fun e => by subst e; rw [ha] at h; cases h
    exact ⟨m + 1, .cons (by rw [updN_ne _ _ e]; exact h) hm⟩

def PartC (w : World) (V : Value) : Option (Nat × Nat) → Prop
  | none => V = .slice none 0 0
  | some (x, y) => ∃ g, V = .slice (some ⟨g, 0, none⟩) 2 2 ∧ w.heap[g]? = some (.cells #[ptrN x, ptrN y] 90 (0, 0))
def KnotC (w0 w : World) (b : Nat) (t : Tm) (tied : Option Nat) (parts : Option (Nat × Nat)) : Prop :=
  w0.heap.size ≤ b ∧ ∃ (a : Option Addr) (c : Nat) (PV : Value), w.heap[b]? = some (.cells #[ptrO tied, .int .i64 t.kind, .int .i64 t.num, .string t.name, .slice a t.args.length c, PV] 110 (0, 0)) ∧
    ArgsS w0 (fun k => k < w0.heap.size) (.slice a t.args.length c) t.args ∧ PartC w PV parts
def StepC (w : World) (p : Nat) (v : Value) (q : Nat × Nat) : Prop :=
  ∃ x y z, v = .func (.func 77) #[] #[ptrN x, ptrN y, ptrN z] ∧ w.heap[x]? = some (.cells #[ptrN p] 84 (0, 0)) ∧
    w.heap[y]? = some (.cells #[ptrN q.1] 90 (0, 0)) ∧ w.heap[z]? = some (.cells #[ptrN q.2] 90 (0, 0))
def StepsC (w : World) (p : Nat) (xs : List Value) (st : List (Nat × Nat)) : Prop := xs.length = st.length ∧ ∀ (j : Nat) (v : Value) (q : Nat × Nat), xs[j]? = some v → st[j]? = some q → StepC w p v q
structure HeadC (w0 : World) (p : Nat) (s : St) (mb : Nat) (SV : Value) (xs : List Value) (n : Nat) (w : World) : Prop where
  cell : w.heap[p]? = some (.cells #[.map (some mb), .int .i64 s.bound, SV] 88 (0, 0))
  mlo : w0.heap.size ≤ mb
  map : MapK w mb n s.M
  count : n ≤ s.D.length
  row : Row w w0.heap.size 81 SV xs
  steps : StepsC w p xs s.steps
structure SolT (w0 : World) (p : Nat) (s : St) (tie : Nat → Option Nat) (w : World) : Prop where
  old : Below w0.heap.size w0 w
  tieD : ∀ b ∈ s.D, ∀ c, tie b = some c → c ∈ s.D
  chain : ∀ b ∈ s.D, ∃ n, Chain tie b n (s.rep b)
  knots : ∀ b ∈ s.D, KnotC w0 w b (s.tm b) (tie b) (s.parts b)
  plo : w0.heap.size ≤ p
  head : ∃ mb SV xs n, HeadC w0 p s mb SV xs n w
def SolW (w0 : World) (p : Nat) (s : St) (w : World) : Prop := ∃ tie, SolT w0 p s tie w

def isK (o : Option Obj) : Prop := ∃ cs, o = some (.cells cs 110 (0, 0))
def isM (o : Option Obj) : Prop := isK o ∨ (∃ cs, o = some (.cells cs 88 (0, 0))) ∨ (∃ cs, o = some (.cells cs 81 (0, 0))) ∨ ∃ es c, o = some (.map es c)
def isP (o : Option Obj) : Prop := ∃ es c, o = some (.map es c)
/-- Only blocks of some kinds are written; new ones may be laid. -/
structure Fr (Q : Option Obj → Prop) (w w' : World) : Prop where
  os : w'.os = w.os
  tape : w'.tape = w.tape
  output : w'.output = w.output
  size : w.heap.size ≤ w'.heap.size
  block : ∀ k, k < w.heap.size → ¬ Q w.heap[k]? → w'.heap[k]? = w.heap[k]?
theorem Fr.refl (Q : Option Obj → Prop) (w : World) : Fr Q w w := ⟨rfl, rfl, rfl, Nat.le_refl _, fun _ _ _ => rfl⟩
theorem Fr.trans {Q : Option Obj → Prop} {a b c : World} (h : Fr Q a b) (k : Fr Q b c) : Fr Q a c :=
  ⟨k.os.trans h.os, k.tape.trans h.tape, k.output.trans h.output, Nat.le_trans h.size k.size, fun i hi hq => by
    have h1 := h.block i hi hq
    exact (k.block i (Nat.lt_of_lt_of_le hi h.size) (by rw [h1]; exact hq)).trans h1⟩
theorem Fr.of_below {Q : Option Obj → Prop} {w w' : World} (h : Below w.heap.size w w') : Fr Q w w' := ⟨h.os, h.tape, h.output, h.size, fun k hk _ => h.block k hk⟩
theorem Fr.wide {w w' : World} (h : Fr isK w w') : Fr isM w w' := ⟨h.os, h.tape, h.output, h.size, fun k hk hq => h.block k hk fun q => hq (.inl q)⟩
theorem Fr.wideP {w w' : World} (h : Fr isP w w') : Fr isM w w' := ⟨h.os, h.tape, h.output, h.size, fun k hk hq => h.block k hk fun q => hq (.inr (.inr (.inr q)))⟩
theorem not_isP {cs : Array Value} {t : TypeId} : ¬ isP (some (.cells cs t (0, 0))) := by
  rintro ⟨c, d, e⟩
  simp at e
theorem Fr.one {Q : Option Obj → Prop} {w w' : World} {b : Nat} (h : Only (fun k => k = b) w w') (hb : Q w.heap[b]?) : Fr Q w w' := ⟨h.os, h.tape, h.output, h.size, fun k hk hq => h.block k hk fun e => by subst e; exact hq hb⟩
theorem lt_of_cells {w : World} {b : Nat} {o : Obj} (h : w.heap[b]? = some o) : b < w.heap.size := (Array.getElem?_eq_some_iff.1 h).1
theorem Fr.cells {Q : Option Obj → Prop} {w w' : World} (h : Fr Q w w') {b : Nat} {o : Obj} (hb : w.heap[b]? = some o) (hq : ¬ Q (some o)) : w'.heap[b]? = some o := (h.block b (lt_of_cells hb) (by rw [hb]; exact hq)).trans hb
theorem not_isM {cs : Array Value} {t : TypeId} (h1 : t ≠ 110) (h2 : t ≠ 88) (h3 : t ≠ 81) : ¬ isM (some (.cells cs t (0, 0))) := by
  rintro (⟨c, e⟩ | ⟨c, e⟩ | ⟨c, e⟩ | ⟨c, d, e⟩)
  · simp only [Option.some.injEq, Obj.cells.injEq] at e; exact h1 e.2.1
  · simp only [Option.some.injEq, Obj.cells.injEq] at e; exact h2 e.2.1
  · simp only [Option.some.injEq, Obj.cells.injEq] at e; exact h3 e.2.1
  · simp at e
theorem not_isK {cs : Array Value} {t : TypeId} (h1 : t ≠ 110) : ¬ isK (some (.cells cs t (0, 0))) := by
  rintro ⟨c, e⟩
  simp only [Option.some.injEq, Obj.cells.injEq] at e
  exact h1 e.2.1
theorem map_not_isK {w : World} {b n : Nat} {f : EntK} (h : MapK w b n f) : ¬ isK w.heap[b]? := by
  obtain ⟨es, c, h⟩ := h.block
  rw [h]
  rintro ⟨c, e⟩
  simp at e
theorem cells_inj {w : World} {b : Nat} {cs cs' : Array Value} {t t' : TypeId} (h : w.heap[b]? = some (.cells cs t (0, 0))) (k : w.heap[b]? = some (.cells cs' t' (0, 0))) : cs = cs' ∧ t = t' := by
  rw [h] at k
  simp only [Option.some.injEq, Obj.cells.injEq] at k
  exact ⟨k.1, k.2.1⟩

theorem PartC.frame {Q : Option Obj → Prop} {w w' : World} {V : Value} {o : Option (Nat × Nat)} (h : PartC w V o) (hf : Fr Q w w') (hq : ∀ cs, ¬ Q (some (.cells cs 90 (0, 0)))) : PartC w' V o := by
  cases o with
  | none => exact h
  | some p =>
    obtain ⟨x, y⟩ := p
    obtain ⟨g, h1, h2⟩ := h
    exact ⟨g, h1, hf.cells h2 (hq _)⟩
theorem KnotC.keep {Q : Option Obj → Prop} {w0 w w' : World} {b : Nat} {t : Tm} {tied : Option Nat} {parts : Option (Nat × Nat)} (h : KnotC w0 w b t tied parts) (hf : Fr Q w w') (hq : ∀ cs, ¬ Q (some (.cells cs 90 (0, 0)))) (hb : w'.heap[b]? = w.heap[b]?) : KnotC w0 w' b t tied parts := by
  obtain ⟨h1, a, c, PV, h2, h3, h4⟩ := h
  exact ⟨h1, a, c, PV, hb.trans h2, h3, h4.frame hf hq⟩
theorem StepC.frame {w w' : World} {p : Nat} {v : Value} {q : Nat × Nat} (h : StepC w p v q) (hf : Fr isM w w') : StepC w' p v q := by
  obtain ⟨x, y, z, e, h1, h2, h3⟩ := h
  exact ⟨x, y, z, e, hf.cells h1 (not_isM (by decide) (by decide) (by decide)), hf.cells h2 (not_isM (by decide) (by decide) (by decide)), hf.cells h3 (not_isM (by decide) (by decide) (by decide))⟩
theorem StepsC.frame {w w' : World} {p : Nat} {xs : List Value} {st : List (Nat × Nat)} (h : StepsC w p xs st) (hf : Fr isM w w') : StepsC w' p xs st := ⟨h.1, fun j v q h1 h2 => (h.2 j v q h1 h2).frame hf⟩
theorem rowT_kept {w w' : World} {base : Nat} {e : TypeId} {v : Value} {xs : List Value} (h : Row w base e v xs) (hb : ∀ (k : Nat) (cs : Array Value), w.heap[k]? = some (Obj.cells cs e (0, 0)) → w'.heap[k]? = w.heap[k]?) : Row w' base e v xs := by
  refine ⟨h.1, ?_⟩
  rcases h.2 with hn | ⟨g, cap, cur, rfl, h1, h2, h3⟩
  · exact .inl hn
  · exact .inr ⟨g, cap, cur, rfl, h1, by rw [hb g cur h2]; exact h2, h3⟩
/-- The solver's block, its map, its stack, where only knots are written. -/
theorem HeadC.frame {w0 w w' : World} {p : Nat} {s : St} {mb : Nat} {SV : Value} {xs : List Value} {n : Nat} (h : HeadC w0 p s mb SV xs n w) (hf : Fr isK w w') : HeadC w0 p s mb SV xs n w' := by
  obtain ⟨es, clock, hm⟩ := h.map.block
  exact ⟨hf.cells h.cell (not_isK (by decide)), h.mlo, h.map.frame (hf.block _ (lt_of_cells hm) (map_not_isK h.map)), h.count,
    rowT_kept h.row fun k cs hk => hf.block k (lt_of_cells hk) (by rw [hk]; exact not_isK (by decide)), h.steps.frame hf.wide⟩
theorem KnotC.lt {w0 w : World} {b : Nat} {t : Tm} {tied : Option Nat} {parts : Option (Nat × Nat)} (h : KnotC w0 w b t tied parts) : b < w.heap.size := by obtain ⟨_, _, _, _, h2, _⟩ := h; exact lt_of_cells h2
theorem KnotC.isK {w0 w : World} {b : Nat} {t : Tm} {tied : Option Nat} {parts : Option (Nat × Nat)} (h : KnotC w0 w b t tied parts) : isK w.heap[b]? := by obtain ⟨_, _, _, _, h2, _⟩ := h; exact ⟨_, h2⟩
theorem SolT.kept {w0 w w' : World} {p : Nat} {s : St} {tie : Nat → Option Nat} (h : SolT w0 p s tie w) (hb : Below w.heap.size w w') : SolT w0 p s tie w' := by
  obtain ⟨mb, SV, xs, n, hh⟩ := h.head
  exact ⟨h.old.trans (hb.mono h.old.size), h.tieD, h.chain, fun b hD => (h.knots b hD).keep (Fr.of_below hb : Fr isK w w') (fun _ => not_isK (by decide)) (hb.block b (h.knots b hD).lt), h.plo, mb, SV, xs, n, hh.frame (Fr.of_below hb)⟩
theorem SolW.kept {w0 w w' : World} {p : Nat} {s : St} (h : SolW w0 p s w) (hb : Below w.heap.size w w') : SolW w0 p s w' := by
  obtain ⟨tie, h⟩ := h
  exact ⟨tie, h.kept hb⟩
theorem only_one (w : World) (b o : Nat) (u : Value) : Only (fun k => k = b) w (w.setCell ⟨b, o, none⟩ u) := ⟨rfl, rfl, rfl, by simp, fun k _ hk => Below.heap_setCell _ _ _ _ hk⟩
/-- A knot's tie is set. -/
theorem KnotC.tied {w0 w : World} {b : Nat} {t : Tm} {tied : Option Nat} {parts : Option (Nat × Nat)} (h : KnotC w0 w b t tied parts) (c : Nat) : KnotC w0 (w.setCell ⟨b, 0, none⟩ (ptrN c)) b t (some c) parts := by
  have hk := h.isK
  obtain ⟨h1, a, cc, PV, h2, h3, h4⟩ := h
  refine ⟨h1, a, cc, PV, ?_, h3, h4.frame (Fr.one (only_one w b 0 (ptrN c)) hk : Fr Go.Proofs.YtealiilcnmdmdaaGreat.isK _ _) fun _ => not_isK (by decide)⟩
  have := heap_setCell_same w b 0 _ _ (ptrN c) h2
  simpa [ptrO] using this
theorem SolT.tied {w0 w : World} {p : Nat} {s s' : St} {tie : Nat → Option Nat} (h : SolT w0 p s tie w) {b c : Nat} (hb : b ∈ s.D) (hc : c ∈ s.D) (hD : s'.D = s.D) (htm : s'.tm = s.tm) (hpa : s'.parts = s.parts) (hM : s'.M = s.M) (hS : s'.steps = s.steps) (hB : s'.bound = s.bound)
    (hch : ∀ x ∈ s.D, ∃ n, Chain (updN tie b (some c)) x n (s'.rep x)) : SolT w0 p s' (updN tie b (some c)) (w.setCell ⟨b, 0, none⟩ (ptrN c)) := by
  have hkb := h.knots b hb
  have ho := only_one w b 0 (ptrN c)
  have hf : Fr isK w (w.setCell ⟨b, 0, none⟩ (ptrN c)) := Fr.one ho hkb.isK
  obtain ⟨mb, SV, xs, n, hh⟩ := h.head
  have hh' := hh.frame hf
  refine ⟨h.old.trans (ho.below (fun k e => by subst e; exact hkb.1) h.old.size), fun x hx d hd => ?_, fun x hx => ?_, fun x hx => ?_, h.plo, mb, SV, xs, n, ⟨by rw [hB]; exact hh'.cell, hh'.mlo, by rw [hM]; exact hh'.map, by rw [hD]; exact hh'.count, hh'.row, by rw [hS]; exact hh'.steps⟩⟩
  · rw [hD] at hx ⊢
    by_cases e : x = b
    · subst e; rw [updN_self] at hd; cases hd; exact hc
    · rw [updN_ne _ _ e] at hd; exact h.tieD x hx d hd
  · rw [hD] at hx; exact hch x hx
  · rw [hD] at hx
    rw [htm, hpa]
    by_cases e : x = b
    · subst e; rw [updN_self]; exact hkb.tied c
    · rw [updN_ne _ _ e]
      exact (h.knots x hx).keep hf (fun _ => not_isK (by decide)) (ho.block x (h.knots x hx).lt e)
/-- A knot's cells. -/
theorem KnotC.cells {w0 w : World} {b : Nat} {t : Tm} {tied : Option Nat} {parts : Option (Nat × Nat)} (h : KnotC w0 w b t tied parts) : ∃ a c PV, ArgsS w0 (fun k => k < w0.heap.size) (.slice a t.args.length c) t.args ∧ PartC w PV parts ∧
    w.cell? ⟨b, 0, none⟩ = some (ptrO tied) ∧ w.cell? ⟨b, 1, none⟩ = some (.int .i64 t.kind) ∧ w.cell? ⟨b, 2, none⟩ = some (.int .i64 t.num) ∧ w.cell? ⟨b, 3, none⟩ = some (.string t.name) ∧ w.cell? ⟨b, 4, none⟩ = some (.slice a t.args.length c) ∧ w.cell? ⟨b, 5, none⟩ = some PV ∧ ∀ j, w.frozen? ⟨b, j, none⟩ = false := by
  obtain ⟨h1, a, c, PV, h2, h3, h4⟩ := h
  exact ⟨a, c, PV, h3, h4, cell_of_row w b 0 _ _ _ h2, cell_of_row w b 1 _ _ _ h2, cell_of_row w b 2 _ _ _ h2, cell_of_row w b 3 _ _ _ h2, cell_of_row w b 4 _ _ _ h2, cell_of_row w b 5 _ _ _ h2, fun j => frozen_of_row w b j _ _ h2⟩
theorem HeadC.cells {w0 w : World} {p : Nat} {s : St} {mb : Nat} {SV : Value} {xs : List Value} {n : Nat} (h : HeadC w0 p s mb SV xs n w) : w.cell? ⟨p, 0, none⟩ = some (.map (some mb)) ∧ w.cell? ⟨p, 1, none⟩ = some (.int .i64 s.bound) ∧ w.cell? ⟨p, 2, none⟩ = some SV ∧ ∀ j, w.frozen? ⟨p, j, none⟩ = false :=
  ⟨cell_of_row w p 0 _ _ _ h.cell, cell_of_row w p 1 _ _ _ h.cell, cell_of_row w p 2 _ _ _ h.cell, fun j => frozen_of_row w p j _ _ h.cell⟩
end Go.Proofs.YtealiilcnmdmdaaGreat

