/-
  The program's solver in memory: maps from variables to knots; knots, closures on the stack, the solver's own block; what a step leaves as it was.
  The program's solver in memory: a knot more, its parts laid, an equation pushed or popped, a variable bound.
  The program's solver: root, isVariable, bind, knotOf.
  The program's solver: partsOf.
-/
import Derived.Test.YtbbgiefnmihmdaaKnotQ
import Derived.Test.YtbbgiefnmihmdaaMapSubst
import Derived.Deep.LoopGhost
import Derived.BigQuiet
import Derived.StillTailTactics
import Derived.Deep.QuietTactic
import Derived.Deep.RegionHeld3
import Derived.Lib.SliceRun
namespace Go.Proofs.Ytbbgiefnmihmdaa
open Go.RowKit
open Go.Maps (Keyed)
set_option linter.unusedVariables false
set_option linter.unusedSimpArgs false

abbrev ptrN (b : Nat) : Value := .pointer (some ⟨b, 0, none⟩)
def ptrO : Option Nat → Value
  | none => .pointer none
  | some b => ptrN b
theorem ptrO_inj {a b : Option Nat} (h : ptrO a = ptrO b) : a = b := by
  cases a <;> cases b <;> simp [ptrO] at h ⊢
  exact h
open Classical in
noncomputable def elemK (v : Value) : Option (DataW Value × List MemPlace) := if ∃ o, v = ptrO o then some (.held v, []) else none
theorem elemK_mk (o : Option Nat) : elemK (ptrO o) = some (.held (ptrO o), []) := by rw [elemK, if_pos ⟨o, rfl⟩]
theorem elemK_inv {v : Value} {y : DataW Value × List MemPlace} (h : elemK v = some y) : ∃ o, v = ptrO o ∧ y = (.held v, []) := by
  unfold elemK at h
  split at h
  · rename_i hc
    obtain ⟨c, hc⟩ := hc
    cases h
    exact ⟨c, hc, rfl⟩
  · cases h
theorem zeroKnot (w : World) : (zeroValue 132).run Try.prog w = .ok (ptrO none) w := by kernel_rfl
/-- What a map holds, by the number of the variable: a knot. -/
abbrev EntK := Int → Option Nat
def FitsK (D : DataW Value) (f : EntK) : Prop := ∀ v, (f v = none → Maps.has D (.int .i64 v) = false) ∧ (∀ p, f v = some p → ∀ zd, D.atKey (.int .i64 v) zd = .held (ptrO (some p)))
def MapK (w : World) (b n : Nat) (f : EntK) : Prop := ∃ D : DataW Value, w.ownsMap Try.prog 3 elemK b n D ∧ FitsK D f
theorem FitsK.has {D : DataW Value} {f : EntK} (h : FitsK D f) (v : Int) : Maps.has D (.int .i64 v) = (f v).isSome := by
  cases hf : f v with
  | none => rw [(h v).1 hf]; rfl
  | some p => rw [Maps.has_true_of_atKey ((h v).2 p hf)]; rfl
theorem MapK.frame {w w' : World} {b n : Nat} {f : EntK} (h : MapK w b n f) (hb : w'.heap[b]? = w.heap[b]?) : MapK w' b n f := by
  obtain ⟨D, ⟨es, clock, h1, h2⟩, h3⟩ := h
  exact ⟨D, ⟨es, clock, hb.trans h1, h2⟩, h3⟩
theorem MapK.block {w : World} {b n : Nat} {f : EntK} (h : MapK w b n f) : ∃ es clock, w.heap[b]? = some (.map es clock) := by
  obtain ⟨D, ⟨es, clock, h1, h2⟩, h3⟩ := h
  exact ⟨es, clock, h1⟩
theorem MapK.lt {w : World} {b n : Nat} {f : EntK} (h : MapK w b n f) : b < w.heap.size := by obtain ⟨D, h1, _⟩ := h; exact h1.lt
theorem MapK.kept {w w' : World} {b n : Nat} {f : EntK} (h : MapK w b n f) (hb : Below w.heap.size w w') : MapK w' b n f := h.frame (hb.block b h.lt)
theorem mapK_made (w : World) : MapK (w.alloc (.map #[] 0)) w.heap.size 0 (fun _ => none) :=
  ⟨.map [], World.ownsMap_made w _ _ _, fun v => ⟨fun _ => rfl, fun p h => by cases h⟩⟩
def updK (f : EntK) (v : Int) (p : Nat) : EntK := fun x => if x = v then some p else f x
theorem updK_self (f : EntK) (v : Int) (p : Nat) : updK f v p v = some p := if_pos rfl
theorem updK_ne (f : EntK) {v x : Int} (p : Nat) (h : ¬ x = v) : updK f v p x = f x := if_neg h
theorem FitsK.put {D : DataW Value} {f : EntK} (h : FitsK D f) (hm : Maps.IsMap D) (v : Int) (p : Nat) : FitsK (D.put (.int .i64 v) (.held (ptrO (some p)))) (updK f v p) := by
  intro x
  by_cases e : x = v
  · subst e
    rw [updK_self]
    refine ⟨(fun h => by cases h), fun q hq zd => ?_⟩
    cases hq
    exact Maps.atKey_put_same hm (litInt x) _ _
  · rw [updK_ne f p e]
    refine ⟨fun hx => ?_, fun q hq zd => ?_⟩
    · rw [Maps.has_put_other (litInt_ne e)]; exact (h x).1 hx
    · rw [Maps.atKey_put_other (litInt_ne e)]; exact (h x).2 q hq zd
/-- 'x, ok := m[v]'. -/
theorem MapK.look {w : World} {b n : Nat} {f : EntK} (h : MapK w b n f) {v : Int} (hv : wfI v) :
    (Instr.lookup 127 (.map (some b)) (.int .i64 v) true).run Try.prog w = .ok (match f v with | none => .tuple #[.pointer none, .bool false] | some p => .tuple #[ptrN p, .bool true]) w := by
  obtain ⟨D, hown, hf⟩ := h
  obtain ⟨u, ps, hrun, hu⟩ := hown.look_ok keyedInt Try.underlying127 (zeroKnot w) (elemK_mk _) (keyInt hv)
  obtain ⟨c, rfl, hy⟩ := elemK_inv hu
  simp only [Prod.mk.injEq] at hy
  rw [hrun]
  cases hfv : f v with
  | none =>
    have h1 := (hf v).1 hfv
    rw [h1]
    have h2 := hy.1
    rw [Maps.atKey_of_not_has h1] at h2
    simp only [DataW.held.injEq] at h2
    rw [← h2]
    rfl
  | some p =>
    have h1 := (hf v).2 p hfv
    rw [Maps.has_true_of_atKey h1]
    have h2 := hy.1
    rw [h1] at h2
    simp only [DataW.held.injEq] at h2
    rw [← h2]
    rfl
theorem MapK.look_no {w : World} {b n : Nat} {f : EntK} (h : MapK w b n f) {v : Int} (hv : wfI v) (hf : f v = none) :
    (Instr.lookup 127 (.map (some b)) (.int .i64 v) true).run Try.prog w = .ok (.tuple #[.pointer none, .bool false]) w := by rw [h.look hv, hf]
theorem MapK.look_yes {w : World} {b n : Nat} {f : EntK} (h : MapK w b n f) {v : Int} (hv : wfI v) {p : Nat} (hf : f v = some p) :
    (Instr.lookup 127 (.map (some b)) (.int .i64 v) true).run Try.prog w = .ok (.tuple #[ptrN p, .bool true]) w := by rw [h.look hv, hf]

section
variable (w : World) {ops : Array Oper} {rest : List Oper} {o : Oper} {a : Act} {Q : Exit → Act → World → Prop}
/-- 'm[v] = k'. -/
theorem wpList_putK (hg : o.guard = none) (m x v : Operand) (hop : o.op = Op.mapUpdate 127 m x v) (b n : Nat) (f : EntK) (hm : a.eval m = .map (some b)) (h : MapK w b n f) (hn : n < maxLen) (k : Int) (hx : a.eval x = .int .i64 k) (hk : wfI k)
    (p : Nat) (hv : a.eval v = .pointer (some ⟨p, 0, none⟩)) (hK : ∀ w', MapK w' b (n + 1) (updK f k p) → w.grownBy w' (some b) → wpList Try.prog ops Q rest (a.put o.dst undef) w') : wpList Try.prog ops Q (o :: rest) a w := by
  obtain ⟨D, hown, hf⟩ := h
  exact wpList_mapUpdate_in w hg m x v _ hop _ _ keyedInt Try.underlying127 elemK b n D hm hown hn _ _ _ hx hv (keyInt hk) _ [] (elemK_mk (some p)) fun w' h1 h2 => hK w' ⟨_, h1, hf.put hown.isMap k p⟩ h2.grown
end
/-- A map ranged over: what it holds; which of its keys are still to come, how many. -/
def RanK (w : World) (b r n : Nat) (f : EntK) (left : Int → Bool) (cnt : Nat) : Prop := ∃ (D : DataW Value) (lf : Lit → Bool), w.ranges Try.prog 3 elemK b r n D lf cnt ∧ FitsK D f ∧ ∀ v, lf (.int .i64 v) = left v
theorem RanK.frame {w w' : World} {b r n cnt : Nat} {f : EntK} {left : Int → Bool} (h : RanK w b r n f left cnt) (hb : w'.heap[b]? = w.heap[b]?) (hr : w'.heap[r]? = w.heap[r]?) : RanK w' b r n f left cnt := by
  obtain ⟨D, lf, ⟨es, clock, since, seen, c0, h1, h2, h3, h4, h5, h6⟩, hf, hl⟩ := h
  exact ⟨D, lf, ⟨es, clock, since, seen, c0, hb.trans h1, h2, h3, h4, hr.trans h5, h6⟩, hf, hl⟩
theorem RanK.lt {w : World} {b r n cnt : Nat} {f : EntK} {left : Int → Bool} (h : RanK w b r n f left cnt) : b < w.heap.size ∧ r < w.heap.size ∧ r ≠ b := by
  obtain ⟨D, lf, h1, _⟩ := h
  exact ⟨h1.owns.lt, h1.lt, h1.ne⟩
theorem RanK.left_eq {w : World} {b r n cnt : Nat} {f : EntK} {left : Int → Bool} (h : RanK w b r n f left cnt) : w.rangeLeft b r = cnt := by
  obtain ⟨D, lf, h1, _⟩ := h
  exact h1.left_eq
theorem RanK.kept {w w' : World} {b r n cnt : Nat} {f : EntK} {left : Int → Bool} (h : RanK w b r n f left cnt) (hb : Below w.heap.size w w') : RanK w' b r n f left cnt := h.frame (hb.block b h.lt.1) (hb.block r h.lt.2.1)
section
variable (w : World) {ops : Array Oper} {rest : List Oper} {o : Oper} {a : Act} {Q : Exit → Act → World → Prop}
theorem wpList_rangeK (hg : o.guard = none) (m : Operand) (hop : o.op = Op.range 127 m) (b n : Nat) (f : EntK) (hm : a.eval m = .map (some b)) (h : MapK w b n f)
    (hK : ∀ w' cnt, cnt ≤ n → RanK w' b w.heap.size n f (fun v => (f v).isSome) cnt → Below w.heap.size w w' → w'.heap.size = w.heap.size + 1 → wpList Try.prog ops Q rest (a.put o.dst (.pointer (some ⟨w.heap.size, 0, none⟩))) w') : wpList Try.prog ops Q (o :: rest) a w := by
  obtain ⟨D, hown, hf⟩ := h
  exact wpList_range_own w hg m _ hop _ _ keyedInt Try.underlying127 elemK b n D hm hown fun w' h1 h2 h3 => hK w' _ hown.size_le ⟨D, _, h1, hf, fun v => hf.has v⟩ ⟨h2.os, h2.tape, h2.output, h2.size, fun i hi => h2.block i hi (by simp)⟩ h3
theorem wpList_nextK (hg : o.guard = none) (it : Operand) (hop : o.op = Op.next it false) (b r n cnt : Nat) (f : EntK) (left : Int → Bool) (hit : a.eval it = .pointer (some ⟨r, 0, none⟩)) (h : RanK w b r n f left cnt)
    (hDone : cnt = 0 → (∀ v, left v = false) → wpList Try.prog ops Q rest (a.put o.dst (.tuple #[.bool false])) w)
    (hMore : ∀ (v : Int) (p : Nat) (w' : World) (cnt' : Nat), wfI v → left v = true → f v = some p → RanK w' b r n f (fun x => left x && !decide (x = v)) cnt' → cnt' < cnt → w.grownBy w' (some r) → w'.heap.size = w.heap.size →
      (Instr.entry (.pointer (some ⟨r, 0, none⟩))).run Try.prog w' = .ok (.tuple #[.int .i64 v, .pointer (some ⟨p, 0, none⟩)]) w' →
      wpList Try.prog ops Q rest (a.put o.dst (.tuple #[.bool true, .int .i64 v, .pointer (some ⟨p, 0, none⟩)])) w') : wpList Try.prog ops Q (o :: rest) a w := by
  obtain ⟨D, lf, hr, hf, hl⟩ := h
  refine wpList_next_ranges w hg it hop _ keyedInt elemK (Value.int .i64) ptrO (fun key kl hk => by obtain ⟨x, rfl, _⟩ := Maps.keyOf_int_inv Try.underlying3 hk; exact ⟨x, rfl⟩) (fun v y hv => by obtain ⟨c, rfl, _⟩ := elemK_inv hv; exact ⟨c, rfl⟩) b r n D lf cnt hit hr (fun h0 hl0 => hDone h0 fun v => by rw [← hl v]; exact hl0 _) ?_
  intro x c kl y w' cnt' hkey hlk hv hat hrg hlt hgr hsz hen
  obtain ⟨x', ex, rfl, hwx⟩ := Maps.keyOf_int_inv Try.underlying3 hkey
  simp only [Value.int.injEq, true_and] at ex
  subst ex
  obtain ⟨c', hc', hy⟩ := elemK_inv hv
  have hhas : Maps.has D (.int .i64 x) = true := Maps.has_true_of_atKey hat
  rw [hf.has x] at hhas
  obtain ⟨p, hp⟩ := Option.isSome_iff_exists.1 hhas
  have h1 := (hf x).2 _ hp (.held (ptrO c))
  rw [hat, hy] at h1
  simp only [DataW.held.injEq] at h1
  obtain rfl := ptrO_inj h1
  refine hMore x p w' cnt' hwx (by rw [← hl x]; exact hlk) hp ⟨D, _, hrg, hf, fun v => ?_⟩ hlt hgr hsz hen
  show (lf (.int .i64 v) && !(Lit.int .i64 v).sameKey (.int .i64 x)) = _
  rw [hl v]
  by_cases e : v = x
  · subst e; rw [WideAt.sameKey_self (litInt v)]; simp
  · rw [Maps.sameKey_ne (litInt_ne e)]; simp [e]
end

/-! What the solver holds, in memory. -/
/-- A way along the ties. -/
inductive Chain (tie : Nat → Option Nat) : Nat → Nat → Nat → Prop
  | nil {b : Nat} (h : tie b = none) : Chain tie b 0 b
  | cons {b c n r : Nat} (h : tie b = some c) (k : Chain tie c n r) : Chain tie b (n + 1) r
theorem Chain.fn {tie : Nat → Option Nat} {b n r : Nat} (h : Chain tie b n r) : ∀ {m q}, Chain tie b m q → n = m ∧ r = q := by
  induction h with
  | nil h => intro m q k; cases k with
    | nil _ => exact ⟨rfl, rfl⟩
    | cons h' _ => rw [h] at h'; cases h'
  | cons h k ih => intro m q k'; cases k' with
    | nil h' => rw [h] at h'; cases h'
    | cons h' k'' =>
      rw [h] at h'
      cases h'
      obtain ⟨rfl, rfl⟩ := ih k''
      exact ⟨rfl, rfl⟩
theorem Chain.end {tie : Nat → Option Nat} {b n r : Nat} (h : Chain tie b n r) : tie r = none := by
  induction h with
  | nil h => exact h
  | cons _ _ ih => exact ih
/-- A way shortened. -/
theorem chain_short {tie : Nat → Option Nat} {k j i : Nat} (h1 : tie k = some j) (h2 : tie j = some i) : ∀ (m x r : Nat), Chain tie x m r → ∃ m', m' ≤ m ∧ Chain (updN tie k (some i)) x m' r := by
  intro m
  induction m using Nat.strongRecOn with
  | _ m ih =>
    intro x r h
    cases h with
    | nil h =>
      refine ⟨0, Nat.le_refl _, .nil ?_⟩
      rw [updN_ne _ _ (fun e => by subst e; rw [h1] at h; cases h)]; exact h
    | @cons _ c n _ h k' =>
      by_cases e : x = k
      · subst e
        rw [h1] at h
        cases h
        cases k' with
        | nil h => rw [h2] at h; cases h
        | @cons _ d n' _ h k2 =>
          rw [h2] at h
          cases h
          obtain ⟨m', hm, hc⟩ := ih n' (by omega) i r k2
          exact ⟨m' + 1, by omega, .cons (updN_self _ _ _) hc⟩
      · obtain ⟨m', hm, hc⟩ := ih n (by omega) c r k'
        exact ⟨m' + 1, by omega, .cons (by rw [updN_ne _ _ e]; exact h) hc⟩
/-- A root tied to another one. -/
theorem chain_link {tie : Nat → Option Nat} {a b : Nat} (ha : tie a = none) (hb : tie b = none) (hab : a ≠ b) {x n r : Nat} (h : Chain tie x n r) : ∃ m, Chain (updN tie a (some b)) x m (if r = a then b else r) := by
  induction h with
  | @nil x h =>
    by_cases e : x = a
    · subst e
      rw [if_pos rfl]
      exact ⟨1, .cons (updN_self _ _ _) (.nil (by rw [updN_ne _ _ (Ne.symm hab)]; exact hb))⟩
    · rw [if_neg e]
      exact ⟨0, .nil (by rw [updN_ne _ _ e]; exact h)⟩
  | @cons x c n r h k ih =>
    obtain ⟨m, hm⟩ := ih
    have e : ¬ x = a := fun e => by subst e; rw [ha] at h; cases h
    exact ⟨m + 1, .cons (by rw [updN_ne _ _ e]; exact h) hm⟩

def PartC (w : World) (V : Value) : Option (Nat × Nat) → Prop
  | none => V = .slice none 0 0
  | some (x, y) => ∃ g, V = .slice (some ⟨g, 0, none⟩) 2 2 ∧ w.heap[g]? = some (.cells #[ptrN x, ptrN y] 132 (0, 0))
def KnotC (w0 w : World) (b : Nat) (t : Tm) (tied : Option Nat) (parts : Option (Nat × Nat)) : Prop :=
  w0.heap.size ≤ b ∧ ∃ (a : Option Addr) (c : Nat) (PV : Value), w.heap[b]? = some (.cells #[ptrO tied, .int .i64 t.kind, .int .i64 t.num, .string t.name, .slice a t.args.length c, PV] 154 (0, 0)) ∧
    ArgsS w0 (fun k => k < w0.heap.size) (.slice a t.args.length c) t.args ∧ PartC w PV parts
def StepC (w : World) (p : Nat) (v : Value) (q : Nat × Nat) : Prop :=
  ∃ x y z, v = .func (.func 147) #[] #[ptrN x, ptrN y, ptrN z] ∧ w.heap[x]? = some (.cells #[ptrN p] 126 (0, 0)) ∧
    w.heap[y]? = some (.cells #[ptrN q.1] 132 (0, 0)) ∧ w.heap[z]? = some (.cells #[ptrN q.2] 132 (0, 0))
def StepsC (w : World) (p : Nat) (xs : List Value) (st : List (Nat × Nat)) : Prop := xs.length = st.length ∧ ∀ (j : Nat) (v : Value) (q : Nat × Nat), xs[j]? = some v → st[j]? = some q → StepC w p v q
structure HeadC (w0 : World) (p : Nat) (s : St) (mb : Nat) (SV : Value) (xs : List Value) (n : Nat) (w : World) : Prop where
  cell : w.heap[p]? = some (.cells #[.map (some mb), .int .i64 s.bound, SV] 130 (0, 0))
  mlo : w0.heap.size ≤ mb
  map : MapK w mb n s.M
  count : n ≤ s.D.length
  row : Row w w0.heap.size 134 SV xs
  steps : StepsC w p xs s.steps
structure SolT (w0 : World) (p : Nat) (s : St) (tie : Nat → Option Nat) (w : World) : Prop where
  old : Below w0.heap.size w0 w
  tieD : ∀ b ∈ s.D, ∀ c, tie b = some c → c ∈ s.D
  chain : ∀ b ∈ s.D, ∃ n, Chain tie b n (s.rep b)
  knots : ∀ b ∈ s.D, KnotC w0 w b (s.tm b) (tie b) (s.parts b)
  plo : w0.heap.size ≤ p
  head : ∃ mb SV xs n, HeadC w0 p s mb SV xs n w
def SolW (w0 : World) (p : Nat) (s : St) (w : World) : Prop := ∃ tie, SolT w0 p s tie w

def isK (o : Option Obj) : Prop := ∃ cs, o = some (.cells cs 154 (0, 0))
def isM (o : Option Obj) : Prop := isK o ∨ (∃ cs, o = some (.cells cs 130 (0, 0))) ∨ (∃ cs, o = some (.cells cs 134 (0, 0))) ∨ ∃ es c, o = some (.map es c)
def isP (o : Option Obj) : Prop := ∃ es c, o = some (.map es c)
/-- Only blocks of some kinds are written; new ones may be laid. -/
structure Fr (Q : Option Obj → Prop) (w w' : World) : Prop where
  os : w'.os = w.os
  tape : w'.tape = w.tape
  output : w'.output = w.output
  size : w.heap.size ≤ w'.heap.size
  block : ∀ k, k < w.heap.size → ¬ Q w.heap[k]? → w'.heap[k]? = w.heap[k]?
theorem Fr.refl (Q : Option Obj → Prop) (w : World) : Fr Q w w := ⟨rfl, rfl, rfl, Nat.le_refl _, fun _ _ _ => rfl⟩
theorem Fr.trans {Q : Option Obj → Prop} {a b c : World} (h : Fr Q a b) (k : Fr Q b c) : Fr Q a c :=
  ⟨k.os.trans h.os, k.tape.trans h.tape, k.output.trans h.output, Nat.le_trans h.size k.size, fun i hi hq => by
    have h1 := h.block i hi hq
    exact (k.block i (Nat.lt_of_lt_of_le hi h.size) (by rw [h1]; exact hq)).trans h1⟩
theorem Fr.of_below {Q : Option Obj → Prop} {w w' : World} (h : Below w.heap.size w w') : Fr Q w w' := ⟨h.os, h.tape, h.output, h.size, fun k hk _ => h.block k hk⟩
theorem Fr.wide {w w' : World} (h : Fr isK w w') : Fr isM w w' := ⟨h.os, h.tape, h.output, h.size, fun k hk hq => h.block k hk fun q => hq (.inl q)⟩
theorem Fr.wideP {w w' : World} (h : Fr isP w w') : Fr isM w w' := ⟨h.os, h.tape, h.output, h.size, fun k hk hq => h.block k hk fun q => hq (.inr (.inr (.inr q)))⟩
theorem not_isP {cs : Array Value} {t : TypeId} : ¬ isP (some (.cells cs t (0, 0))) := by
  rintro ⟨c, d, e⟩
  simp at e
theorem Fr.one {Q : Option Obj → Prop} {w w' : World} {b : Nat} (h : Only (fun k => k = b) w w') (hb : Q w.heap[b]?) : Fr Q w w' := ⟨h.os, h.tape, h.output, h.size, fun k hk hq => h.block k hk fun e => by subst e; exact hq hb⟩
theorem lt_of_cells {w : World} {b : Nat} {o : Obj} (h : w.heap[b]? = some o) : b < w.heap.size := (Array.getElem?_eq_some_iff.1 h).1
theorem Fr.cells {Q : Option Obj → Prop} {w w' : World} (h : Fr Q w w') {b : Nat} {o : Obj} (hb : w.heap[b]? = some o) (hq : ¬ Q (some o)) : w'.heap[b]? = some o := (h.block b (lt_of_cells hb) (by rw [hb]; exact hq)).trans hb
theorem not_isM {cs : Array Value} {t : TypeId} (h1 : t ≠ 154) (h2 : t ≠ 130) (h3 : t ≠ 134) : ¬ isM (some (.cells cs t (0, 0))) := by
  rintro (⟨c, e⟩ | ⟨c, e⟩ | ⟨c, e⟩ | ⟨c, d, e⟩)
  · simp only [Option.some.injEq, Obj.cells.injEq] at e; exact h1 e.2.1
  · simp only [Option.some.injEq, Obj.cells.injEq] at e; exact h2 e.2.1
  · simp only [Option.some.injEq, Obj.cells.injEq] at e; exact h3 e.2.1
  · simp at e
theorem not_isK {cs : Array Value} {t : TypeId} (h1 : t ≠ 154) : ¬ isK (some (.cells cs t (0, 0))) := by
  rintro ⟨c, e⟩
  simp only [Option.some.injEq, Obj.cells.injEq] at e
  exact h1 e.2.1
theorem map_not_isK {w : World} {b n : Nat} {f : EntK} (h : MapK w b n f) : ¬ isK w.heap[b]? := by
  obtain ⟨es, c, h⟩ := h.block
  rw [h]
  rintro ⟨c, e⟩
  simp at e
theorem cells_inj {w : World} {b : Nat} {cs cs' : Array Value} {t t' : TypeId} (h : w.heap[b]? = some (.cells cs t (0, 0))) (k : w.heap[b]? = some (.cells cs' t' (0, 0))) : cs = cs' ∧ t = t' := by
  rw [h] at k
  simp only [Option.some.injEq, Obj.cells.injEq] at k
  exact ⟨k.1, k.2.1⟩

theorem PartC.frame {Q : Option Obj → Prop} {w w' : World} {V : Value} {o : Option (Nat × Nat)} (h : PartC w V o) (hf : Fr Q w w') (hq : ∀ cs, ¬ Q (some (.cells cs 132 (0, 0)))) : PartC w' V o := by
  cases o with
  | none => exact h
  | some p =>
    obtain ⟨x, y⟩ := p
    obtain ⟨g, h1, h2⟩ := h
    exact ⟨g, h1, hf.cells h2 (hq _)⟩
theorem KnotC.keep {Q : Option Obj → Prop} {w0 w w' : World} {b : Nat} {t : Tm} {tied : Option Nat} {parts : Option (Nat × Nat)} (h : KnotC w0 w b t tied parts) (hf : Fr Q w w') (hq : ∀ cs, ¬ Q (some (.cells cs 132 (0, 0)))) (hb : w'.heap[b]? = w.heap[b]?) : KnotC w0 w' b t tied parts := by
  obtain ⟨h1, a, c, PV, h2, h3, h4⟩ := h
  exact ⟨h1, a, c, PV, hb.trans h2, h3, h4.frame hf hq⟩
theorem StepC.frame {w w' : World} {p : Nat} {v : Value} {q : Nat × Nat} (h : StepC w p v q) (hf : Fr isM w w') : StepC w' p v q := by
  obtain ⟨x, y, z, e, h1, h2, h3⟩ := h
  exact ⟨x, y, z, e, hf.cells h1 (not_isM (by decide) (by decide) (by decide)), hf.cells h2 (not_isM (by decide) (by decide) (by decide)), hf.cells h3 (not_isM (by decide) (by decide) (by decide))⟩
theorem StepsC.frame {w w' : World} {p : Nat} {xs : List Value} {st : List (Nat × Nat)} (h : StepsC w p xs st) (hf : Fr isM w w') : StepsC w' p xs st := ⟨h.1, fun j v q h1 h2 => (h.2 j v q h1 h2).frame hf⟩
theorem rowT_kept {w w' : World} {base : Nat} {e : TypeId} {v : Value} {xs : List Value} (h : Row w base e v xs) (hb : ∀ (k : Nat) (cs : Array Value), w.heap[k]? = some (Obj.cells cs e (0, 0)) → w'.heap[k]? = w.heap[k]?) : Row w' base e v xs := by
  refine ⟨h.1, ?_⟩
  rcases h.2 with hn | ⟨g, cap, cur, rfl, h1, h2, h3⟩
  · exact .inl hn
  · exact .inr ⟨g, cap, cur, rfl, h1, by rw [hb g cur h2]; exact h2, h3⟩
/-- The solver's block, its map, its stack, where only knots are written. -/
theorem HeadC.frame {w0 w w' : World} {p : Nat} {s : St} {mb : Nat} {SV : Value} {xs : List Value} {n : Nat} (h : HeadC w0 p s mb SV xs n w) (hf : Fr isK w w') : HeadC w0 p s mb SV xs n w' := by
  obtain ⟨es, clock, hm⟩ := h.map.block
  exact ⟨hf.cells h.cell (not_isK (by decide)), h.mlo, h.map.frame (hf.block _ (lt_of_cells hm) (map_not_isK h.map)), h.count,
    rowT_kept h.row fun k cs hk => hf.block k (lt_of_cells hk) (by rw [hk]; exact not_isK (by decide)), h.steps.frame hf.wide⟩
theorem KnotC.lt {w0 w : World} {b : Nat} {t : Tm} {tied : Option Nat} {parts : Option (Nat × Nat)} (h : KnotC w0 w b t tied parts) : b < w.heap.size := by obtain ⟨_, _, _, _, h2, _⟩ := h; exact lt_of_cells h2
theorem KnotC.isK {w0 w : World} {b : Nat} {t : Tm} {tied : Option Nat} {parts : Option (Nat × Nat)} (h : KnotC w0 w b t tied parts) : isK w.heap[b]? := by obtain ⟨_, _, _, _, h2, _⟩ := h; exact ⟨_, h2⟩
theorem SolT.kept {w0 w w' : World} {p : Nat} {s : St} {tie : Nat → Option Nat} (h : SolT w0 p s tie w) (hb : Below w.heap.size w w') : SolT w0 p s tie w' := by
  obtain ⟨mb, SV, xs, n, hh⟩ := h.head
  exact ⟨h.old.trans (hb.mono h.old.size), h.tieD, h.chain, fun b hD => (h.knots b hD).keep (Fr.of_below hb : Fr isK w w') (fun _ => not_isK (by decide)) (hb.block b (h.knots b hD).lt), h.plo, mb, SV, xs, n, hh.frame (Fr.of_below hb)⟩
theorem SolW.kept {w0 w w' : World} {p : Nat} {s : St} (h : SolW w0 p s w) (hb : Below w.heap.size w w') : SolW w0 p s w' := by
  obtain ⟨tie, h⟩ := h
  exact ⟨tie, h.kept hb⟩
theorem only_one (w : World) (b o : Nat) (u : Value) : Only (fun k => k = b) w (w.setCell ⟨b, o, none⟩ u) := ⟨rfl, rfl, rfl, by simp, fun k _ hk => Below.heap_setCell _ _ _ _ hk⟩
/-- A knot's tie is set. -/
theorem KnotC.tied {w0 w : World} {b : Nat} {t : Tm} {tied : Option Nat} {parts : Option (Nat × Nat)} (h : KnotC w0 w b t tied parts) (c : Nat) : KnotC w0 (w.setCell ⟨b, 0, none⟩ (ptrN c)) b t (some c) parts := by
  have hk := h.isK
  obtain ⟨h1, a, cc, PV, h2, h3, h4⟩ := h
  refine ⟨h1, a, cc, PV, ?_, h3, h4.frame (Fr.one (only_one w b 0 (ptrN c)) hk : Fr Go.Proofs.Ytbbgiefnmihmdaa.isK _ _) fun _ => not_isK (by decide)⟩
  have := heap_setCell_same w b 0 _ _ (ptrN c) h2
  simpa [ptrO] using this
theorem SolT.tied {w0 w : World} {p : Nat} {s s' : St} {tie : Nat → Option Nat} (h : SolT w0 p s tie w) {b c : Nat} (hb : b ∈ s.D) (hc : c ∈ s.D) (hD : s'.D = s.D) (htm : s'.tm = s.tm) (hpa : s'.parts = s.parts) (hM : s'.M = s.M) (hS : s'.steps = s.steps) (hB : s'.bound = s.bound)
    (hch : ∀ x ∈ s.D, ∃ n, Chain (updN tie b (some c)) x n (s'.rep x)) : SolT w0 p s' (updN tie b (some c)) (w.setCell ⟨b, 0, none⟩ (ptrN c)) := by
  have hkb := h.knots b hb
  have ho := only_one w b 0 (ptrN c)
  have hf : Fr isK w (w.setCell ⟨b, 0, none⟩ (ptrN c)) := Fr.one ho hkb.isK
  obtain ⟨mb, SV, xs, n, hh⟩ := h.head
  have hh' := hh.frame hf
  refine ⟨h.old.trans (ho.below (fun k e => by subst e; exact hkb.1) h.old.size), fun x hx d hd => ?_, fun x hx => ?_, fun x hx => ?_, h.plo, mb, SV, xs, n, ⟨by rw [hB]; exact hh'.cell, hh'.mlo, by rw [hM]; exact hh'.map, by rw [hD]; exact hh'.count, hh'.row, by rw [hS]; exact hh'.steps⟩⟩
  · rw [hD] at hx ⊢
    by_cases e : x = b
    · subst e; rw [updN_self] at hd; cases hd; exact hc
    · rw [updN_ne _ _ e] at hd; exact h.tieD x hx d hd
  · rw [hD] at hx; exact hch x hx
  · rw [hD] at hx
    rw [htm, hpa]
    by_cases e : x = b
    · subst e; rw [updN_self]; exact hkb.tied c
    · rw [updN_ne _ _ e]
      exact (h.knots x hx).keep hf (fun _ => not_isK (by decide)) (ho.block x (h.knots x hx).lt e)
/-- A knot's cells. -/
theorem KnotC.cells {w0 w : World} {b : Nat} {t : Tm} {tied : Option Nat} {parts : Option (Nat × Nat)} (h : KnotC w0 w b t tied parts) : ∃ a c PV, ArgsS w0 (fun k => k < w0.heap.size) (.slice a t.args.length c) t.args ∧ PartC w PV parts ∧
    w.cell? ⟨b, 0, none⟩ = some (ptrO tied) ∧ w.cell? ⟨b, 1, none⟩ = some (.int .i64 t.kind) ∧ w.cell? ⟨b, 2, none⟩ = some (.int .i64 t.num) ∧ w.cell? ⟨b, 3, none⟩ = some (.string t.name) ∧ w.cell? ⟨b, 4, none⟩ = some (.slice a t.args.length c) ∧ w.cell? ⟨b, 5, none⟩ = some PV ∧ ∀ j, w.frozen? ⟨b, j, none⟩ = false := by
  obtain ⟨h1, a, c, PV, h2, h3, h4⟩ := h
  exact ⟨a, c, PV, h3, h4, cell_of_row w b 0 _ _ _ h2, cell_of_row w b 1 _ _ _ h2, cell_of_row w b 2 _ _ _ h2, cell_of_row w b 3 _ _ _ h2, cell_of_row w b 4 _ _ _ h2, cell_of_row w b 5 _ _ _ h2, fun j => frozen_of_row w b j _ _ h2⟩
theorem HeadC.cells {w0 w : World} {p : Nat} {s : St} {mb : Nat} {SV : Value} {xs : List Value} {n : Nat} (h : HeadC w0 p s mb SV xs n w) : w.cell? ⟨p, 0, none⟩ = some (.map (some mb)) ∧ w.cell? ⟨p, 1, none⟩ = some (.int .i64 s.bound) ∧ w.cell? ⟨p, 2, none⟩ = some SV ∧ ∀ j, w.frozen? ⟨p, j, none⟩ = false :=
  ⟨cell_of_row w p 0 _ _ _ h.cell, cell_of_row w p 1 _ _ _ h.cell, cell_of_row w p 2 _ _ _ h.cell, fun j => frozen_of_row w p j _ _ h.cell⟩
end Go.Proofs.Ytbbgiefnmihmdaa

namespace Go.Proofs.Ytbbgiefnmihmdaa
open Go.RowKit
set_option linter.unusedVariables false
set_option linter.unusedSimpArgs false

theorem HeadC.ne {w0 w : World} {p : Nat} {s : St} {mb : Nat} {SV : Value} {xs : List Value} {n : Nat} (h : HeadC w0 p s mb SV xs n w) {b : Nat} (hb : isK w.heap[b]?) : ¬ b = p ∧ ¬ b = mb ∧ ¬ SV.ownBlock = some b := by
  obtain ⟨cs, hb⟩ := hb
  refine ⟨fun e => ?_, fun e => ?_, fun e => ?_⟩
  · subst e
    exact absurd (cells_inj hb h.cell).2 (by decide)
  · subst e
    obtain ⟨es, c, hm⟩ := h.map.block
    rw [hb] at hm
    simp at hm
  · rcases h.row.2 with ⟨rfl, _⟩ | ⟨g, cap, cur, rfl, h1, h2, h3⟩
    · simp [Value.ownBlock] at e
    · have : g = b := by simpa [Value.ownBlock] using e
      subst this
      exact absurd (cells_inj hb h2).2 (by decide)
theorem HeadC.p_ne {w0 w : World} {p : Nat} {s : St} {mb : Nat} {SV : Value} {xs : List Value} {n : Nat} (h : HeadC w0 p s mb SV xs n w) : ¬ mb = p ∧ ¬ SV.ownBlock = some p ∧ ¬ SV.ownBlock = some mb := by
  obtain ⟨es, c, hm⟩ := h.map.block
  refine ⟨fun e => ?_, fun e => ?_, fun e => ?_⟩
  · subst e
    rw [h.cell] at hm
    simp at hm
  · rcases h.row.2 with ⟨rfl, _⟩ | ⟨g, cap, cur, rfl, h1, h2, h3⟩
    · simp [Value.ownBlock] at e
    · have : g = p := by simpa [Value.ownBlock] using e
      subst this
      exact absurd (cells_inj h.cell h2).2 (by decide)
  · rcases h.row.2 with ⟨rfl, _⟩ | ⟨g, cap, cur, rfl, h1, h2, h3⟩
    · simp [Value.ownBlock] at e
    · have : g = mb := by simpa [Value.ownBlock] using e
      subst this
      rw [h2] at hm
      simp at hm
theorem SolT.change {w0 w w' : World} {p : Nat} {s s' : St} {tie : Nat → Option Nat} (h : SolT w0 p s tie w) (hf : Fr isM w w') (hB : Below w0.heap.size w w') (hk : ∀ b ∈ s.D, w'.heap[b]? = w.heap[b]?)
    (hh : ∃ mb SV xs n, HeadC w0 p s' mb SV xs n w') (hD : s'.D = s.D) (htm : s'.tm = s.tm) (hre : s'.rep = s.rep) (hpa : s'.parts = s.parts) : SolT w0 p s' tie w' := by
  refine ⟨h.old.trans hB, by rw [hD]; exact h.tieD, by rw [hD, hre]; exact h.chain, fun b hb => ?_, h.plo, hh⟩
  rw [hD] at hb
  rw [htm, hpa]
  exact (h.knots b hb).keep hf (fun _ => not_isM (by decide) (by decide) (by decide)) (hk b hb)

/-! A knot more. -/
theorem chain_fresh {tie tie' : Nat → Option Nat} {D : List Nat} (hD : ∀ b ∈ D, ∀ c, tie b = some c → c ∈ D) (he : ∀ b ∈ D, tie' b = tie b) {x n r : Nat} (h : Chain tie x n r) : x ∈ D → Chain tie' x n r := by
  induction h with
  | nil h => intro hx; exact .nil ((he _ hx).trans h)
  | cons h _ ih => intro hx; exact .cons ((he _ hx).trans h) (ih (hD _ hx _ h))
theorem SolT.fresh {w0 w w' : World} {p : Nat} {s : St} {tie : Nat → Option Nat} (h : SolT w0 p s tie w) {b : Nat} {t : Tm} (hb : w.heap.size ≤ b) (hf : Fr isM w w') (hB : Below w0.heap.size w w') (hk : ∀ b ∈ s.D, w'.heap[b]? = w.heap[b]?)
    (hn : KnotC w0 w' b t none none) (hh : ∃ mb SV xs n, HeadC w0 p (newS s b t) mb SV xs n w') : SolT w0 p (newS s b t) (updN tie b none) w' ∧ ¬ b ∈ s.D := by
  have hbD : ¬ b ∈ s.D := fun hD => by have := (h.knots b hD).lt; omega
  have hne : ∀ x ∈ s.D, ¬ x = b := fun x hx e => hbD (e ▸ hx)
  have he : ∀ x ∈ s.D, updN tie b none x = tie x := fun x hx => updN_ne _ _ (hne x hx)
  refine ⟨⟨h.old.trans hB, fun x hx c hc => ?_, fun x hx => ?_, fun x hx => ?_, h.plo, hh⟩, hbD⟩
  · rcases List.mem_cons.1 hx with rfl | hx
    · rw [updN_self] at hc; cases hc
    · rw [he x hx] at hc; exact List.mem_cons_of_mem _ (h.tieD x hx c hc)
  · rcases List.mem_cons.1 hx with rfl | hx
    · rw [(new_self s x t).2.1]; exact ⟨0, .nil (updN_self _ _ _)⟩
    · rw [(new_old t hbD hx).2.1]
      obtain ⟨n, hn⟩ := h.chain x hx
      exact ⟨n, chain_fresh h.tieD he hn hx⟩
  · rcases List.mem_cons.1 hx with rfl | hx
    · rw [(new_self s x t).1, (new_self s x t).2.2, updN_self]; exact hn
    · rw [(new_old t hbD hx).1, (new_old t hbD hx).2.2, he x hx]
      exact (h.knots x hx).keep hf (fun _ => not_isM (by decide) (by decide) (by decide)) (hk x hx)
/-- A knot just laid. -/
theorem knot_laid {w0 w : World} {t : Tm} {a : Option Addr} {c : Nat} (hA : ArgsS w0 (fun k => k < w0.heap.size) (.slice a t.args.length c) t.args) (hlo : w0.heap.size ≤ w.heap.size) :
    KnotC w0 (w.alloc (.cells #[.pointer none, .int .i64 t.kind, .int .i64 t.num, .string t.name, .slice a t.args.length c, .slice none 0 0] 154)) w.heap.size t none none :=
  ⟨hlo, a, c, .slice none 0 0, heap_new w _, hA, rfl⟩
theorem KnotC.kept {w0 w w' : World} {b : Nat} {t : Tm} {tied : Option Nat} {parts : Option (Nat × Nat)} (h : KnotC w0 w b t tied parts) (hb : Below w.heap.size w w') : KnotC w0 w' b t tied parts :=
  h.keep (Fr.of_below hb : Fr Go.Proofs.Ytbbgiefnmihmdaa.isK w w') (fun _ => not_isK (by decide)) (hb.block b h.lt)
/-- A knot that stands for no variable, or for one that the map has not. -/
theorem SolT.new_other {w0 w w' : World} {p : Nat} {s : St} {tie : Nat → Option Nat} (h : SolT w0 p s tie w) {b : Nat} {t : Tm} (hb : w.heap.size ≤ b) (hB : Below w.heap.size w w') (hn : KnotC w0 w' b t none none) (hk : ¬ t.kind = 1) : SolW w0 p (newS s b t) w' ∧ ¬ b ∈ s.D := by
  obtain ⟨mb, SV, xs, n, hh⟩ := h.head
  have h2 := hh.frame (Fr.of_below hB)
  have hM : (newS s b t).M = s.M := funext fun v => if_neg fun e => hk e.1
  obtain ⟨r1, r2⟩ := h.fresh hb (Fr.of_below hB) (hB.mono h.old.size) (fun x hx => hB.block x (h.knots x hx).lt) hn ⟨mb, SV, xs, n, ⟨h2.cell, h2.mlo, by rw [hM]; exact h2.map, Nat.le_succ_of_le h2.count, h2.row, h2.steps⟩⟩
  exact ⟨⟨_, r1⟩, r2⟩
theorem SolT.new_var {w0 w w1 w2 : World} {p : Nat} {s : St} {tie : Nat → Option Nat} (h : SolT w0 p s tie w) {mb : Nat} {SV : Value} {xs : List Value} {n : Nat} (hh : HeadC w0 p s mb SV xs n w) {b : Nat} {t : Tm} (hb : w.heap.size ≤ b) (hB : Below w.heap.size w w1) (hn : KnotC w0 w1 b t none none) (hk : t.kind = 1)
    (hg : w1.grownBy w2 (some mb)) (hm : MapK w2 mb (n + 1) (updK s.M t.num b)) : SolW w0 p (newS s b t) w2 ∧ ¬ b ∈ s.D ∧ Fr isP w w2 := by
  have h2 := hh.frame (Fr.of_below hB)
  have hM : (newS s b t).M = updK s.M t.num b := funext fun v => by
    show (if t.kind = 1 ∧ v = t.num then some b else s.M v) = if v = t.num then some b else s.M v
    by_cases e : v = t.num
    · rw [if_pos ⟨hk, e⟩, if_pos e]
    · rw [if_neg (fun q => e q.2), if_neg e]
  have hot : ∀ k, k < w1.heap.size → ¬ k = mb → w2.heap[k]? = w1.heap[k]? := fun k hk he => hg.block k hk fun e => he (by cases e; rfl)
  have hfp : Fr isP w1 w2 := ⟨hg.os, hg.tape, hg.output, hg.size, fun k hk hq => hot k hk fun e => hq (by rw [e]; exact h2.map.block)⟩
  have hf2 : Fr isM w1 w2 := hfp.wideP
  have hf : Fr isM w w2 := (Fr.of_below hB).trans hf2
  have hB2 : Below w0.heap.size w w2 := (hB.mono h.old.size).trans ⟨hg.os, hg.tape, hg.output, hg.size, fun k hk => hot k (Nat.lt_of_lt_of_le hk (Nat.le_trans h.old.size hB.size)) fun e => by have := h2.mlo; omega⟩
  have hne := h2.p_ne
  obtain ⟨r1, r2⟩ := h.fresh (t := t) hb hf hB2 (fun x hx => by
    have hx1 := (hB.block x (h.knots x hx).lt)
    have hlt : x < w1.heap.size := by
      obtain ⟨cs, e⟩ := (h.knots x hx).isK
      rw [← hx1] at e
      exact lt_of_cells e
    exact (hot x hlt (h2.ne (by rw [hx1]; exact (h.knots x hx).isK)).2.1).trans hx1)
    (hn.keep hf2 (fun _ => not_isM (by decide) (by decide) (by decide)) (hot b hn.lt (h2.ne hn.isK).2.1))
    ⟨mb, SV, xs, n + 1, ⟨(hot p (lt_of_cells h2.cell) (fun e => hne.1 e.symm)).trans h2.cell, h2.mlo, by rw [hM]; exact hm, Nat.succ_le_succ h2.count,
      rowT_kept h2.row (fun k cs hk => hot k (lt_of_cells hk) fun e => by obtain ⟨es, c, e2⟩ := h2.map.block; rw [e, e2] at hk; simp at hk), h2.steps.frame hf2⟩⟩
  exact ⟨⟨_, r1⟩, r2, (Fr.of_below hB).trans hfp⟩

/-! The parts of a knot laid. -/
theorem only_isK {w : World} {b o : Nat} {u : Value} (hb : isK w.heap[b]?) : Fr isK w (w.setCell ⟨b, o, none⟩ u) := Fr.one (only_one w b o u) hb
theorem SolT.part {w0 w : World} {p : Nat} {s : St} {tie : Nat → Option Nat} (h : SolT w0 p s tie w) {b x y g : Nat} (hb : b ∈ s.D) (hg : w.heap[g]? = some (.cells #[ptrN x, ptrN y] 132 (0, 0))) :
    SolT w0 p (partS s b x y) tie (w.setCell ⟨b, 5, none⟩ (.slice (some ⟨g, 0, none⟩) 2 2)) := by
  have hkb := h.knots b hb
  have ho := only_one w b 5 (.slice (some ⟨g, 0, none⟩) 2 2)
  have hf : Fr isK w (w.setCell ⟨b, 5, none⟩ (.slice (some ⟨g, 0, none⟩) 2 2)) := only_isK hkb.isK
  obtain ⟨mb, SV, xs, n, hh⟩ := h.head
  have hh' := hh.frame hf
  refine ⟨h.old.trans (ho.below (fun k e => by subst e; exact hkb.1) h.old.size), h.tieD, h.chain, fun c hc => ?_, h.plo, mb, SV, xs, n, ⟨hh'.cell, hh'.mlo, hh'.map, hh'.count, hh'.row, hh'.steps⟩⟩
  show KnotC w0 _ c (s.tm c) (tie c) (updN s.parts b (some (x, y)) c)
  by_cases e : c = b
  · subst e
    rw [updN_self]
    obtain ⟨h1, a, cc, PV, h2, h3, h4⟩ := hkb
    refine ⟨h1, a, cc, .slice (some ⟨g, 0, none⟩) 2 2, ?_, h3, g, rfl, hf.cells hg (not_isK (by decide))⟩
    have := heap_setCell_same w c 5 _ _ (.slice (some ⟨g, 0, none⟩) 2 2) h2
    simpa using this
  · rw [updN_ne _ _ e]
    exact (h.knots c hc).keep hf (fun _ => not_isK (by decide)) (ho.block c (h.knots c hc).lt e)

/-! The stack. -/
theorem Row.init {w : World} {base : Nat} {e : TypeId} {a : Option Addr} {n cap : Nat} {xs : List Value} {x : Value} (h : Row w base e (.slice a n cap) (xs ++ [x])) : Row w base e (.slice a xs.length cap) xs ∧ n = xs.length + 1 := by
  obtain ⟨h1, h2 | ⟨g, c, cur, e1, h2, h3, h4, h5, h6, h7⟩⟩ := h
  · simp at h2
  · simp only [Value.slice.injEq] at e1
    obtain ⟨rfl, rfl, rfl⟩ := e1
    have hn : (xs ++ [x]).length = xs.length + 1 := by simp
    refine ⟨⟨by simp, .inr ⟨g, cap, cur, rfl, h2, h3, by omega, h5, h6, ?_⟩⟩, hn⟩
    rw [hn] at h7
    have : (cur.toList.take ((xs.length + 1) * 1)).take (xs.length * 1) = xs := by rw [h7]; simp
    rw [List.take_take] at this
    rwa [Nat.min_eq_left (by omega)] at this
theorem StepsC.init {w : World} {p : Nat} {xs : List Value} {st : List (Nat × Nat)} {q : Nat × Nat} (h : StepsC w p xs (st ++ [q])) : ∃ ys v, xs = ys ++ [v] ∧ StepsC w p ys st ∧ StepC w p v q := by
  obtain ⟨h1, h2⟩ := h
  rcases List.eq_nil_or_concat xs with rfl | ⟨ys, v, rfl⟩
  · simp at h1
  · simp only [List.concat_eq_append] at h1 h2 ⊢
    have hl : ys.length = st.length := by simpa using h1
    refine ⟨ys, v, rfl, ⟨hl, fun j u r hu hr => ?_⟩, h2 ys.length v q (by simp) (by rw [hl]; simp)⟩
    have hj := (List.getElem?_eq_some_iff.1 hu).1
    exact h2 j u r (by rw [List.getElem?_append_left hj]; exact hu) (by rw [List.getElem?_append_left (by omega)]; exact hr)
theorem StepsC.snoc {w : World} {p : Nat} {xs : List Value} {st : List (Nat × Nat)} {q : Nat × Nat} {v : Value} (h : StepsC w p xs st) (hv : StepC w p v q) : StepsC w p (xs ++ [v]) (st ++ [q]) := by
  refine ⟨by simp [h.1], fun j u r hu hr => ?_⟩
  have hl := h.1
  by_cases hj : j < xs.length
  · rw [List.getElem?_append_left hj] at hu
    rw [List.getElem?_append_left (by omega)] at hr
    exact h.2 j u r hu hr
  · have hj2 := (List.getElem?_eq_some_iff.1 hu).1
    have : j = xs.length := by simp at hj2; omega
    subst this
    simp at hu
    rw [hl] at hr
    simp at hr
    subst hu hr
    exact hv
/-- The solver's block written. -/
theorem head_isM {w0 w : World} {p : Nat} {s : St} {mb : Nat} {SV : Value} {xs : List Value} {n : Nat} (h : HeadC w0 p s mb SV xs n w) : isM w.heap[p]? := .inr (.inl ⟨_, h.cell⟩)
theorem HeadC.written {w0 w : World} {p : Nat} {s s' : St} {mb : Nat} {SV SV' : Value} {xs ys : List Value} {n o : Nat} {u : Value} (h : HeadC w0 p s mb SV xs n w) (hr : Row w w0.heap.size 134 SV' ys) (hs : StepsC w p ys s'.steps) (hM : s'.M = s.M) (hD : s'.D = s.D)
    (hc : #[Value.map (some mb), .int .i64 s.bound, SV].setIfInBounds o u = #[.map (some mb), .int .i64 s'.bound, SV']) : HeadC w0 p s' mb SV' ys n (w.setCell ⟨p, o, none⟩ u) ∧ Fr isM w (w.setCell ⟨p, o, none⟩ u) := by
  have ho := only_one w p o u
  have hf : Fr isM w (w.setCell ⟨p, o, none⟩ u) := Fr.one ho (head_isM h)
  obtain ⟨es, c, hm⟩ := h.map.block
  refine ⟨⟨?_, h.mlo, by rw [hM]; exact h.map.frame (ho.block mb (lt_of_cells hm) h.p_ne.1), by rw [hD]; exact h.count, rowT_kept hr fun k cs hk => ho.block k (lt_of_cells hk) fun e => ?_, hs.frame hf⟩, hf⟩
  · have := heap_setCell_same w p o _ _ u h.cell
    rw [hc] at this
    exact this
  · subst e
    exact absurd (cells_inj hk h.cell).2 (by decide)
/-- The last equation taken from the stack. -/
theorem SolT.pop {w0 w : World} {p : Nat} {s : St} {tie : Nat → Option Nat} (h : SolT w0 p s tie w) {mb : Nat} {a : Option Addr} {m cap : Nat} {ys : List Value} {v : Value} {n : Nat} {r : List (Nat × Nat)} {q : Nat × Nat} (hs : s.steps = r ++ [q]) (hh : HeadC w0 p s mb (.slice a m cap) (ys ++ [v]) n w) (hst : StepsC w p ys r) :
    SolT w0 p (popS s r) tie (w.setCell ⟨p, 2, none⟩ (.slice a ys.length cap)) ∧ Fr isM w (w.setCell ⟨p, 2, none⟩ (.slice a ys.length cap)) := by
  obtain ⟨h1, h2⟩ := hh.written (s' := popS s r) (SV' := .slice a ys.length cap) (ys := ys) (o := 2) (u := .slice a ys.length cap) hh.row.init.1 hst rfl rfl rfl
  have ho := only_one w p 2 (.slice a ys.length cap)
  exact ⟨h.change h2 (ho.below (fun k e => by subst e; exact h.plo) h.old.size) (fun b hb => ho.block b (h.knots b hb).lt (hh.ne (h.knots b hb).isK).1) ⟨mb, _, _, n, h1⟩ rfl rfl rfl rfl, h2⟩
/-- An equation pushed: its closure on the stack that is or was the solver's. -/
theorem SolT.pushed {w0 w W w' : World} {p : Nat} {s : St} {tie : Nat → Option Nat} (h : SolT w0 p s tie w) {mb : Nat} {SV SV' : Value} {xs : List Value} {v : Value} {n x y : Nat} (hh : HeadC w0 p s mb SV xs n w) (hB : Below w.heap.size w W) (hg : W.grownBy w' SV.ownBlock) (hr : Row w' w0.heap.size 134 SV' (xs ++ [v])) (hv : StepC W p v (x, y)) :
    SolT w0 p (pushS s x y) tie (w'.setCell ⟨p, 2, none⟩ SV') ∧ Fr isM w (w'.setCell ⟨p, 2, none⟩ SV') := by
  have hhW := hh.frame (Fr.of_below hB)
  have hTW := h.kept hB
  have hf : Fr isM W w' := ⟨hg.os, hg.tape, hg.output, hg.size, fun k hk hq => hg.block k hk fun e => hq (by
    rcases hhW.row.2 with ⟨rfl, _⟩ | ⟨g, cap, cur, rfl, h1, h2, h3⟩
    · simp [Value.ownBlock] at e
    · have : k = g := by simpa [Value.ownBlock] using e
      subst this
      exact .inr (.inr (.inl ⟨_, h2⟩)))⟩
  have hot : ∀ k, k < W.heap.size → ¬ SV.ownBlock = some k → w'.heap[k]? = W.heap[k]? := fun k hk he => hg.block k hk fun e => he e.symm
  have hB0 : Below w0.heap.size W w' := ⟨hg.os, hg.tape, hg.output, hg.size, fun k hk => hot k (Nat.lt_of_lt_of_le hk hTW.old.size) fun e => by have := hhW.row.ge k e; omega⟩
  obtain ⟨es, c, hm⟩ := hhW.map.block
  have hh' : HeadC w0 p s mb SV' (xs ++ [v]) n w' → True := fun _ => trivial
  have hcell : w'.heap[p]? = some (.cells #[.map (some mb), .int .i64 s.bound, SV] 130 (0, 0)) := (hot p (lt_of_cells hhW.cell) hhW.p_ne.2.1).trans hhW.cell
  have hst := (hhW.steps.frame hf).snoc (hv.frame hf)
  have ho := only_one w' p 2 SV'
  have hpM : isM w'.heap[p]? := .inr (.inl ⟨_, hcell⟩)
  have hf2 : Fr isM w' (w'.setCell ⟨p, 2, none⟩ SV') := Fr.one ho hpM
  have hmlt : mb < w'.heap.size := Nat.lt_of_lt_of_le (lt_of_cells hm) hg.size
  have hmap : MapK w' mb n s.M := hhW.map.frame (hot mb (lt_of_cells hm) hhW.p_ne.2.2)
  have hhead : HeadC w0 p (pushS s x y) mb SV' (xs ++ [v]) n (w'.setCell ⟨p, 2, none⟩ SV') := by
    refine ⟨?_, hh.mlo, hmap.frame (ho.block mb hmlt hhW.p_ne.1), hh.count, rowT_kept hr fun k cs hk => ho.block k (lt_of_cells hk) fun e => ?_, hst.frame hf2⟩
    · have := heap_setCell_same w' p 2 _ _ SV' hcell
      simpa [pushS] using this
    · subst e
      exact absurd (cells_inj hk hcell).2 (by decide)
  have hfin : Fr isM W (w'.setCell ⟨p, 2, none⟩ SV') := hf.trans hf2
  refine ⟨hTW.change hfin (hB0.trans (ho.below (fun k e => by subst e; exact h.plo) (Nat.le_trans hTW.old.size hg.size))) (fun b hb => ?_) ⟨mb, SV', _, n, hhead⟩ rfl rfl rfl rfl, (Fr.of_below hB).trans hfin⟩
  have hk := (hTW.knots b hb)
  have hne := hhW.ne hk.isK
  exact (ho.block b (Nat.lt_of_lt_of_le hk.lt hg.size) hne.1).trans (hot b hk.lt hne.2.2)
/-- A variable bound, or a pair tied: the knot's tie, then the count. -/
theorem SolT.bound {w0 w : World} {p : Nat} {s : St} {tie : Nat → Option Nat} (h : SolT w0 p s tie w) {a b : Nat} (ha : a ∈ s.D) (hb : b ∈ s.D) (hra : s.rep a = a) (hrb : s.rep b = b) (hab : a ≠ b) :
    SolT w0 p (linkS s s.steps a b s.bound) (updN tie a (some b)) (w.setCell ⟨a, 0, none⟩ (ptrN b)) ∧ Fr isK w (w.setCell ⟨a, 0, none⟩ (ptrN b)) := by
  have root : ∀ {x}, x ∈ s.D → s.rep x = x → tie x = none := fun {x} hx e => by
    obtain ⟨n, hn⟩ := h.chain x hx
    rw [e] at hn
    exact hn.end
  refine ⟨h.tied ha hb rfl rfl rfl rfl rfl rfl fun x hx => ?_, only_isK (h.knots a ha).isK⟩
  obtain ⟨n, hn⟩ := h.chain x hx
  obtain ⟨m, hm⟩ := chain_link (root ha hra) (root hb hrb) hab hn
  exact ⟨m, by rw [link_rep]; exact hm⟩
theorem SolT.counted {w0 w : World} {p : Nat} {s : St} {tie : Nat → Option Nat} (h : SolT w0 p s tie w) :
    SolT w0 p { s with bound := s.bound + 1 } tie (w.setCell ⟨p, 1, none⟩ (.int .i64 ((s.bound : Int) + 1))) ∧ Fr isM w (w.setCell ⟨p, 1, none⟩ (.int .i64 ((s.bound : Int) + 1))) := by
  obtain ⟨mb, SV, xs, n, hh⟩ := h.head
  obtain ⟨h1, h2⟩ := hh.written (s' := { s with bound := s.bound + 1 }) (SV' := SV) (ys := xs) (o := 1) (u := .int .i64 ((s.bound : Int) + 1)) hh.row hh.steps rfl rfl (by simp)
  have ho := only_one w p 1 (.int .i64 ((s.bound : Int) + 1))
  exact ⟨h.change h2 (ho.below (fun k e => by subst e; exact h.plo) h.old.size) (fun b hb => ho.block b (h.knots b hb).lt (hh.ne (h.knots b hb).isK).1) ⟨mb, _, _, n, h1⟩ rfl rfl rfl rfl, h2⟩
end Go.Proofs.Ytbbgiefnmihmdaa

namespace Go.Proofs.Ytbbgiefnmihmdaa
open Go.RowKit
set_option linter.unusedVariables false
set_option linter.unusedSimpArgs false

set_option maxRecDepth 100000 in
set_option maxHeartbeats 2000000 in
theorem root_any (w0 : World) (p : Nat) (s : St) (b : Nat) (w : World) (h : SolW w0 p s w) (hb : b ∈ s.D) :
    Calls Try.prog 149 #[.pointer (some ⟨b, 0, none⟩)] w fun e w' => e = .returned (.pointer (some ⟨s.rep b, 0, none⟩)) ∧ SolW w0 p s w' ∧ Only (fun k => k ∈ s.D) w w' := by
  obtain ⟨tie, hT⟩ := h
  obtain ⟨n, hn⟩ := hT.chain b hb
  have H0 : Hid (b ∈ s.D ∧ SolT w0 p s tie w ∧ Chain tie b n (s.rep b)) := Lib.hid ⟨hb, hT, hn⟩
  generalize s.rep b = r at H0 ⊢
  clear hT hn hb
  go_enter Try.func149, Try.ntmps149
  go_wp2
  go_loopg [0] n (fun gk kv wr => ∃ (k : Nat) (tie : Nat → Option Nat), kv = .pointer (some ⟨k, 0, none⟩) ∧ Hid (k ∈ s.D ∧ SolT w0 p s tie wr ∧ Chain tie k gk r ∧ Only (fun k => k ∈ s.D) w wr))
  case atStart => exact ⟨b, tie, rfl, Lib.hid ⟨H0.out.1, H0.out.2.1, H0.out.2.2, Only.refl _ _⟩⟩
  case round =>
    obtain ⟨k, tk, rfl, HR⟩ := hrel
    obtain ⟨a, c, PV, _, _, c0, _, _, _, _, _, f⟩ := (HR.out.2.1.knots k HR.out.1).cells
    have f0 := f 0
    clear f H0
    cases ht : tk k with
    | none =>
      rw [ht] at c0
      simp only [ptrO] at c0
      have HE : Hid (k = r ∧ SolW w0 p s wr ∧ Only (fun k => k ∈ s.D) w wr) := Lib.hid ⟨((Chain.nil ht).fn HR.out.2.2.1).2, ⟨_, HR.out.2.1⟩, HR.out.2.2.2⟩
      clear ht HR f0
      go_wp2
      go_ret
      exact ⟨by rw [HE.out.1]; rfl, HE.out.2.1, HE.out.2.2⟩
    | some j =>
      rw [ht] at c0
      simp only [ptrO] at c0
      have hjD := HR.out.2.1.tieD k HR.out.1 j ht
      obtain ⟨m, hm⟩ : ∃ m, gk = m + 1 ∧ Chain tk j m r := by
        cases HR.out.2.2.1 with
        | nil h => rw [ht] at h; cases h
        | @cons _ c m _ h k' => rw [ht] at h; cases h; exact ⟨m, rfl, k'⟩
      obtain ⟨rfl, hm⟩ := hm
      obtain ⟨a', c', PV', _, _, e0, _, _, _, _, _, _⟩ := (HR.out.2.1.knots j hjD).cells
      cases hj : tk j with
      | none =>
        rw [hj] at e0
        simp only [ptrO] at e0
        have HE : Hid (j ∈ s.D ∧ SolT w0 p s tk wr ∧ Chain tk j m r ∧ Only (fun k => k ∈ s.D) w wr) := Lib.hid ⟨hjD, HR.out.2.1, hm, HR.out.2.2.2⟩
        clear ht hj HR hm hjD
        go_wp2
        go_roundg m
        case measure => omega
        case rel => exact ⟨j, tk, rfl, HE⟩
      | some i =>
        rw [hj] at e0
        simp only [ptrO] at e0
        have HE : Hid (∃ m', m' ≤ m ∧ i ∈ s.D ∧ SolT w0 p s (updN tk k (some i)) (wr.setCell ⟨k, 0, none⟩ (.pointer (some ⟨i, 0, none⟩))) ∧ Chain (updN tk k (some i)) i m' r ∧ Only (fun k => k ∈ s.D) w (wr.setCell ⟨k, 0, none⟩ (.pointer (some ⟨i, 0, none⟩)))) := by
          have hiD := HR.out.2.1.tieD j hjD i hj
          have hch : ∃ m', m' ≤ m ∧ Chain (updN tk k (some i)) i m' r := by
            cases hm with
            | nil h => rw [hj] at h; cases h
            | @cons _ d m2 _ h k' =>
              rw [hj] at h
              cases h
              obtain ⟨m', h1, h2⟩ := chain_short ht hj m2 i r k'
              exact ⟨m', by omega, h2⟩
          obtain ⟨m', h1, h2⟩ := hch
          refine ⟨m', h1, hiD, HR.out.2.1.tied HR.out.1 hiD rfl rfl rfl rfl rfl rfl fun x hx => ?_, h2, HR.out.2.2.2.trans ((only_one wr k 0 (ptrN i)).sub fun q e => by rw [e]; exact HR.out.1)⟩
          obtain ⟨n', hn'⟩ := HR.out.2.1.chain x hx
          obtain ⟨m2, _, h3⟩ := chain_short ht hj n' x _ hn'
          exact ⟨m2, h3⟩
        clear ht hj HR hm hjD
        go_wp2
        obtain ⟨m', h1, h2, h3, h4, h5⟩ := HE.out
        go_roundg m'
        case measure => omega
        case rel => exact ⟨i, _, rfl, Lib.hid ⟨h2, h3, h4, h5⟩⟩

set_option maxHeartbeats 400000 in
theorem isVariable_any (b : Nat) (k : Int) (w : World) (hc : w.cell? ⟨b, 1, none⟩ = some (.int .i64 k)) :
    Calls Try.prog 180 #[.pointer (some ⟨b, 0, none⟩)] w fun e w' => e = .returned (.bool (k == 1)) ∧ w = w' := by
  go_enter Try.func180, Try.ntmps180
  go_wp2
  go_ret
  exact ⟨rfl, rfl⟩

set_option maxHeartbeats 1000000 in
theorem bind_any (w0 : World) (p : Nat) (s : St) (a b : Nat) (w : World) (h : SolW w0 p s w) (ha : a ∈ s.D) (hb : b ∈ s.D) (hra : s.rep a = a) (hrb : s.rep b = b) (hab : a ≠ b) (hbd : s.bound ≤ 1048576) :
    Calls Try.prog 181 #[.pointer (some ⟨p, 0, none⟩), .pointer (some ⟨a, 0, none⟩), .pointer (some ⟨b, 0, none⟩)] w fun e w' => e = .returned (.bool (decide (s.bound + 1 ≤ 400))) ∧ SolW w0 p (linkS s s.steps a b (s.bound + 1)) w' ∧ Fr isM w w' := by
  obtain ⟨tie, hT⟩ := h
  obtain ⟨mb, SV, xs, n, hh⟩ := hT.head
  obtain ⟨h1, h2⟩ := hT.bound ha hb hra hrb hab
  obtain ⟨h3, h4⟩ := h1.counted
  obtain ⟨mb', SV', xs', n', hh'⟩ := h1.head
  obtain ⟨_, d1, _, df⟩ := hh'.cells
  obtain ⟨_, _, _, _, _, c0, _, _, _, _, _, f⟩ := (hT.knots a ha).cells
  have f0 := f 0
  have g1 := df 1
  have hd2 : ((w.setCell ⟨a, 0, none⟩ (ptrN b)).setCell ⟨p, 1, none⟩ (.int .i64 ((s.bound : Int) + 1))).cell? ⟨p, 1, none⟩ = some (.int .i64 ((s.bound : Int) + 1)) := by
    obtain ⟨_, _, _, _, hq⟩ := h3.head
    have := hq.cells.2.1
    simpa [linkS] using this
  have HE : Hid (SolW w0 p (linkS s s.steps a b (s.bound + 1)) ((w.setCell ⟨a, 0, none⟩ (ptrN b)).setCell ⟨p, 1, none⟩ (.int .i64 ((s.bound : Int) + 1))) ∧ Fr isM w ((w.setCell ⟨a, 0, none⟩ (ptrN b)).setCell ⟨p, 1, none⟩ (.int .i64 ((s.bound : Int) + 1)))) := Lib.hid ⟨⟨_, h3⟩, h2.wide.trans h4⟩
  have e1 : IntKind.i64.wrap ((s.bound : Int) + 1) = (s.bound : Int) + 1 := IntWalk.i64_in _ (by omega)
  have d1' : (w.setCell ⟨a, 0, none⟩ (ptrN b)).cell? ⟨p, 1, none⟩ = some (.int .i64 (s.bound : Int)) := d1
  simp only [ptrN] at d1' hd2 HE
  have hz : (decide (((s.bound : Int) + 1) ≤ 400)) = decide (s.bound + 1 ≤ 400) := by
    rw [decide_eq_decide]; omega
  have HZ := Lib.hid hz
  clear hT hh h1 h2 h3 h4 hh' d1 df f ha hb hra hrb hab hz
  go_enter Try.func181, Try.ntmps181
  go_wp2
  go_ret
  exact ⟨by rw [← HZ.out]; rfl, HE.out.1, HE.out.2⟩

/-- Where only knots are written. -/
theorem SolW.fr {w0 w w' : World} {p : Nat} {s : St} (h : SolW w0 p s w) (ho : Only (fun k => k ∈ s.D) w w') : Fr isK w w' := by
  obtain ⟨tie, h⟩ := h
  exact ⟨ho.os, ho.tape, ho.output, ho.size, fun k hk hq => ho.block k hk fun hD => hq (h.knots k hD).isK⟩

set_option maxRecDepth 100000 in
set_option maxHeartbeats 1000000 in
theorem knotOf_any (w0 : World) (p : Nat) (s : St) (t : Tm) (V : Value) (w : World) (h : SolW w0 p s w) (hA : ArgsS w0 (fun k => k < w0.heap.size) V t.args) (hO : Ok t) (hD : s.D.length ≤ 1099511627776) (hMAPS : ∀ v b, s.M v = some b → b ∈ s.D ∧ s.tm b = varTm v) :
    Calls Try.prog 112 #[.pointer (some ⟨p, 0, none⟩), .agg #[.int .i64 t.kind, .int .i64 t.num, .string t.name, V]] w fun e w' => ∃ b s', e = .returned (.pointer (some ⟨b, 0, none⟩)) ∧ KnS s t b s' ∧ SolW w0 p s' w' ∧ Fr isP w w' := by
  obtain ⟨aa, ca, rfl⟩ := hA.at.slice
  obtain ⟨tie, hT⟩ := h
  have hal : Below w.heap.size w (w.alloc (.cells #[.int .i64 t.kind, .int .i64 t.num, .string t.name, .slice aa t.args.length ca] 27)) := belowAlloc (Below.refl _ _) _
  by_cases hk : t.kind = 1
  · obtain ⟨mb, SV, xs, n, hh⟩ := hT.head
    have hr := vrange hO.2 hk
    have hwf : wfI t.num := wfI_of (by omega) (by omega)
    have d0 : (t.kind != 1) = false := by rw [hk]; rfl
    have HX := Lib.hid (at_box_of w #[.int .i64 t.kind, .int .i64 t.num, .string t.name, .slice aa t.args.length ca] 27 w.heap.size rfl)
    have hhw := hh.frame (Fr.of_below hal)
    have HH := Lib.hid hhw
    have HH0 := Lib.hid hh
    have HW := Lib.hid hal
    have HT := Lib.hid hT
    have HA := Lib.hid hA
    have HO := Lib.hid hO
    have HK := Lib.hid hk
    cases hm : s.M t.num with
    | some b =>
      have HM := Lib.hid (hMAPS _ _ hm)
      have hrun : ∀ n, (Instr.lookup 127 (.map (some mb)) (.int .i64 t.num) true).run Try.prog ((w.alloc (.cells #[.int .i64 t.kind, .int .i64 t.num, .string t.name, .slice aa t.args.length ca] 27)).drewN n) = .ok (.tuple #[.pointer (some ⟨b, 0, none⟩), .bool true]) ((w.alloc (.cells #[.int .i64 t.kind, .int .i64 t.num, .string t.name, .slice aa t.args.length ca] 27)).drewN n) := fun n => (hhw.map.kept (below_drewN (Below.refl _ _) n)).look_yes hwf hm
      have HE : Hid (∀ n, KnS s t b s ∧ SolW w0 p s ((w.alloc (.cells #[.int .i64 t.kind, .int .i64 t.num, .string t.name, .slice aa t.args.length ca] 27)).drewN n) ∧ Fr isP w ((w.alloc (.cells #[.int .i64 t.kind, .int .i64 t.num, .string t.name, .slice aa t.args.length ca] 27)).drewN n)) := Lib.hid fun n => by
        have hb2 := below_drewN hal n
        exact ⟨.inl ⟨rfl, (HM.out).1, by rw [(HM.out).2, var_is HO.out.2 HK.out]; rfl⟩, ⟨_, HT.out.kept hb2⟩, Fr.of_below hb2⟩
      obtain ⟨e0, e1, e2, ef⟩ := hhw.cells
      clear hA hO hD hal hT hh hhw hm hk hr hwf HX
      go_enter Try.func112, Try.ntmps112
      go_wp2
      go_quiet (fail)
      go_wp2
      go_ret
      exact ⟨_, s, rfl, HE.out _⟩
    | none =>
      have hrun : ∀ n, (Instr.lookup 127 (.map (some mb)) (.int .i64 t.num) true).run Try.prog ((w.alloc (.cells #[.int .i64 t.kind, .int .i64 t.num, .string t.name, .slice aa t.args.length ca] 27)).drewN n) = .ok (.tuple #[.pointer none, .bool false]) ((w.alloc (.cells #[.int .i64 t.kind, .int .i64 t.num, .string t.name, .slice aa t.args.length ca] 27)).drewN n) := fun n => (hhw.map.kept (below_drewN (Below.refl _ _) n)).look_no hwf hm
      have HM := Lib.hid (fun _ : t.kind = 1 => hm)
      have HCN : Hid (n < maxLen) := Lib.hid (by have := hh.count; unfold maxLen; omega)
      obtain ⟨e0, e1, e2, ef⟩ := hhw.cells
      clear hA hO hD hal hT hh hhw hm hk hr
      go_enter Try.func112, Try.ntmps112
      go_wp2
      go_quiet (fail)
      go_upto_region 6 with (fail)
      have hb1 : Below w.heap.size w (((w.alloc (.cells #[.int .i64 t.kind, .int .i64 t.num, .string t.name, .slice aa t.args.length ca] 27)).drewN nq).alloc (.cells #[.pointer none, .int .i64 t.kind, .int .i64 t.num, .string t.name, .slice aa t.args.length ca, .slice none 0 0] 154)) := (below_drewN HW.out nq).trans (belowAlloc (Below.refl _ _) _ |>.mono (by simp))
      have hkn : KnotC w0 (((w.alloc (.cells #[.int .i64 t.kind, .int .i64 t.num, .string t.name, .slice aa t.args.length ca] 27)).drewN nq).alloc (.cells #[.pointer none, .int .i64 t.kind, .int .i64 t.num, .string t.name, .slice aa t.args.length ca, .slice none 0 0] 154)) (w.heap.size + 1) t none none := by
        have := knot_laid (w0 := w0) (w := (w.alloc (.cells #[.int .i64 t.kind, .int .i64 t.num, .string t.name, .slice aa t.args.length ca] 27)).drewN nq) HA.out (Nat.le_trans HT.out.old.size (below_drewN HW.out nq).size)
        have hs : ((w.alloc (.cells #[.int .i64 t.kind, .int .i64 t.num, .string t.name, .slice aa t.args.length ca] 27)).drewN nq).heap.size = w.heap.size + 1 := by simp
        rw [hs] at this
        exact this
      have hbx := (HX.out.read ((below_drewN (Below.refl _ _) nq).trans (belowAlloc (Below.refl _ _) (.cells #[.pointer none, .int .i64 t.kind, .int .i64 t.num, .string t.name, .slice aa t.args.length ca, .slice none 0 0] 154) |>.mono (by simp)))).cells
      have hh1 := HH0.out.frame (Fr.of_below hb1)
      have HB1 := Lib.hid hb1
      have HKN := Lib.hid hkn
      have HH1 := Lib.hid hh1
      clear hb1 hkn hrun e0 e1 e2 ef
      generalize hw1 : ((w.alloc (.cells #[.int .i64 t.kind, .int .i64 t.num, .string t.name, .slice aa t.args.length ca] 27)).drewN nq).alloc (.cells #[.pointer none, .int .i64 t.kind, .int .i64 t.num, .string t.name, .slice aa t.args.length ca, .slice none 0 0] 154) = w1 at HB1 HKN HH1 hbx hh1 ⊢
      clear hw1
      obtain ⟨e0, e1, e2, ef⟩ := hh1.cells
      obtain ⟨c0, c1, c2, c3⟩ := hbx
      clear hh1
      go_still_tail 7, (by kernel_rfl)
      change wpList _ _ _ _ _ w1.drew
      have HB2 : Hid (Below w.heap.size w w1.drew) := Lib.hid HB1.out.drew
      have HKN2 : Hid (KnotC w0 w1.drew (w.heap.size + 1) t none none) := Lib.hid (HKN.out.kept (Below.refl _ _).drew)
      have HM2 : Hid (MapK w1.drew mb n s.M) := Lib.hid (HH1.out.map.kept (Below.refl _ _).drew)
      clear e0 e1 e2 ef c0 c1 c2 c3 HB1 HKN HH1
      generalize w1.drew = w2 at HB2 HKN2 HM2 ⊢
      go_wp2_with (at_mapUpdate; refine wpList_putK _ rfl _ _ _ rfl mb n s.M rfl HM2.out HCN.out t.num rfl hwf (w.heap.size + 1) rfl ?_; intro w3 hm3 hg3; have HG := Lib.hid (And.intro hm3 hg3); clear hm3 hg3)
      have HE : Hid (∃ s', KnS s t (w.heap.size + 1) s' ∧ SolW w0 p s' w3 ∧ Fr isP w w3) := Lib.hid (by
        obtain ⟨r1, r2, r3⟩ := HT.out.new_var HH0.out (Nat.le_succ _) HB2.out HKN2.out HK.out HG.out.2 HG.out.1
        exact ⟨_, .inr ⟨rfl, r2, HM.out⟩, r1, r3⟩)
      clear HG
      go_wp2
      go_ret
      obtain ⟨s', h1, h2, h3⟩ := HE.out
      exact ⟨_, s', rfl, h1, h2, h3⟩
  · have d0 : (t.kind != 1) = true := by simp [hk]
    have HE : Hid (∃ s', KnS s t (w.heap.size + 1) s' ∧ SolW w0 p s' ((w.alloc (.cells #[.int .i64 t.kind, .int .i64 t.num, .string t.name, .slice aa t.args.length ca] 27)).alloc (.cells #[.pointer none, .int .i64 t.kind, .int .i64 t.num, .string t.name, .slice aa t.args.length ca, .slice none 0 0] 154)) ∧ Fr isP w ((w.alloc (.cells #[.int .i64 t.kind, .int .i64 t.num, .string t.name, .slice aa t.args.length ca] 27)).alloc (.cells #[.pointer none, .int .i64 t.kind, .int .i64 t.num, .string t.name, .slice aa t.args.length ca, .slice none 0 0] 154))) := Lib.hid (by
      have hl := knot_laid (w := w.alloc (.cells #[.int .i64 t.kind, .int .i64 t.num, .string t.name, .slice aa t.args.length ca] 27)) hA (Nat.le_trans hT.old.size hal.size)
      rw [show (w.alloc (.cells #[.int .i64 t.kind, .int .i64 t.num, .string t.name, .slice aa t.args.length ca] 27)).heap.size = w.heap.size + 1 from by simp] at hl
      have hB := belowAlloc hal (.cells #[.pointer none, .int .i64 t.kind, .int .i64 t.num, .string t.name, .slice aa t.args.length ca, .slice none 0 0] 154)
      obtain ⟨h1, h2⟩ := hT.new_other (Nat.le_succ _) hB hl hk
      exact ⟨_, .inr ⟨rfl, h2, fun e => absurd e hk⟩, h1, Fr.of_below hB⟩)
    clear hA hO hD hal hT hk
    go_enter Try.func112, Try.ntmps112
    go_wp2
    go_ret
    obtain ⟨s', h1, h2, h3⟩ := HE.out
    exact ⟨_, s', rfl, h1, h2, h3⟩
end Go.Proofs.Ytbbgiefnmihmdaa

namespace Go.Proofs.Ytbbgiefnmihmdaa
open Go.RowKit
set_option linter.unusedVariables false
set_option linter.unusedSimpArgs false

/-- What partsOf makes. -/
def PtS (s : St) (k x y : Nat) (s' : St) : Prop := (s' = s ∧ s.parts k = some (x, y)) ∨ (s.parts k = none ∧ ∃ s1 s2 u v, s.tm k = pairTm u v ∧ KnS s u x s1 ∧ KnS s1 v y s2 ∧ s' = partS s2 k x y)
theorem PtS.ext {s s' : St} {E : List (Tm × Tm)} {k x y : Nat} (hI : KInv s E) (hk : k ∈ s.D) (h : PtS s k x y s') : Ext 0 s s' ∧ s'.parts k = some (x, y) := by
  rcases h with ⟨rfl, h⟩ | ⟨h0, s1, s2, u, v, ht, h1, h2, rfl⟩
  · exact ⟨Ext.refl _ _, h⟩
  · exact parts_ext hI hk h0 ht h1 h2
theorem KnS.pop {s s' : St} {t : Tm} {b : Nat} {r : List (Nat × Nat)} (h : KnS (popS s r) t b s') : KnS s t b { s' with steps := s.steps } ∧ s' = popS { s' with steps := s.steps } r := by
  rcases h with ⟨rfl, h1, h2⟩ | ⟨rfl, h1, h2⟩
  · exact ⟨.inl ⟨rfl, h1, h2⟩, rfl⟩
  · exact ⟨.inr ⟨rfl, h1, h2⟩, rfl⟩
theorem PtS.pop {s s' : St} {k x y : Nat} {r : List (Nat × Nat)} (h : PtS (popS s r) k x y s') : PtS s k x y { s' with steps := s.steps } ∧ s' = popS { s' with steps := s.steps } r := by
  rcases h with ⟨rfl, h⟩ | ⟨h0, s1, s2, u, v, ht, h1, h2, rfl⟩
  · exact ⟨.inl ⟨rfl, h⟩, rfl⟩
  · obtain ⟨a1, a2⟩ := h1.pop
    rw [a2] at h2
    obtain ⟨b1, b2⟩ := h2.pop
    refine ⟨.inr ⟨h0, _, _, u, v, ht, a1, b1, ?_⟩, ?_⟩
    · rfl
    · rw [b2]; rfl
/-- What a walk through knots wants to know of them. -/
def Pre (s : St) : Prop := (∀ b ∈ s.D, Ok (s.tm b)) ∧ ∀ v b, s.M v = some b → b ∈ s.D ∧ s.tm b = varTm v
theorem KInv.pre {s : St} {E : List (Tm × Tm)} (h : KInv s E) : Pre s := ⟨h.ok, h.maps⟩
theorem KnS.pre {s s' : St} {t : Tm} {b : Nat} (h : Pre s) (ht : Ok t) (k : KnS s t b s') : Pre s' := by
  rcases k with ⟨rfl, _⟩ | ⟨rfl, hb, hv⟩
  · exact h
  · refine ⟨fun c hc => ?_, fun v c hm => ?_⟩
    · rcases List.mem_cons.1 hc with rfl | hc
      · rw [(new_self s c t).1]; exact ht
      · rw [(new_old t hb hc).1]; exact h.1 c hc
    · have hm' : (if t.kind = 1 ∧ v = t.num then some b else s.M v) = some c := hm
      by_cases hc : t.kind = 1 ∧ v = t.num
      · rw [if_pos hc] at hm'
        cases hm'
        refine ⟨List.mem_cons_self, ?_⟩
        rw [(new_self s b t).1, var_is ht.2 hc.1, hc.2]
      · rw [if_neg hc] at hm'
        obtain ⟨k1, k2⟩ := h.2 v c hm'
        exact ⟨List.mem_cons_of_mem _ k1, by rw [(new_old t hb k1).1]; exact k2⟩
theorem SolW.old {w0 w : World} {p : Nat} {s : St} (h : SolW w0 p s w) : Below w0.heap.size w0 w := by obtain ⟨_, h⟩ := h; exact h.old

set_option maxRecDepth 100000 in
set_option maxHeartbeats 2000000 in
theorem partsOf_any (w0 : World) (p : Nat) (s : St) (k : Nat) (w : World) (h : SolW w0 p s w) (hI : Pre s) (hk : k ∈ s.D) (h4 : (s.tm k).kind = 4) (hD : s.D.length ≤ 1099511600000) :
    Calls Try.prog 194 #[.pointer (some ⟨p, 0, none⟩), .pointer (some ⟨k, 0, none⟩)] w fun e w' => ∃ x y s' g, e = .returned (.slice (some ⟨g, 0, none⟩) 2 2) ∧ w'.heap[g]? = some (.cells #[ptrN x, ptrN y] 132 (0, 0)) ∧ PtS s k x y s' ∧ SolW w0 p s' w' ∧ Fr isM w w' := by
  obtain ⟨tie, hT⟩ := h
  have hkc := hT.knots k hk
  cases hp : s.parts k with
  | some q =>
    obtain ⟨x, y⟩ := q
    rw [hp] at hkc
    obtain ⟨a, c, PV, _, ⟨g, rfl, hg⟩, _, _, _, _, _, c5, f⟩ := hkc.cells
    have f5 := f 5
    have HE : Hid (w.heap[g]? = some (.cells #[ptrN x, ptrN y] 132 (0, 0)) ∧ PtS s k x y s ∧ SolW w0 p s w ∧ Fr isM w w) := Lib.hid ⟨hg, .inl ⟨rfl, hp⟩, ⟨_, hT⟩, Fr.refl _ _⟩
    clear hT hkc hp hg f hI hk h4 hD
    have hnil := fun (W : World) (q : Option Addr) (n c : Nat) => Lib.run_eql_slice_nil (P := Try.prog) W 152 _ q n c 0 0 Try.underlying152
    go_enter Try.func194, Try.ntmps194
    go_wp2
    go_ret
    exact ⟨x, y, s, g, rfl, HE.out.1, HE.out.2.1, HE.out.2.2.1, HE.out.2.2.2⟩
  | none =>
    rw [hp] at hkc
    obtain ⟨u, v, ht, gu, gv⟩ := good_pair (hI.1 k hk).2 h4
    have ht' : s.tm k = pairTm u v := ht
    have hokp := hI.1 k hk
    rw [ht'] at hokp
    have hok2 := ok_two hokp
    obtain ⟨hlo, a, c, PV, hcell, hargs, hPV⟩ := hkc
    have hPV' : PV = .slice none 0 0 := hPV
    subst hPV'
    rw [ht'] at hcell hargs
    obtain ⟨ga, offa, u1, u2, v1, v2, rfl, hga, hla, hcx, hcy, hax, hay⟩ := hargs.two (x := u) (y := v) rfl
    have hz : w.cell? ⟨k, 5, none⟩ = some (.slice none 0 0) := cell_of_row w k 5 _ _ _ hcell
    have HH0 : Hid (∀ (s1 : St) (W : World), SolW w0 p s1 W → Calls Try.prog 136 #[.agg #[.int .i64 4, .int .i64 0, .string ⟨#[]⟩, .slice (some ⟨ga, offa, none⟩) 2 c]] W fun e w' => e = .returned (.agg #[.int .i64 u.kind, .int .i64 u.num, .string u.name, .slice u1 u.args.length u2]) ∧ Below W.heap.size W w') := Lib.hid fun s1 W hW => by
      obtain ⟨q0, q1, q2, q3⟩ := hcx W hW.old
      exact head_any 4 0 ⟨#[]⟩ ga offa 2 c _ _ _ _ _ _ W (Nat.lt_of_lt_of_le hga hW.old.size) (by omega) (by omega) q0 q1 q2 q3
    have HH1 : Hid (∀ (s1 : St) (W : World), SolW w0 p s1 W → Calls Try.prog 138 #[.agg #[.int .i64 4, .int .i64 0, .string ⟨#[]⟩, .slice (some ⟨ga, offa, none⟩) 2 c]] W fun e w' => e = .returned (.agg #[.int .i64 v.kind, .int .i64 v.num, .string v.name, .slice v1 v.args.length v2]) ∧ Below W.heap.size W w') := Lib.hid fun s1 W hW => by
      obtain ⟨q0, q1, q2, q3⟩ := hcy W hW.old
      exact tail_any 4 0 ⟨#[]⟩ ga offa 2 c _ _ _ _ _ _ W (Nat.lt_of_lt_of_le hga hW.old.size) (by omega) (by omega) q0 q1 q2 q3
    have HK0 : Hid (∀ (W : World), SolW w0 p s W → Calls Try.prog 112 #[.pointer (some ⟨p, 0, none⟩), .agg #[.int .i64 u.kind, .int .i64 u.num, .string u.name, .slice u1 u.args.length u2]] W fun e w' => ∃ b s', e = .returned (.pointer (some ⟨b, 0, none⟩)) ∧ KnS s u b s' ∧ SolW w0 p s' w' ∧ Fr isP W w') := Lib.hid fun W hW =>
      knotOf_any w0 p s u _ W hW hax hok2.1 (by omega) hI.2
    have HK1 : Hid (∀ (s1 : St) (x : Nat), KnS s u x s1 → ∀ (W : World), SolW w0 p s1 W → Calls Try.prog 112 #[.pointer (some ⟨p, 0, none⟩), .agg #[.int .i64 v.kind, .int .i64 v.num, .string v.name, .slice v1 v.args.length v2]] W fun e w' => ∃ b s', e = .returned (.pointer (some ⟨b, 0, none⟩)) ∧ KnS s1 v b s' ∧ SolW w0 p s' w' ∧ Fr isP W w') := Lib.hid fun s1 x hx W hW => by
      refine knotOf_any w0 p s1 v _ W hW hay hok2.2 ?_ (hx.pre hI hok2.1).2
      rcases hx with ⟨rfl, _⟩ | ⟨rfl, _⟩
      · omega
      · show (s.D.length + 1) ≤ _
        omega
    have HCE : Hid (∀ W, Fr isP w W → W.cell? ⟨k, 1, none⟩ = some (.int .i64 4) ∧ W.cell? ⟨k, 2, none⟩ = some (.int .i64 0) ∧ W.cell? ⟨k, 3, none⟩ = some (.string ⟨#[]⟩) ∧ W.cell? ⟨k, 4, none⟩ = some (.slice (some ⟨ga, offa, none⟩) 2 c) ∧ W.cell? ⟨k, 5, none⟩ = some (.slice none 0 0) ∧ W.frozen? ⟨k, 5, none⟩ = false ∧ k < W.heap.size) := Lib.hid fun W hW => by
      have hc := hW.cells hcell not_isP
      exact ⟨cell_of_row W k 1 _ _ _ hc, cell_of_row W k 2 _ _ _ hc, cell_of_row W k 3 _ _ _ hc, cell_of_row W k 4 _ _ _ hc, cell_of_row W k 5 _ _ _ hc, frozen_of_row W k 5 _ _ hc, lt_of_cells hc⟩
    have HCF : Hid (∀ (W : World) (x y : Nat), Fr isP w W → ((W.setCell ⟨k, 5, none⟩ (.slice (some ⟨W.heap.size, 0, none⟩) 2 2)).alloc (.cells #[.pointer (some ⟨x, 0, none⟩), .pointer (some ⟨y, 0, none⟩)] 132)).cell? ⟨k, 1, none⟩ = some (.int .i64 4) ∧ ((W.setCell ⟨k, 5, none⟩ (.slice (some ⟨W.heap.size, 0, none⟩) 2 2)).alloc (.cells #[.pointer (some ⟨x, 0, none⟩), .pointer (some ⟨y, 0, none⟩)] 132)).cell? ⟨k, 2, none⟩ = some (.int .i64 0) ∧ ((W.setCell ⟨k, 5, none⟩ (.slice (some ⟨W.heap.size, 0, none⟩) 2 2)).alloc (.cells #[.pointer (some ⟨x, 0, none⟩), .pointer (some ⟨y, 0, none⟩)] 132)).cell? ⟨k, 3, none⟩ = some (.string ⟨#[]⟩) ∧ ((W.setCell ⟨k, 5, none⟩ (.slice (some ⟨W.heap.size, 0, none⟩) 2 2)).alloc (.cells #[.pointer (some ⟨x, 0, none⟩), .pointer (some ⟨y, 0, none⟩)] 132)).cell? ⟨k, 4, none⟩ = some (.slice (some ⟨ga, offa, none⟩) 2 c) ∧ ((W.setCell ⟨k, 5, none⟩ (.slice (some ⟨W.heap.size, 0, none⟩) 2 2)).alloc (.cells #[.pointer (some ⟨x, 0, none⟩), .pointer (some ⟨y, 0, none⟩)] 132)).cell? ⟨k, 5, none⟩ = some (.slice (some ⟨W.heap.size, 0, none⟩) 2 2)) := Lib.hid fun W x y hW => by
      have hc := heap_setCell_same W k 5 _ _ (.slice (some ⟨W.heap.size, 0, none⟩) 2 2) (hW.cells hcell not_isP)
      have hb := (Below.refl (W.setCell ⟨k, 5, none⟩ (.slice (some ⟨W.heap.size, 0, none⟩) 2 2)).heap.size (W.setCell ⟨k, 5, none⟩ (.slice (some ⟨W.heap.size, 0, none⟩) 2 2)))
      have hc2 := ((belowAlloc hb (.cells #[.pointer (some ⟨x, 0, none⟩), .pointer (some ⟨y, 0, none⟩)] 132)).block k (lt_of_cells hc)).trans hc
      exact ⟨cell_of_row _ k 1 _ _ _ hc2, cell_of_row _ k 2 _ _ _ hc2, cell_of_row _ k 3 _ _ _ hc2, cell_of_row _ k 4 _ _ _ hc2, cell_of_row _ k 5 _ _ _ hc2⟩
    have HTF : Hid (∀ a b, Fr isP w a → Below a.heap.size a b → Fr isP w b) := Lib.hid fun a b h1 h2 => h1.trans (Fr.of_below h2)
    have HTG : Hid (∀ a b, Fr isP w a → Fr isP a b → Fr isP w b) := Lib.hid fun a b h1 h2 => h1.trans h2
    have HTS : Hid (∀ (s1 : St) a b, SolW w0 p s1 a → Below a.heap.size a b → SolW w0 p s1 b) := Lib.hid fun s1 a b h1 h2 => h1.kept h2
    have hS0 : SolW w0 p s w := ⟨_, hT⟩
    have hS1 : SolW w0 p s w.drew := hS0.kept (Below.refl _ _).drew
    have hF0 : Fr isP w w := Fr.refl _ _
    have hF1 : Fr isP w w.drew := Fr.of_below (Below.refl _ _).drew
    have HEND : Hid (∀ (s1 s2 : St) (x y : Nat) (W : World), KnS s u x s1 → KnS s1 v y s2 → SolW w0 p s2 W → Fr isP w W →
        ((W.setCell ⟨k, 5, none⟩ (.slice (some ⟨W.heap.size, 0, none⟩) 2 2)).alloc (.cells #[.pointer (some ⟨x, 0, none⟩), .pointer (some ⟨y, 0, none⟩)] 132)).heap[W.heap.size]? = some (.cells #[ptrN x, ptrN y] 132 (0, 0)) ∧ PtS s k x y (partS s2 k x y) ∧
        SolW w0 p (partS s2 k x y) ((W.setCell ⟨k, 5, none⟩ (.slice (some ⟨W.heap.size, 0, none⟩) 2 2)).alloc (.cells #[.pointer (some ⟨x, 0, none⟩), .pointer (some ⟨y, 0, none⟩)] 132)) ∧
        Fr isM w ((W.setCell ⟨k, 5, none⟩ (.slice (some ⟨W.heap.size, 0, none⟩) 2 2)).alloc (.cells #[.pointer (some ⟨x, 0, none⟩), .pointer (some ⟨y, 0, none⟩)] 132))) := Lib.hid fun s1 s2 x y W h1 h2 h3 h4 => by
      have hkl : k < W.heap.size := lt_of_cells (h4.cells hcell not_isP)
      rw [← World.setCell_alloc_past (w := W) (.cells #[.pointer (some ⟨x, 0, none⟩), .pointer (some ⟨y, 0, none⟩)] 132) k 5 (.slice (some ⟨W.heap.size, 0, none⟩) 2 2) hkl]
      obtain ⟨t2, h3⟩ := h3.kept (belowAlloc (Below.refl _ _) (.cells #[.pointer (some ⟨x, 0, none⟩), .pointer (some ⟨y, 0, none⟩)] 132))
      have hkD : k ∈ s2.D := (h2.ext hok2.2).1.D k ((h1.ext hok2.1).1.D k hk)
      have hnew := heap_new W (.cells #[.pointer (some ⟨x, 0, none⟩), .pointer (some ⟨y, 0, none⟩)] 132)
      have hfk := only_isK (o := 5) (u := .slice (some ⟨W.heap.size, 0, none⟩) 2 2) (h3.knots k hkD).isK
      exact ⟨hfk.cells hnew (not_isK (by decide)), .inr ⟨hp, s1, s2, u, v, ht', h1, h2, rfl⟩, ⟨_, h3.part hkD hnew⟩, (h4.wideP.trans (Fr.of_below (belowAlloc (Below.refl _ _) _))).trans hfk.wide⟩
    obtain ⟨k1, k2, k3, k4, k5, kf, kl⟩ := HCE.out w hF0
    have HS0 := Lib.hid hS0
    clear hT hI hk h4 hD hp hok2 hokp hlo hcell hargs ht ht' gu gv hga hla hcx hcy hax hay hPV hz
    have hnil := fun (W : World) (q : Option Addr) (n c : Nat) => Lib.run_eql_slice_nil (P := Try.prog) W 152 _ q n c 0 0 Try.underlying152
    go_enter Try.func194, Try.ntmps194
    go_upto_region 2 with (fail)
    go_region_held3 (fun w' => w'.cell? ⟨k, 1, none⟩ = some (.int .i64 4) ∧ w'.cell? ⟨k, 2, none⟩ = some (.int .i64 0) ∧ w'.cell? ⟨k, 3, none⟩ = some (.string ⟨#[]⟩) ∧ w'.cell? ⟨k, 4, none⟩ = some (.slice (some ⟨ga, offa, none⟩) 2 c)) (go_keep)
      (first
        | (go_at_call 136; (with_reducible refine Calls.mono (HH0.out _ _ (by assumption)) ?_); rintro e wA ⟨rfl, hbA⟩; have hSA := HTS.out _ _ _ (by assumption) hbA; have hFA := HTF.out _ _ (by assumption) hbA; obtain ⟨k1, k2, k3, k4, k5, kf, kl⟩ := HCE.out _ hFA; clear hbA)
        | (go_at_call 112; (with_reducible refine Calls.mono (HK0.out _ (by assumption)) ?_); rintro e wB ⟨x, s1, rfl, hk1, hSB, hfB⟩; have hFB := HTG.out _ _ (by assumption) hfB; obtain ⟨k1, k2, k3, k4, k5, kf, kl⟩ := HCE.out _ hFB; clear hfB)
        | (go_at_call 138; (with_reducible refine Calls.mono (HH1.out _ _ (by assumption)) ?_); rintro e wC ⟨rfl, hbC⟩; have hSC := HTS.out _ _ _ (by assumption) hbC; have hFC := HTF.out _ _ (by assumption) hbC; obtain ⟨k1, k2, k3, k4, k5, kf, kl⟩ := HCE.out _ hFC; clear hbC)
        | (go_at_call 112; (with_reducible refine Calls.mono (HK1.out _ _ (by assumption) _ (by assumption)) ?_); rintro e wD ⟨y, s2, rfl, hk2, hSD, hfD⟩; have hFD := HTG.out _ _ (by assumption) hfD; obtain ⟨k1, k2, k3, k4, k5, kf, kl⟩ := HCE.out _ hFD; obtain ⟨m1, m2, m3, m4, m5⟩ := HCF.out wD x y hFD; have HX := Lib.hid (HEND.out _ _ _ _ _ (by assumption) hk2 hSD hFD); clear hfD))
    all_goals (go_wp2; go_ret; exact ⟨_, _, _, _, rfl, HX.out.1, HX.out.2.1, HX.out.2.2.1, HX.out.2.2.2⟩)
end Go.Proofs.Ytbbgiefnmihmdaa

