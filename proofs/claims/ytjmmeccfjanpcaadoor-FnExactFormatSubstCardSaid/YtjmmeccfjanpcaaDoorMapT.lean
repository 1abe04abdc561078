/-
  Maps from variables to terms: what a map's block holds; an entry looked up, stored, struck; the map ranged over.
-/
import Derived.Test.YtjmmeccfjanpcaaDoorSubst
import Derived.Maps.OwnSet
import Derived.Maps.RangeWalk
namespace Go.Proofs.YtjmmeccfjanpcaaDoor
open Go.RowKit
open Go.Maps (Keyed)
set_option linter.unusedVariables false
set_option linter.unusedSimpArgs false

/-- A term's value: its three plain parts, the value of its slice. -/
structure Cel where
  k : Int
  i : Int
  s : ByteArray
  u : Value
def celV (c : Cel) : Value := .agg #[.int .i64 c.k, .int .i64 c.i, .string c.s, c.u]
def celT (t : Tm) (U : Value) : Cel := ⟨t.kind, t.num, t.name, U⟩
theorem celV_inj {a b : Cel} (h : celV a = celV b) : a = b := by
  cases a; cases b
  simp only [celV, Value.agg.injEq, Array.mk.injEq, List.cons.injEq, Value.int.injEq, Value.string.injEq, true_and, and_true] at h
  obtain ⟨rfl, rfl, rfl, rfl⟩ := h
  rfl
open Classical in
noncomputable def elemR (v : Value) : Option (DataW Value × List MemPlace) := if ∃ c, v = celV c then some (.held v, []) else none
theorem elemR_mk (c : Cel) : elemR (celV c) = some (.held (celV c), []) := by rw [elemR, if_pos ⟨c, rfl⟩]
theorem elemR_inv {v : Value} {y : DataW Value × List MemPlace} (h : elemR v = some y) : ∃ c, v = celV c ∧ y = (.held v, []) := by
  unfold elemR at h
  split at h
  · rename_i hc
    obtain ⟨c, hc⟩ := hc
    cases h
    exact ⟨c, hc, rfl⟩
  · cases h
theorem wfI_of {v : Int} (h0 : -9223372036854775808 ≤ v) (h1 : v ≤ 9223372036854775807) : wfI v := by
  unfold wfI
  simp [Lit.wf]
  first | exact ⟨h0, h1⟩ | omega | (constructor <;> omega)
theorem keyedInt : Keyed Tryd.prog 3 := Go.Maps.int_keyed Tryd.underlying3
theorem keyInt {v : Int} (h : wfI v) : keyOf Tryd.prog 3 (.int .i64 v) = some (.int .i64 v) := Go.Maps.keyOf_int_mk Tryd.underlying3 h
theorem litInt (v : Int) : WideAt.IsKeyLit (.int .i64 v) := trivial
theorem litInt_ne {v x : Int} (h : ¬ x = v) : Lit.int .i64 x ≠ Lit.int .i64 v := fun e => h (by cases e; rfl)
theorem zeroTermE (w : World) : (zeroValue 43).run Tryd.prog w = .ok (celV ⟨0, 0, ⟨#[]⟩, .slice none 0 0⟩) w := by kernel_rfl

/-- What a map holds, by the number of the variable: a term, and its slice. -/
abbrev Ent := Int → Option (Tm × Value)
def FitsD (D : DataW Value) (f : Ent) : Prop := ∀ v, (f v = none → Maps.has D (.int .i64 v) = false) ∧ (∀ p, f v = some p → ∀ zd, D.atKey (.int .i64 v) zd = .held (celV (celT p.1 p.2)))
def MapF (w : World) (b n : Nat) (f : Ent) : Prop := ∃ D : DataW Value, w.ownsMap Tryd.prog 3 elemR b n D ∧ FitsD D f
theorem FitsD.has {D : DataW Value} {f : Ent} (h : FitsD D f) (v : Int) : Maps.has D (.int .i64 v) = (f v).isSome := by
  cases hf : f v with
  | none => rw [(h v).1 hf]; rfl
  | some p => rw [Maps.has_true_of_atKey ((h v).2 p hf)]; rfl
theorem MapF.frame {w w' : World} {b n : Nat} {f : Ent} (h : MapF w b n f) (hb : w'.heap[b]? = w.heap[b]?) : MapF w' b n f := by
  obtain ⟨D, ⟨es, clock, h1, h2⟩, h3⟩ := h
  exact ⟨D, ⟨es, clock, hb.trans h1, h2⟩, h3⟩
theorem MapF.lt {w : World} {b n : Nat} {f : Ent} (h : MapF w b n f) : b < w.heap.size := by obtain ⟨D, h1, _⟩ := h; exact h1.lt
theorem MapF.kept {w w' : World} {b n : Nat} {f : Ent} (h : MapF w b n f) (hb : Below w.heap.size w w') : MapF w' b n f := h.frame (hb.block b h.lt)
theorem mapF_made (w : World) : MapF (w.alloc (.map #[] 0)) w.heap.size 0 (fun _ => none) :=
  ⟨.map [], World.ownsMap_made w _ _ _, fun v => ⟨fun _ => rfl, fun p h => by cases h⟩⟩
def updF (f : Ent) (v : Int) (p : Tm × Value) : Ent := fun x => if x = v then some p else f x
def delF (f : Ent) (v : Int) : Ent := fun x => if x = v then none else f x
theorem updF_self (f : Ent) (v : Int) (p : Tm × Value) : updF f v p v = some p := if_pos rfl
theorem updF_ne (f : Ent) {v x : Int} (p : Tm × Value) (h : ¬ x = v) : updF f v p x = f x := if_neg h
theorem delF_self (f : Ent) (v : Int) : delF f v v = none := if_pos rfl
theorem delF_ne (f : Ent) {v x : Int} (h : ¬ x = v) : delF f v x = f x := if_neg h
theorem FitsD.put {D : DataW Value} {f : Ent} (h : FitsD D f) (hm : Maps.IsMap D) (v : Int) (p : Tm × Value) : FitsD (D.put (.int .i64 v) (.held (celV (celT p.1 p.2)))) (updF f v p) := by
  intro x
  by_cases e : x = v
  · subst e
    rw [updF_self]
    refine ⟨(fun h => by cases h), fun q hq zd => ?_⟩
    cases hq
    exact Maps.atKey_put_same hm (litInt x) _ _
  · rw [updF_ne f p e]
    refine ⟨fun hx => ?_, fun q hq zd => ?_⟩
    · rw [Maps.has_put_other (litInt_ne e)]; exact (h x).1 hx
    · rw [Maps.atKey_put_other (litInt_ne e)]; exact (h x).2 q hq zd
theorem FitsD.del {D : DataW Value} {f : Ent} (h : FitsD D f) (v : Int) : FitsD (D.del (.int .i64 v)) (delF f v) := by
  intro x
  by_cases e : x = v
  · subst e
    rw [delF_self]
    exact ⟨fun _ => Maps.has_del_same, (fun q hq => by cases hq)⟩
  · rw [delF_ne f e]
    refine ⟨fun hx => ?_, fun q hq zd => ?_⟩
    · rw [Maps.has_del_other (litInt_ne e)]; exact (h x).1 hx
    · rw [Maps.atKey_del_other (litInt_ne e)]; exact (h x).2 q hq zd

/-- 'x, ok := m[v]'. -/
theorem MapF.look {w : World} {b n : Nat} {f : Ent} (h : MapF w b n f) {v : Int} (hv : wfI v) :
    (Instr.lookup 71 (.map (some b)) (.int .i64 v) true).run Tryd.prog w = .ok (match f v with | none => .tuple #[.agg #[.int .i64 0, .int .i64 0, .string ⟨#[]⟩, .slice none 0 0], .bool false] | some p => .tuple #[.agg #[.int .i64 p.1.kind, .int .i64 p.1.num, .string p.1.name, p.2], .bool true]) w := by
  obtain ⟨D, hown, hf⟩ := h
  obtain ⟨u, ps, hrun, hu⟩ := hown.look_ok keyedInt Tryd.underlying71 (zeroTermE w) (elemR_mk _) (keyInt hv)
  obtain ⟨c, rfl, hy⟩ := elemR_inv hu
  simp only [Prod.mk.injEq] at hy
  rw [hrun]
  cases hfv : f v with
  | none =>
    have h1 := (hf v).1 hfv
    rw [h1]
    have h2 := hy.1
    rw [Maps.atKey_of_not_has h1] at h2
    simp only [DataW.held.injEq] at h2
    rw [← h2]
    rfl
  | some p =>
    have h1 := (hf v).2 p hfv
    rw [Maps.has_true_of_atKey h1]
    have h2 := hy.1
    rw [h1] at h2
    simp only [DataW.held.injEq] at h2
    rw [← h2]
    rfl
theorem MapF.look_no {w : World} {b n : Nat} {f : Ent} (h : MapF w b n f) {v : Int} (hv : wfI v) (hf : f v = none) :
    (Instr.lookup 71 (.map (some b)) (.int .i64 v) true).run Tryd.prog w = .ok (.tuple #[.agg #[.int .i64 0, .int .i64 0, .string ⟨#[]⟩, .slice none 0 0], .bool false]) w := by rw [h.look hv, hf]
theorem MapF.look_yes {w : World} {b n : Nat} {f : Ent} (h : MapF w b n f) {v : Int} (hv : wfI v) {t : Tm} {U : Value} (hf : f v = some (t, U)) :
    (Instr.lookup 71 (.map (some b)) (.int .i64 v) true).run Tryd.prog w = .ok (.tuple #[.agg #[.int .i64 t.kind, .int .i64 t.num, .string t.name, U], .bool true]) w := by rw [h.look hv, hf]

section
variable (w : World) {ops : Array Oper} {rest : List Oper} {o : Oper} {a : Act} {Q : Exit → Act → World → Prop}
/-- 'm[v] = t'. -/
theorem wpList_put (hg : o.guard = none) (m x v : Operand) (hop : o.op = Op.mapUpdate 71 m x v) (b n : Nat) (f : Ent) (hm : a.eval m = .map (some b)) (h : MapF w b n f) (hn : n < maxLen) (k : Int) (hx : a.eval x = .int .i64 k) (hk : wfI k)
    (t : Tm) (U : Value) (hv : a.eval v = .agg #[.int .i64 t.kind, .int .i64 t.num, .string t.name, U]) (hK : ∀ w', MapF w' b (n + 1) (updF f k (t, U)) → w.grownBy w' (some b) → wpList Tryd.prog ops Q rest (a.put o.dst undef) w') : wpList Tryd.prog ops Q (o :: rest) a w := by
  obtain ⟨D, hown, hf⟩ := h
  exact wpList_mapUpdate_in w hg m x v _ hop _ _ keyedInt Tryd.underlying71 elemR b n D hm hown hn _ _ _ hx hv (keyInt hk) _ [] (elemR_mk (celT t U)) fun w' h1 h2 => hK w' ⟨_, h1, hf.put hown.isMap k (t, U)⟩ h2.grown
/-- 'delete(m, v)'. -/
theorem wpList_del (hg : o.guard = none) (m x : Operand) (hop : o.op = Op.call { callee := Callee.builtin Builtin.delete, args := #[m, x], argTypes := #[71, 3] }) (b n : Nat) (f : Ent) (hm : a.eval m = .map (some b)) (h : MapF w b n f) (k : Int) (hx : a.eval x = .int .i64 k) (hk : wfI k)
    (hK : ∀ w', MapF w' b n (delF f k) → w.grownBy w' (some b) → wpList Tryd.prog ops Q rest (a.put o.dst (.tuple #[])) w') : wpList Tryd.prog ops Q (o :: rest) a w := by
  obtain ⟨D, hown, hf⟩ := h
  exact wpList_delete_own w hg m x _ _ hop _ keyedInt Tryd.underlying71 elemR b n D hm hown _ _ hx (keyInt hk) fun w' h1 h2 => hK w' ⟨_, h1, hf.del k⟩ h2.grown
end

/-- A map ranged over: what it holds; which of its keys are still to come, how many. -/
def RanF (w : World) (b r n : Nat) (f : Ent) (left : Int → Bool) (cnt : Nat) : Prop := ∃ (D : DataW Value) (lf : Lit → Bool), w.ranges Tryd.prog 3 elemR b r n D lf cnt ∧ FitsD D f ∧ ∀ v, lf (.int .i64 v) = left v
theorem RanF.frame {w w' : World} {b r n cnt : Nat} {f : Ent} {left : Int → Bool} (h : RanF w b r n f left cnt) (hb : w'.heap[b]? = w.heap[b]?) (hr : w'.heap[r]? = w.heap[r]?) : RanF w' b r n f left cnt := by
  obtain ⟨D, lf, ⟨es, clock, since, seen, c0, h1, h2, h3, h4, h5, h6⟩, hf, hl⟩ := h
  exact ⟨D, lf, ⟨es, clock, since, seen, c0, hb.trans h1, h2, h3, h4, hr.trans h5, h6⟩, hf, hl⟩
theorem RanF.lt {w : World} {b r n cnt : Nat} {f : Ent} {left : Int → Bool} (h : RanF w b r n f left cnt) : b < w.heap.size ∧ r < w.heap.size ∧ r ≠ b := by
  obtain ⟨D, lf, h1, _⟩ := h
  exact ⟨h1.owns.lt, h1.lt, h1.ne⟩
theorem RanF.left_eq {w : World} {b r n cnt : Nat} {f : Ent} {left : Int → Bool} (h : RanF w b r n f left cnt) : w.rangeLeft b r = cnt := by
  obtain ⟨D, lf, h1, _⟩ := h
  exact h1.left_eq
theorem RanF.kept {w w' : World} {b r n cnt : Nat} {f : Ent} {left : Int → Bool} (h : RanF w b r n f left cnt) (hb : Below w.heap.size w w') : RanF w' b r n f left cnt := h.frame (hb.block b h.lt.1) (hb.block r h.lt.2.1)
section
variable (w : World) {ops : Array Oper} {rest : List Oper} {o : Oper} {a : Act} {Q : Exit → Act → World → Prop}
theorem wpList_rangeF (hg : o.guard = none) (m : Operand) (hop : o.op = Op.range 71 m) (b n : Nat) (f : Ent) (hm : a.eval m = .map (some b)) (h : MapF w b n f)
    (hK : ∀ w' cnt, cnt ≤ n → RanF w' b w.heap.size n f (fun v => (f v).isSome) cnt → Below w.heap.size w w' → w'.heap.size = w.heap.size + 1 → wpList Tryd.prog ops Q rest (a.put o.dst (.pointer (some ⟨w.heap.size, 0, none⟩))) w') : wpList Tryd.prog ops Q (o :: rest) a w := by
  obtain ⟨D, hown, hf⟩ := h
  exact wpList_range_own w hg m _ hop _ _ keyedInt Tryd.underlying71 elemR b n D hm hown fun w' h1 h2 h3 => hK w' _ hown.size_le ⟨D, _, h1, hf, fun v => hf.has v⟩ ⟨h2.os, h2.tape, h2.output, h2.size, fun i hi => h2.block i hi (by simp)⟩ h3
theorem wpList_nextF (hg : o.guard = none) (it : Operand) (hop : o.op = Op.next it false) (b r n cnt : Nat) (f : Ent) (left : Int → Bool) (hit : a.eval it = .pointer (some ⟨r, 0, none⟩)) (h : RanF w b r n f left cnt)
    (hDone : cnt = 0 → (∀ v, left v = false) → wpList Tryd.prog ops Q rest (a.put o.dst (.tuple #[.bool false])) w)
    (hMore : ∀ (v : Int) (t : Tm) (U : Value) (w' : World) (cnt' : Nat), wfI v → left v = true → f v = some (t, U) → RanF w' b r n f (fun x => left x && !decide (x = v)) cnt' → cnt' < cnt → w.grownBy w' (some r) → w'.heap.size = w.heap.size →
      (Instr.entry (.pointer (some ⟨r, 0, none⟩))).run Tryd.prog w' = .ok (.tuple #[.int .i64 v, .agg #[.int .i64 t.kind, .int .i64 t.num, .string t.name, U]]) w' →
      wpList Tryd.prog ops Q rest (a.put o.dst (.tuple #[.bool true, .int .i64 v, .agg #[.int .i64 t.kind, .int .i64 t.num, .string t.name, U]])) w') : wpList Tryd.prog ops Q (o :: rest) a w := by
  obtain ⟨D, lf, hr, hf, hl⟩ := h
  refine wpList_next_ranges w hg it hop _ keyedInt elemR (Value.int .i64) celV (fun key kl hk => by obtain ⟨x, rfl, _⟩ := Maps.keyOf_int_inv Tryd.underlying3 hk; exact ⟨x, rfl⟩) (fun v y hv => by obtain ⟨c, rfl, _⟩ := elemR_inv hv; exact ⟨c, rfl⟩) b r n D lf cnt hit hr (fun h0 hl0 => hDone h0 fun v => by rw [← hl v]; exact hl0 _) ?_
  intro x c kl y w' cnt' hkey hlk hv hat hrg hlt hgr hsz hen
  obtain ⟨x', ex, rfl, hwx⟩ := Maps.keyOf_int_inv Tryd.underlying3 hkey
  simp only [Value.int.injEq, true_and] at ex
  subst ex
  obtain ⟨c', hc', hy⟩ := elemR_inv hv
  have hhas : Maps.has D (.int .i64 x) = true := Maps.has_true_of_atKey hat
  rw [hf.has x] at hhas
  obtain ⟨p, hp⟩ := Option.isSome_iff_exists.1 hhas
  obtain ⟨t, U⟩ := p
  have h1 := (hf x).2 _ hp (.held (celV c))
  rw [hat, hy] at h1
  simp only [DataW.held.injEq] at h1
  obtain rfl := celV_inj h1
  refine hMore x t U w' cnt' hwx (by rw [← hl x]; exact hlk) hp ⟨D, _, hrg, hf, fun v => ?_⟩ hlt hgr hsz hen
  show (lf (.int .i64 v) && !(Lit.int .i64 v).sameKey (.int .i64 x)) = _
  rw [hl v]
  by_cases e : v = x
  · subst e; rw [WideAt.sameKey_self (litInt v)]; simp
  · rw [Maps.sameKey_ne (litInt_ne e)]; simp [e]
end
end Go.Proofs.YtjmmeccfjanpcaaDoor

