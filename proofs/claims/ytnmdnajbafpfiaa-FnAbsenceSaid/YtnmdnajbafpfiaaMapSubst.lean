/-
  Maps from variables to terms: what a map's block holds; an entry looked up, stored, struck; the map ranged over.
  The program's view of a substitution, plain: what a map of its bindings holds; whether a term has a bound variable; what its check looks at; how much room a replaced term leaves.
  The program's maps of bindings: mapOf, termFor, copied bindings, a binding looked at alone, variables.
  A term looked up in the program's map; a binding's variable, a binding looked at alone, a binding copied.
  Whether a term has a variable that the program's map binds: slices.IndexFunc, slices.ContainsFunc over a method value, bindsIn.
  SubstOk of the program. (Written by wip/tools/gen_substok.py.)
-/
import Derived.Test.YtnmdnajbafpfiaaSubstT
import Derived.Maps.OwnSet
import Derived.Maps.RangeWalk
import Derived.Deep.RegionHeld3
import Derived.Deep.Cut
import Derived.IntWalk
namespace Go.Proofs.Ytnmdnajbafpfiaa
open Go.RowKit
open Go.Maps (Keyed)
set_option linter.unusedVariables false
set_option linter.unusedSimpArgs false

/-- A term's value: its three plain parts, the value of its slice. -/
structure Cel where
  k : Int
  i : Int
  s : ByteArray
  u : Value
def celV (c : Cel) : Value := .agg #[.int .i64 c.k, .int .i64 c.i, .string c.s, c.u]
def celT (t : Tm) (U : Value) : Cel := ⟨t.kind, t.num, t.name, U⟩
theorem celV_inj {a b : Cel} (h : celV a = celV b) : a = b := by
  cases a; cases b
  simp only [celV, Value.agg.injEq, Array.mk.injEq, List.cons.injEq, Value.int.injEq, Value.string.injEq, true_and, and_true] at h
  obtain ⟨rfl, rfl, rfl, rfl⟩ := h
  rfl
open Classical in
noncomputable def elemR (v : Value) : Option (DataW Value × List MemPlace) := if ∃ c, v = celV c then some (.held v, []) else none
theorem elemR_mk (c : Cel) : elemR (celV c) = some (.held (celV c), []) := by rw [elemR, if_pos ⟨c, rfl⟩]
theorem elemR_inv {v : Value} {y : DataW Value × List MemPlace} (h : elemR v = some y) : ∃ c, v = celV c ∧ y = (.held v, []) := by
  unfold elemR at h
  split at h
  · rename_i hc
    obtain ⟨c, hc⟩ := hc
    cases h
    exact ⟨c, hc, rfl⟩
  · cases h
theorem wfI_of {v : Int} (h0 : -9223372036854775808 ≤ v) (h1 : v ≤ 9223372036854775807) : wfI v := by
  unfold wfI
  simp [Lit.wf]
  first | exact ⟨h0, h1⟩ | omega | (constructor <;> omega)
theorem keyedInt : Keyed Try.prog 3 := Go.Maps.int_keyed Try.underlying3
theorem keyInt {v : Int} (h : wfI v) : keyOf Try.prog 3 (.int .i64 v) = some (.int .i64 v) := Go.Maps.keyOf_int_mk Try.underlying3 h
theorem litInt (v : Int) : WideAt.IsKeyLit (.int .i64 v) := trivial
theorem litInt_ne {v x : Int} (h : ¬ x = v) : Lit.int .i64 x ≠ Lit.int .i64 v := fun e => h (by cases e; rfl)
theorem zeroTermE (w : World) : (zeroValue 28).run Try.prog w = .ok (celV ⟨0, 0, ⟨#[]⟩, .slice none 0 0⟩) w := by kernel_rfl

/-- What a map holds, by the number of the variable: a term, and its slice. -/
abbrev Ent := Int → Option (Tm × Value)
def FitsD (D : DataW Value) (f : Ent) : Prop := ∀ v, (f v = none → Maps.has D (.int .i64 v) = false) ∧ (∀ p, f v = some p → ∀ zd, D.atKey (.int .i64 v) zd = .held (celV (celT p.1 p.2)))
def MapF (w : World) (b n : Nat) (f : Ent) : Prop := ∃ D : DataW Value, w.ownsMap Try.prog 3 elemR b n D ∧ FitsD D f
theorem FitsD.has {D : DataW Value} {f : Ent} (h : FitsD D f) (v : Int) : Maps.has D (.int .i64 v) = (f v).isSome := by
  cases hf : f v with
  | none => rw [(h v).1 hf]; rfl
  | some p => rw [Maps.has_true_of_atKey ((h v).2 p hf)]; rfl
theorem MapF.frame {w w' : World} {b n : Nat} {f : Ent} (h : MapF w b n f) (hb : w'.heap[b]? = w.heap[b]?) : MapF w' b n f := by
  obtain ⟨D, ⟨es, clock, h1, h2⟩, h3⟩ := h
  exact ⟨D, ⟨es, clock, hb.trans h1, h2⟩, h3⟩
theorem MapF.lt {w : World} {b n : Nat} {f : Ent} (h : MapF w b n f) : b < w.heap.size := by obtain ⟨D, h1, _⟩ := h; exact h1.lt
theorem MapF.kept {w w' : World} {b n : Nat} {f : Ent} (h : MapF w b n f) (hb : Below w.heap.size w w') : MapF w' b n f := h.frame (hb.block b h.lt)
theorem mapF_made (w : World) : MapF (w.alloc (.map #[] 0)) w.heap.size 0 (fun _ => none) :=
  ⟨.map [], World.ownsMap_made w _ _ _, fun v => ⟨fun _ => rfl, fun p h => by cases h⟩⟩
def updF (f : Ent) (v : Int) (p : Tm × Value) : Ent := fun x => if x = v then some p else f x
def delF (f : Ent) (v : Int) : Ent := fun x => if x = v then none else f x
theorem updF_self (f : Ent) (v : Int) (p : Tm × Value) : updF f v p v = some p := if_pos rfl
theorem updF_ne (f : Ent) {v x : Int} (p : Tm × Value) (h : ¬ x = v) : updF f v p x = f x := if_neg h
theorem delF_self (f : Ent) (v : Int) : delF f v v = none := if_pos rfl
theorem delF_ne (f : Ent) {v x : Int} (h : ¬ x = v) : delF f v x = f x := if_neg h
theorem FitsD.put {D : DataW Value} {f : Ent} (h : FitsD D f) (hm : Maps.IsMap D) (v : Int) (p : Tm × Value) : FitsD (D.put (.int .i64 v) (.held (celV (celT p.1 p.2)))) (updF f v p) := by
  intro x
  by_cases e : x = v
  · subst e
    rw [updF_self]
    refine ⟨(fun h => by cases h), fun q hq zd => ?_⟩
    cases hq
    exact Maps.atKey_put_same hm (litInt x) _ _
  · rw [updF_ne f p e]
    refine ⟨fun hx => ?_, fun q hq zd => ?_⟩
    · rw [Maps.has_put_other (litInt_ne e)]; exact (h x).1 hx
    · rw [Maps.atKey_put_other (litInt_ne e)]; exact (h x).2 q hq zd
theorem FitsD.del {D : DataW Value} {f : Ent} (h : FitsD D f) (v : Int) : FitsD (D.del (.int .i64 v)) (delF f v) := by
  intro x
  by_cases e : x = v
  · subst e
    rw [delF_self]
    exact ⟨fun _ => Maps.has_del_same, (fun q hq => by cases hq)⟩
  · rw [delF_ne f e]
    refine ⟨fun hx => ?_, fun q hq zd => ?_⟩
    · rw [Maps.has_del_other (litInt_ne e)]; exact (h x).1 hx
    · rw [Maps.atKey_del_other (litInt_ne e)]; exact (h x).2 q hq zd

/-- 'x, ok := m[v]'. -/
theorem MapF.look {w : World} {b n : Nat} {f : Ent} (h : MapF w b n f) {v : Int} (hv : wfI v) :
    (Instr.lookup 117 (.map (some b)) (.int .i64 v) true).run Try.prog w = .ok (match f v with | none => .tuple #[.agg #[.int .i64 0, .int .i64 0, .string ⟨#[]⟩, .slice none 0 0], .bool false] | some p => .tuple #[.agg #[.int .i64 p.1.kind, .int .i64 p.1.num, .string p.1.name, p.2], .bool true]) w := by
  obtain ⟨D, hown, hf⟩ := h
  obtain ⟨u, ps, hrun, hu⟩ := hown.look_ok keyedInt Try.underlying117 (zeroTermE w) (elemR_mk _) (keyInt hv)
  obtain ⟨c, rfl, hy⟩ := elemR_inv hu
  simp only [Prod.mk.injEq] at hy
  rw [hrun]
  cases hfv : f v with
  | none =>
    have h1 := (hf v).1 hfv
    rw [h1]
    have h2 := hy.1
    rw [Maps.atKey_of_not_has h1] at h2
    simp only [DataW.held.injEq] at h2
    rw [← h2]
    rfl
  | some p =>
    have h1 := (hf v).2 p hfv
    rw [Maps.has_true_of_atKey h1]
    have h2 := hy.1
    rw [h1] at h2
    simp only [DataW.held.injEq] at h2
    rw [← h2]
    rfl
theorem MapF.look_no {w : World} {b n : Nat} {f : Ent} (h : MapF w b n f) {v : Int} (hv : wfI v) (hf : f v = none) :
    (Instr.lookup 117 (.map (some b)) (.int .i64 v) true).run Try.prog w = .ok (.tuple #[.agg #[.int .i64 0, .int .i64 0, .string ⟨#[]⟩, .slice none 0 0], .bool false]) w := by rw [h.look hv, hf]
theorem MapF.look_yes {w : World} {b n : Nat} {f : Ent} (h : MapF w b n f) {v : Int} (hv : wfI v) {t : Tm} {U : Value} (hf : f v = some (t, U)) :
    (Instr.lookup 117 (.map (some b)) (.int .i64 v) true).run Try.prog w = .ok (.tuple #[.agg #[.int .i64 t.kind, .int .i64 t.num, .string t.name, U], .bool true]) w := by rw [h.look hv, hf]

section
variable (w : World) {ops : Array Oper} {rest : List Oper} {o : Oper} {a : Act} {Q : Exit → Act → World → Prop}
/-- 'm[v] = t'. -/
theorem wpList_put (hg : o.guard = none) (m x v : Operand) (hop : o.op = Op.mapUpdate 117 m x v) (b n : Nat) (f : Ent) (hm : a.eval m = .map (some b)) (h : MapF w b n f) (hn : n < maxLen) (k : Int) (hx : a.eval x = .int .i64 k) (hk : wfI k)
    (t : Tm) (U : Value) (hv : a.eval v = .agg #[.int .i64 t.kind, .int .i64 t.num, .string t.name, U]) (hK : ∀ w', MapF w' b (n + 1) (updF f k (t, U)) → w.grownBy w' (some b) → wpList Try.prog ops Q rest (a.put o.dst undef) w') : wpList Try.prog ops Q (o :: rest) a w := by
  obtain ⟨D, hown, hf⟩ := h
  exact wpList_mapUpdate_in w hg m x v _ hop _ _ keyedInt Try.underlying117 elemR b n D hm hown hn _ _ _ hx hv (keyInt hk) _ [] (elemR_mk (celT t U)) fun w' h1 h2 => hK w' ⟨_, h1, hf.put hown.isMap k (t, U)⟩ h2.grown
/-- 'delete(m, v)'. -/
theorem wpList_del (hg : o.guard = none) (m x : Operand) (hop : o.op = Op.call { callee := Callee.builtin Builtin.delete, args := #[m, x], argTypes := #[117, 3] }) (b n : Nat) (f : Ent) (hm : a.eval m = .map (some b)) (h : MapF w b n f) (k : Int) (hx : a.eval x = .int .i64 k) (hk : wfI k)
    (hK : ∀ w', MapF w' b n (delF f k) → w.grownBy w' (some b) → wpList Try.prog ops Q rest (a.put o.dst (.tuple #[])) w') : wpList Try.prog ops Q (o :: rest) a w := by
  obtain ⟨D, hown, hf⟩ := h
  exact wpList_delete_own w hg m x _ _ hop _ keyedInt Try.underlying117 elemR b n D hm hown _ _ hx (keyInt hk) fun w' h1 h2 => hK w' ⟨_, h1, hf.del k⟩ h2.grown
end

/-- A map ranged over: what it holds; which of its keys are still to come, how many. -/
def RanF (w : World) (b r n : Nat) (f : Ent) (left : Int → Bool) (cnt : Nat) : Prop := ∃ (D : DataW Value) (lf : Lit → Bool), w.ranges Try.prog 3 elemR b r n D lf cnt ∧ FitsD D f ∧ ∀ v, lf (.int .i64 v) = left v
theorem RanF.frame {w w' : World} {b r n cnt : Nat} {f : Ent} {left : Int → Bool} (h : RanF w b r n f left cnt) (hb : w'.heap[b]? = w.heap[b]?) (hr : w'.heap[r]? = w.heap[r]?) : RanF w' b r n f left cnt := by
  obtain ⟨D, lf, ⟨es, clock, since, seen, c0, h1, h2, h3, h4, h5, h6⟩, hf, hl⟩ := h
  exact ⟨D, lf, ⟨es, clock, since, seen, c0, hb.trans h1, h2, h3, h4, hr.trans h5, h6⟩, hf, hl⟩
theorem RanF.lt {w : World} {b r n cnt : Nat} {f : Ent} {left : Int → Bool} (h : RanF w b r n f left cnt) : b < w.heap.size ∧ r < w.heap.size ∧ r ≠ b := by
  obtain ⟨D, lf, h1, _⟩ := h
  exact ⟨h1.owns.lt, h1.lt, h1.ne⟩
theorem RanF.left_eq {w : World} {b r n cnt : Nat} {f : Ent} {left : Int → Bool} (h : RanF w b r n f left cnt) : w.rangeLeft b r = cnt := by
  obtain ⟨D, lf, h1, _⟩ := h
  exact h1.left_eq
theorem RanF.kept {w w' : World} {b r n cnt : Nat} {f : Ent} {left : Int → Bool} (h : RanF w b r n f left cnt) (hb : Below w.heap.size w w') : RanF w' b r n f left cnt := h.frame (hb.block b h.lt.1) (hb.block r h.lt.2.1)
section
variable (w : World) {ops : Array Oper} {rest : List Oper} {o : Oper} {a : Act} {Q : Exit → Act → World → Prop}
theorem wpList_rangeF (hg : o.guard = none) (m : Operand) (hop : o.op = Op.range 117 m) (b n : Nat) (f : Ent) (hm : a.eval m = .map (some b)) (h : MapF w b n f)
    (hK : ∀ w' cnt, cnt ≤ n → RanF w' b w.heap.size n f (fun v => (f v).isSome) cnt → Below w.heap.size w w' → w'.heap.size = w.heap.size + 1 → wpList Try.prog ops Q rest (a.put o.dst (.pointer (some ⟨w.heap.size, 0, none⟩))) w') : wpList Try.prog ops Q (o :: rest) a w := by
  obtain ⟨D, hown, hf⟩ := h
  exact wpList_range_own w hg m _ hop _ _ keyedInt Try.underlying117 elemR b n D hm hown fun w' h1 h2 h3 => hK w' _ hown.size_le ⟨D, _, h1, hf, fun v => hf.has v⟩ ⟨h2.os, h2.tape, h2.output, h2.size, fun i hi => h2.block i hi (by simp)⟩ h3
theorem wpList_nextF (hg : o.guard = none) (it : Operand) (hop : o.op = Op.next it false) (b r n cnt : Nat) (f : Ent) (left : Int → Bool) (hit : a.eval it = .pointer (some ⟨r, 0, none⟩)) (h : RanF w b r n f left cnt)
    (hDone : cnt = 0 → (∀ v, left v = false) → wpList Try.prog ops Q rest (a.put o.dst (.tuple #[.bool false])) w)
    (hMore : ∀ (v : Int) (t : Tm) (U : Value) (w' : World) (cnt' : Nat), wfI v → left v = true → f v = some (t, U) → RanF w' b r n f (fun x => left x && !decide (x = v)) cnt' → cnt' < cnt → w.grownBy w' (some r) → w'.heap.size = w.heap.size →
      (Instr.entry (.pointer (some ⟨r, 0, none⟩))).run Try.prog w' = .ok (.tuple #[.int .i64 v, .agg #[.int .i64 t.kind, .int .i64 t.num, .string t.name, U]]) w' →
      wpList Try.prog ops Q rest (a.put o.dst (.tuple #[.bool true, .int .i64 v, .agg #[.int .i64 t.kind, .int .i64 t.num, .string t.name, U]])) w') : wpList Try.prog ops Q (o :: rest) a w := by
  obtain ⟨D, lf, hr, hf, hl⟩ := h
  refine wpList_next_ranges w hg it hop _ keyedInt elemR (Value.int .i64) celV (fun key kl hk => by obtain ⟨x, rfl, _⟩ := Maps.keyOf_int_inv Try.underlying3 hk; exact ⟨x, rfl⟩) (fun v y hv => by obtain ⟨c, rfl, _⟩ := elemR_inv hv; exact ⟨c, rfl⟩) b r n D lf cnt hit hr (fun h0 hl0 => hDone h0 fun v => by rw [← hl v]; exact hl0 _) ?_
  intro x c kl y w' cnt' hkey hlk hv hat hrg hlt hgr hsz hen
  obtain ⟨x', ex, rfl, hwx⟩ := Maps.keyOf_int_inv Try.underlying3 hkey
  simp only [Value.int.injEq, true_and] at ex
  subst ex
  obtain ⟨c', hc', hy⟩ := elemR_inv hv
  have hhas : Maps.has D (.int .i64 x) = true := Maps.has_true_of_atKey hat
  rw [hf.has x] at hhas
  obtain ⟨p, hp⟩ := Option.isSome_iff_exists.1 hhas
  obtain ⟨t, U⟩ := p
  have h1 := (hf x).2 _ hp (.held (celV c))
  rw [hat, hy] at h1
  simp only [DataW.held.injEq] at h1
  obtain rfl := celV_inj h1
  refine hMore x t U w' cnt' hwx (by rw [← hl x]; exact hlk) hp ⟨D, _, hrg, hf, fun v => ?_⟩ hlt hgr hsz hen
  show (lf (.int .i64 v) && !(Lit.int .i64 v).sameKey (.int .i64 x)) = _
  rw [hl v]
  by_cases e : v = x
  · subst e; rw [WideAt.sameKey_self (litInt v)]; simp
  · rw [Maps.sameKey_ne (litInt_ne e)]; simp [e]
end
end Go.Proofs.Ytnmdnajbafpfiaa

namespace Go.Proofs.Ytnmdnajbafpfiaa
open Go.RowKit
set_option linter.unusedVariables false
set_option linter.unusedSimpArgs false

/-- The last binding of a variable. -/
def lastO (s : List Bd) (v : Int) : Option Tm := getO s.reverse v
theorem lastO_nil (v : Int) : lastO [] v = none := rfl
theorem lastO_snoc (s : List Bd) (x : Bd) (v : Int) : lastO (s ++ [x]) v = if x.v = v then some x.t else lastO s v := by
  unfold lastO
  rw [List.reverse_append]
  simp only [List.reverse_cons, List.reverse_nil, List.nil_append, List.singleton_append]
  rw [getO]
theorem lastO_take {s : List Bd} {k : Nat} {x : Bd} (hx : s[k]? = some x) (v : Int) : lastO (s.take (k + 1)) v = if x.v = v then some x.t else lastO (s.take k) v := by rw [takeE hx, lastO_snoc]
theorem lastO_none {s : List Bd} {v : Int} : lastO s v = none ↔ getO s v = none := by
  unfold lastO
  rw [getO_none, getO_none]
  simp
theorem lastO_some {s : List Bd} {v : Int} {t : Tm} (h : lastO s v = some t) : ∃ b ∈ s, b.v = v ∧ b.t = t := by
  obtain ⟨b, hb, h1⟩ := getO_some h
  exact ⟨b, by simpa using hb, h1⟩
def Uniq (s : List Bd) : Prop := ∀ b ∈ s, ∀ c ∈ s, b.v = c.v → b.t = c.t
theorem getO_uniq {s : List Bd} (hu : Uniq s) {b : Bd} (hb : b ∈ s) : getO s b.v = some b.t := by
  cases hg : getO s b.v with
  | none => exact absurd rfl (getO_none.1 hg b hb)
  | some t =>
    obtain ⟨c, hc, h1, h2⟩ := getO_some hg
    rw [← h2, hu c hc b hb h1]
theorem asc_all {s : List Bd} (h : ∀ (k : Nat) (x y : Bd), s[k]? = some x → s[k + 1]? = some y → x.v < y.v) : ∀ (d i : Nat) (x y : Bd), s[i]? = some x → s[i + 1 + d]? = some y → x.v < y.v
  | 0, i, x, y, hx, hy => h i x y hx hy
  | d + 1, i, x, y, hx, hy => by
    have hl := (List.getElem?_eq_some_iff.1 hy).1
    obtain ⟨z, hz⟩ : ∃ z, s[i + 1 + d]? = some z := ⟨_, List.getElem?_eq_getElem (by omega)⟩
    have h1 := asc_all h d i x z hx hz
    have h2 := h (i + 1 + d) z y hz (by rw [show i + 1 + d + 1 = i + 1 + (d + 1) from by omega]; exact hy)
    omega
theorem ValuesP.less {s : List Bd} (h : ValuesP s) {i j : Nat} {x y : Bd} (hij : i < j) (hx : s[i]? = some x) (hy : s[j]? = some y) : x.v < y.v :=
  asc_all h.2.1 (j - i - 1) i x y hx (by rw [show i + 1 + (j - i - 1) = j from by omega]; exact hy)
theorem ValuesP.uniq {s : List Bd} (h : ValuesP s) : Uniq s := fun b hb c hc e => by
  obtain ⟨i, hi⟩ := List.getElem?_of_mem hb
  obtain ⟨j, hj⟩ := List.getElem?_of_mem hc
  rcases Nat.lt_trichotomy i j with hlt | rfl | hlt
  · have := h.less hlt hi hj; omega
  · cases hi.symm.trans hj; rfl
  · have := h.less hlt hj hi; omega
theorem lastO_subst {s : List Bd} (h : SubstP s) (v : Int) : lastO s v = getO s v := by
  cases hg : lastO s v with
  | none => exact (lastO_none.1 hg).symm
  | some t =>
    obtain ⟨b, hb, rfl, rfl⟩ := lastO_some hg
    exact (getO_uniq h.1.uniq hb).symm

/-- Whether a term has a bound variable. -/
def anyG (g : Int → Option Tm) (t : Tm) : Bool := t.vl.any fun v => (g v).isSome
theorem anyG_var {g : Int → Option Tm} {t : Tm} (h : t.kind = 1) : anyG g t = (g t.num).isSome := by
  rw [anyG, vl_eq, if_pos h]; simp
theorem vlL_any (p : Int → Bool) : ∀ l : List Tm, (vlL l).any p = l.any fun t => t.vl.any p
  | [] => by rw [vlL_nil]; rfl
  | t :: l => by rw [vlL, List.any_append, vlL_any p l, List.any_cons]
theorem anyG_args {g : Int → Option Tm} {t : Tm} (h : ¬ t.kind = 1) : anyG g t = t.args.any (anyG g) := by
  rw [anyG, vl_eq, if_neg h, vlL_any]; rfl
theorem anyG_false {g : Int → Option Tm} {t : Tm} : anyG g t = false ↔ ∀ v ∈ t.vl, g v = none := by
  unfold anyG
  rw [List.any_eq_false]
  constructor
  · intro h v hv
    have := h v hv
    simpa using this
  · intro h v hv
    rw [h v hv]; simp

/-- What the program's check asks of one binding alone; of one among the others. -/
def AloneP (b : Bd) : Prop := (0 ≤ b.v ∧ b.v ≤ 100000) ∧ Ok b.t ∧ ¬ (b.t.kind = 1 ∧ b.v ≤ b.t.num)
open Classical in
noncomputable def aloneB (b : Bd) : Bool := decide (AloneP b)
theorem aloneB_true {b : Bd} : aloneB b = true ↔ AloneP b := by simp [aloneB]
theorem aloneB_false {b : Bd} : aloneB b = false ↔ ¬ AloneP b := by simp [aloneB]
def PlaceP (s : List Bd) (i : Nat) (b : Bd) : Prop := AloneP b ∧ anyG (lastO s) b.t = false ∧ (∀ (j : Nat) (c : Bd), i = j + 1 → s[j]? = some c → c.v < b.v)
theorem subst_places {s : List Bd} (hl : s.length ≤ 400) (h : ∀ (i : Nat) (b : Bd), i < s.length → s[i]? = some b → PlaceP s i b) : SubstP s := by
  refine ⟨⟨fun k x hx => ?_, fun k x y hx hy => ?_, hl⟩, fun b hb => ?_⟩
  · have := (h k x (List.getElem?_eq_some_iff.1 hx).1 hx).1
    exact ⟨this.1, this.2.1⟩
  · exact (h (k + 1) y (List.getElem?_eq_some_iff.1 hy).1 hy).2.2 k x rfl hx
  · obtain ⟨i, hi⟩ := List.getElem?_of_mem hb
    have := h i b (List.getElem?_eq_some_iff.1 hi).1 hi
    exact ⟨this.1.2.2, fun v hv => lastO_none.1 (anyG_false.1 this.2.1 v hv)⟩
theorem places_of {s : List Bd} (h : SubstP s) {i : Nat} {b : Bd} (hb : s[i]? = some b) : PlaceP s i b := by
  have h1 := h.1.1 i b hb
  have h2 := h.2 b (List.mem_of_getElem? hb)
  exact ⟨⟨h1.1, h1.2, h2.1⟩, anyG_false.2 fun v hv => lastO_none.2 (h2.2 v hv), fun j c hij hc => by subst hij; exact h.1.2.1 j c b hc hb⟩

/-- How much room is left behind n nodes; below 0 where there are more. -/
def RoomP (n : Nat) (room r : Int) : Prop := ((n : Int) ≤ room → r = room - n) ∧ (room < n → r < 0) ∧ -5000 ≤ r ∧ r ≤ room
theorem putT_atom_nodes {s : List Bd} {t : Tm} (h1 : ¬ t.kind = 1) (h4 : ¬ t.kind = 4) : (putT s t) = t := putT_atom h1 h4
theorem nodesL_map_take {s : List Bd} {l : List Tm} {j : Nat} {t : Tm} (h : l[j]? = some t) : nodesL ((l.take (j + 1)).map (putT s)) = nodesL ((l.take j).map (putT s)) + (putT s t).nodes := by
  rw [take_snoc h, List.map_append, nodesL_append]; simp [nodesL]
end Go.Proofs.Ytnmdnajbafpfiaa

namespace Go.Proofs.Ytnmdnajbafpfiaa
open Go.RowKit
set_option linter.unusedVariables false
set_option linter.unusedSimpArgs false

theorem Good.var_range {t : Tm} (h : Good t) (hk : t.kind = 1) : 0 ≤ t.num ∧ t.num ≤ 100000 := by
  cases h with
  | var i h0 h1 => exact ⟨h0, h1⟩
  | nil => simp [Tm.kind] at hk
  | sym s h => simp [Tm.kind] at hk
  | int i h0 h1 => simp [Tm.kind] at hk
  | pair a b ha hb => simp [Tm.kind] at hk
/-- A map of a world that holds at each variable the term that g says, with its arguments in the world. -/
def MapG (w : World) (b : Nat) (g : Int → Option Tm) : Prop := ∃ (n : Nat) (f : Ent), n ≤ 1048576 ∧ MapF w b n f ∧ (∀ v, (f v).map Prod.fst = g v) ∧ ∀ v p, f v = some p → ArgsAt w p.2 p.1.args
theorem MapG.lt {w : World} {b : Nat} {g : Int → Option Tm} (h : MapG w b g) : b < w.heap.size := by obtain ⟨n, f, _, h1, _⟩ := h; exact h1.lt
theorem MapG.kept {w w' : World} {b : Nat} {g : Int → Option Tm} (h : MapG w b g) (hb : Below w.heap.size w w') : MapG w' b g := by
  obtain ⟨n, f, hn, h1, h2, h3⟩ := h
  exact ⟨n, f, hn, h1.kept hb, h2, fun v p hp => (h3 v p hp).kept hb⟩
theorem MapG.same {w : World} {b : Nat} {g g' : Int → Option Tm} (h : MapG w b g) (hg : ∀ v, g v = g' v) : MapG w b g' := by
  have : g = g' := funext hg
  subst this
  exact h
/-- Looked up: the term and its slice, or nothing. -/
theorem MapG.look {w : World} {b : Nat} {g : Int → Option Tm} (h : MapG w b g) {v : Int} (hv : wfI v) :
    (g v = none ∧ (Instr.lookup 117 (.map (some b)) (.int .i64 v) true).run Try.prog w = .ok (.tuple #[.agg #[.int .i64 0, .int .i64 0, .string ⟨#[]⟩, .slice none 0 0], .bool false]) w) ∨
    ∃ t a c, g v = some t ∧ ArgsAt w (.slice a t.args.length c) t.args ∧ (Instr.lookup 117 (.map (some b)) (.int .i64 v) true).run Try.prog w = .ok (.tuple #[.agg #[.int .i64 t.kind, .int .i64 t.num, .string t.name, .slice a t.args.length c], .bool true]) w := by
  obtain ⟨n, f, hn, h1, h2, h3⟩ := h
  cases hf : f v with
  | none => exact .inl ⟨by rw [← h2 v, hf]; rfl, h1.look_no hv hf⟩
  | some p =>
    obtain ⟨t, U⟩ := p
    have hA := h3 v _ hf
    obtain ⟨a, c, hU⟩ := hA.slice
    have hU' : U = .slice a t.args.length c := hU
    subst hU'
    exact .inr ⟨t, a, c, by rw [← h2 v, hf]; rfl, hA, h1.look_yes hv hf⟩
theorem MapG.lookW {w : World} {b : Nat} {g : Int → Option Tm} (h : MapG w b g) {v : Int} (hv : wfI v) :
    (g v = none ∧ ∀ W, Below w.heap.size w W → (Instr.lookup 117 (.map (some b)) (.int .i64 v) true).run Try.prog W = .ok (.tuple #[.agg #[.int .i64 0, .int .i64 0, .string ⟨#[]⟩, .slice none 0 0], .bool false]) W) ∨
    ∃ t a c, g v = some t ∧ ArgsAt w (.slice a t.args.length c) t.args ∧ ∀ W, Below w.heap.size w W → (Instr.lookup 117 (.map (some b)) (.int .i64 v) true).run Try.prog W = .ok (.tuple #[.agg #[.int .i64 t.kind, .int .i64 t.num, .string t.name, .slice a t.args.length c], .bool true]) W := by
  obtain ⟨n, f, hn, h1, h2, h3⟩ := h
  cases hf : f v with
  | none => exact .inl ⟨by rw [← h2 v, hf]; rfl, fun W hW => (h1.kept hW).look_no hv hf⟩
  | some p =>
    obtain ⟨t, U⟩ := p
    have hA := h3 v _ hf
    obtain ⟨a, c, hU⟩ := hA.slice
    have hU' : U = .slice a t.args.length c := hU
    subst hU'
    exact .inr ⟨t, a, c, by rw [← h2 v, hf]; rfl, hA, fun W hW => (h1.kept hW).look_yes hv hf⟩

/-- The same, the arguments lying below lo. -/
def MapL (lo : Nat) (w : World) (b : Nat) (g : Int → Option Tm) : Prop := ∃ (n : Nat) (f : Ent), n ≤ 1048576 ∧ MapF w b n f ∧ (∀ v, (f v).map Prod.fst = g v) ∧ ∀ v p, f v = some p → ArgsS w (fun j => j < lo) p.2 p.1.args
theorem MapL.g {lo : Nat} {w : World} {b : Nat} {g : Int → Option Tm} (h : MapL lo w b g) : MapG w b g := by
  obtain ⟨n, f, h0, h1, h2, h3⟩ := h
  exact ⟨n, f, h0, h1, h2, fun v p hp => (h3 v p hp).at⟩

set_option maxRecDepth 100000 in
set_option maxHeartbeats 4000000 in
theorem mapOf_low (s : List Bd) (V : Value) (w : World) (hA : ListS bdE w Any V s) (hL : s.length ≤ 1048576) (hF : ∀ b ∈ s, wfI b.v) :
    Calls Try.prog 73 #[V] w fun e w' => ∃ b, e = .returned (.map (some b)) ∧ w.heap.size ≤ b ∧ MapL w.heap.size w' b (lastO s) ∧ Below w.heap.size w w' := by
  obtain ⟨a, cap, rfl⟩ := hA.slice
  have HA := Lib.hid hA
  have HF := Lib.hid hF
  have HM0 : Hid (MapF (w.alloc (.map #[] 0)) w.heap.size 0 (fun _ => none)) := Lib.hid (mapF_made w)
  have HW0 : Hid (Below w.heap.size w (w.alloc (.map #[] 0))) := Lib.hid (belowAlloc (Below.refl _ _) _)
  have hmm := @run_makeMap Try.prog
  clear hA hF
  go_enter Try.func73, Try.ntmps73
  go_wp2
  clear hmm
  go_loopw [9] (fun iv wr => ∃ k : Nat, k ≤ s.length ∧ iv = .int .i64 k ∧ Hid (∃ f : Ent, MapF wr w.heap.size k f ∧ (∀ v, (f v).map Prod.fst = lastO (s.take k) v) ∧ ∀ v p, f v = some p → ArgsS wr (fun j => j < w.heap.size) p.2 p.1.args) ∧ Hid (Below w.heap.size w wr)) (fun iv _ => s.length - (intOf iv).toNat)
  case atStart => exact ⟨0, Nat.zero_le _, rfl, Lib.hid ⟨_, HM0.out, fun v => rfl, fun v p h => by cases h⟩, HW0⟩
  case round =>
    obtain ⟨k, hk, rfl, HM, HB⟩ := hrel
    clear HM0 HW0
    by_cases hlt : k < s.length
    · have hltI : (k : Int) < (s.length : Int) := by omega
      obtain ⟨x, hx⟩ : ∃ x, s[k]? = some x := ⟨_, List.getElem?_eq_getElem hlt⟩
      obtain ⟨g, off, u1, u2, rfl, hg, hq, hc, hu⟩ := HA.out.bd hx
      obtain ⟨d0, d1, d2, d3, d4⟩ := hc wr HB.out
      have hwf := HF.out x (List.mem_of_getElem? hx)
      have HWF := Lib.hid hwf
      have HLT := Lib.hid (lastO_take hx)
      have HU := Lib.hid ((hu.low.sub (fun j hj => hj.2) : ArgsS w (fun j => j < w.heap.size) _ _).kept HB.out)
      clear hq hc hu hx hwf
      go_upto_region 5 with (fail)
      have hal : Below wr.heap.size wr (wr.alloc (.cells #[.int .i64 x.v, .int .i64 x.t.kind, .int .i64 x.t.num, .string x.t.name, .slice u1 x.t.args.length u2] 73)) := belowAlloc (Below.refl _ _) _
      have HBX := Lib.hid (at_box_of wr #[.int .i64 x.v, .int .i64 x.t.kind, .int .i64 x.t.num, .string x.t.name, .slice u1 x.t.args.length u2] 73 wr.heap.size rfl)
      have HB1 := Lib.hid (belowOn HB.out (Nat.le_refl _) hal)
      have HU1 := Lib.hid (HU.out.kept hal)
      have HM1 : Hid (∃ f : Ent, MapF (wr.alloc (.cells #[.int .i64 x.v, .int .i64 x.t.kind, .int .i64 x.t.num, .string x.t.name, .slice u1 x.t.args.length u2] 73)) w.heap.size k f ∧ (∀ v, (f v).map Prod.fst = lastO (s.take k) v) ∧ ∀ v p, f v = some p → ArgsS (wr.alloc (.cells #[.int .i64 x.v, .int .i64 x.t.kind, .int .i64 x.t.num, .string x.t.name, .slice u1 x.t.args.length u2] 73)) (fun j => j < w.heap.size) p.2 p.1.args) := Lib.hid (by
        obtain ⟨f, m1, m2, m3⟩ := HM.out
        exact ⟨f, m1.kept hal, m2, fun v p hp => (m3 v p hp).kept hal⟩)
      clear hal d0 d1 d2 d3 d4 HB HU HM
      generalize hw1 : wr.alloc (.cells #[.int .i64 x.v, .int .i64 x.t.kind, .int .i64 x.t.num, .string x.t.name, .slice u1 x.t.args.length u2] 73) = w1 at HBX HB1 HU1 HM1 ⊢
      clear hw1
      generalize wr.heap.size = nb at HBX ⊢
      obtain ⟨e0, e1, e2, e3, e4, ef⟩ := box_cells5 HBX.out.now
      obtain ⟨f, m1, m2, m3⟩ := HM1.out
      have HMF := Lib.hid m1
      have HM2 := Lib.hid (And.intro m2 m3)
      clear m1 m2 m3 HM1
      go_wp2_with (at_mapUpdate; refine wpList_put _ rfl _ _ _ rfl w.heap.size k f rfl HMF.out (by unfold maxLen; omega) x.v rfl HWF.out x.t (.slice u1 x.t.args.length u2) rfl ?_; intro w2 hm2 hg2; have HG := Lib.hid (And.intro hm2 hg2); clear hm2 hg2)
      have HB2 : Hid (Below w.heap.size w w2) := Lib.hid (HB1.out.trans (below_of_grown HG.out.2 HB1.out.size (fun j hj => by cases hj; exact Nat.le_refl _)))
      clear e0 e1 e2 e3 e4 ef
      go_roundw
      case rel =>
        refine ⟨k + 1, by omega, by go_num, Lib.hid ⟨_, HG.out.1, fun v => ?_, fun v p hp => ?_⟩, HB2⟩
        · rw [HLT.out v]
          by_cases hv : v = x.v
          · rw [hv, updF_self, if_pos rfl]; rfl
          · rw [updF_ne f _ hv, if_neg (fun e => hv e.symm)]; exact HM2.out.1 v
        · have hsame : ∀ j, j < w1.heap.size → ¬ j = w.heap.size → w2.heap[j]? = w1.heap[j]? := fun j hj hne => HG.out.2.block j hj (fun e => hne (by cases e; rfl))
          by_cases hv : v = x.v
          · rw [hv, updF_self] at hp
            cases hp
            exact HU1.out.frame HG.out.2.size fun j hj hjs => hsame j hjs (by omega)
          · rw [updF_ne f _ hv] at hp
            exact (HM2.out.2 v p hp).frame HG.out.2.size fun j hj hjs => hsame j hjs (by omega)
      case measure => simp [intOf]; omega
    · obtain rfl : k = s.length := by omega
      have HM2 : Hid (MapL w.heap.size wr w.heap.size (lastO s)) := Lib.hid (by
        obtain ⟨f, m1, m2, m3⟩ := HM.out
        rw [List.take_length] at m2
        exact ⟨s.length, f, hL, m1, m2, m3⟩)
      clear HM
      go_wp2
      go_ret
      exact ⟨_, rfl, Nat.le_refl _, HM2.out, HB.out⟩
theorem mapOf_any (s : List Bd) (V : Value) (w : World) (hA : ListS bdE w Any V s) (hL : s.length ≤ 1048576) (hF : ∀ b ∈ s, wfI b.v) :
    Calls Try.prog 73 #[V] w fun e w' => ∃ b, e = .returned (.map (some b)) ∧ w.heap.size ≤ b ∧ MapG w' b (lastO s) ∧ Below w.heap.size w w' :=
  (mapOf_low s V w hA hL hF).mono fun e w' ⟨b, h1, h2, h3, h4⟩ => ⟨b, h1, h2, h3.g, h4⟩
end Go.Proofs.Ytnmdnajbafpfiaa

namespace Go.Proofs.Ytnmdnajbafpfiaa
open Go.RowKit
set_option linter.unusedVariables false
set_option linter.unusedSimpArgs false

/-- What a map says of a term, if it is a variable. -/
def ofG (g : Int → Option Tm) (t : Tm) : Option Tm := if t.kind = 1 then g t.num else none
theorem ofG_var {g : Int → Option Tm} {t : Tm} (h : t.kind = 1) : ofG g t = g t.num := if_pos h
theorem ofG_no {g : Int → Option Tm} {t : Tm} (h : ¬ t.kind = 1) : ofG g t = none := if_neg h
/-- A term that lies somewhere, and whether. -/
def Found (o : Option Tm) (w : World) (e : Ending) (w' : World) : Prop := ∃ a c, e = .returned (.tuple #[.agg #[.int .i64 (orZero o).kind, .int .i64 (orZero o).num, .string (orZero o).name, .slice a (orZero o).args.length c], .bool o.isSome]) ∧ ArgsAt w' (.slice a (orZero o).args.length c) (orZero o).args ∧ Below w.heap.size w w'

set_option maxRecDepth 100000 in
set_option maxHeartbeats 1000000 in
theorem termFor_any (b : Nat) (g : Int → Option Tm) (t : Tm) (V : Value) (w : World) (hM : MapG w b g) (hv : t.kind = 1 → wfI t.num) (hA : ArgsAt w V t.args) :
    Calls Try.prog 90 #[.map (some b), .agg #[.int .i64 t.kind, .int .i64 t.num, .string t.name, V]] w (Found (ofG g t) w) := by
  obtain ⟨aa, ca, rfl⟩ := hA.slice
  have hal1 : Below w.heap.size w (w.alloc (.cells #[.int .i64 t.kind, .int .i64 t.num, .string t.name, .slice aa t.args.length ca] 28)) := belowAlloc (Below.refl _ _) _
  have HX := Lib.hid (at_box_of w #[.int .i64 t.kind, .int .i64 t.num, .string t.name, .slice aa t.args.length ca] 28 w.heap.size rfl)
  have HR := Lib.hid (at_box_of (w.alloc (.cells #[.int .i64 t.kind, .int .i64 t.num, .string t.name, .slice aa t.args.length ca] 28)) #[.int .i64 0, .int .i64 0, .string ⟨#[]⟩, .slice none 0 0] 28 (w.heap.size + 1) (by simp))
  replace HX := Lib.hid (HX.out.read (belowAlloc (Below.refl _ _) (.cells #[.int .i64 0, .int .i64 0, .string ⟨#[]⟩, .slice none 0 0] 28)))
  have HW := Lib.hid (belowAlloc hal1 (.cells #[.int .i64 0, .int .i64 0, .string ⟨#[]⟩, .slice none 0 0] 28))
  have HM := Lib.hid hM
  have HSZ : Hid (w.heap.size + 1 < ((w.alloc (.cells #[.int .i64 t.kind, .int .i64 t.num, .string t.name, .slice aa t.args.length ca] 28)).alloc (.cells #[.int .i64 0, .int .i64 0, .string ⟨#[]⟩, .slice none 0 0] 28)).heap.size) := Lib.hid (by simp)
  clear hal1 hM hA
  by_cases hk : t.kind = 1
  · have HO := Lib.hid (ofG_var (g := g) hk)
    have hwf := hv hk
    have HWF := Lib.hid hwf
    have d0 : (t.kind != 1) = false := by rw [hk]; rfl
    have d1 : (t.kind == 1) = true := by rw [hk]; rfl
    generalize ofG g t = o at HO ⊢
    clear hk hv hwf
    go_enter Try.func90, Try.ntmps90
    go_upto_region 1 with (fail)
    generalize hw0 : (w.alloc (.cells #[.int .i64 t.kind, .int .i64 t.num, .string t.name, .slice aa t.args.length ca] 28)).alloc (.cells #[.int .i64 0, .int .i64 0, .string ⟨#[]⟩, .slice none 0 0] 28) = w0 at HX HR HW HSZ ⊢
    clear hw0
    obtain ⟨c0, c1, c2, c3⟩ := HX.out.cells
    have z0 := HX.out.le
    rcases HM.out.lookW HWF.out with ⟨hg, hrun0⟩ | ⟨x, xa, xc, hg, hax, hrun0⟩
    · have HG : Hid (o = none) := Lib.hid (by rw [HO.out, hg])
      have hrun := hrun0 w0 HW.out
      clear hg hrun0
      go_upto_region 4 with (fail)
      have HB1 : Hid (Below w.heap.size w (w0.alloc (.cells #[.int .i64 0, .int .i64 0, .string ⟨#[]⟩, .slice none 0 0] 28))) := Lib.hid (belowAlloc HW.out _)
      have HY := Lib.hid (at_box_of w0 #[.int .i64 0, .int .i64 0, .string ⟨#[]⟩, .slice none 0 0] 28 w0.heap.size rfl)
      have HR1 := Lib.hid (HR.out.read (belowAlloc (Below.refl _ _) (.cells #[.int .i64 0, .int .i64 0, .string ⟨#[]⟩, .slice none 0 0] 28)))
      clear hrun c0 c1 c2 c3 z0 HX HR HM HSZ
      generalize hw1 : w0.alloc (.cells #[.int .i64 0, .int .i64 0, .string ⟨#[]⟩, .slice none 0 0] 28) = w1 at HB1 HY HR1 ⊢
      clear hw1
      generalize w0.heap.size = nb at HY ⊢
      obtain ⟨y0, y1, y2, y3⟩ := HY.out.cells
      have z1 := HY.out.le
      obtain ⟨r0, r1, r2, r3, rf⟩ := box_cells HR1.out.now
      go_wp2
      refine bodyPost_four2 (p := 4) (q := 5) (b := w.heap.size + 1) (z := .bool false) rfl rfl rfl rfl Try.underlying28 rfl (by kernel_rfl) HR1.out.now fun w' hw => ?_
      obtain rfl := HG.out
      exact ⟨none, 0, rfl, .nil _ _, HB1.out.trans (hw.below (fun k hk => by omega) HB1.out.size)⟩
    · have HG : Hid (o = some x) := Lib.hid (by rw [HO.out, hg])
      have HAX := Lib.hid hax
      have hrun := hrun0 w0 HW.out
      clear hg hax hrun0
      go_upto_region 4 with (fail)
      have HB1 : Hid (Below w.heap.size w (w0.alloc (.cells #[.int .i64 x.kind, .int .i64 x.num, .string x.name, .slice xa x.args.length xc] 28))) := Lib.hid (belowAlloc HW.out _)
      have HY := Lib.hid (at_box_of w0 #[.int .i64 x.kind, .int .i64 x.num, .string x.name, .slice xa x.args.length xc] 28 w0.heap.size rfl)
      have HR1 := Lib.hid (HR.out.read (belowAlloc (Below.refl _ _) (.cells #[.int .i64 x.kind, .int .i64 x.num, .string x.name, .slice xa x.args.length xc] 28)))
      clear hrun c0 c1 c2 c3 z0 HX HR HM HSZ
      generalize hw1 : w0.alloc (.cells #[.int .i64 x.kind, .int .i64 x.num, .string x.name, .slice xa x.args.length xc] 28) = w1 at HB1 HY HR1 ⊢
      clear hw1
      generalize w0.heap.size = nb at HY ⊢
      obtain ⟨y0, y1, y2, y3⟩ := HY.out.cells
      have z1 := HY.out.le
      obtain ⟨r0, r1, r2, r3, rf⟩ := box_cells HR1.out.now
      go_wp2
      refine bodyPost_four2 (p := 4) (q := 5) (b := w.heap.size + 1) (z := .bool true) rfl rfl rfl rfl Try.underlying28 rfl (by kernel_rfl) HR1.out.now fun w' hw => ?_
      obtain rfl := HG.out
      have hbb := HB1.out.trans (hw.below (fun k hk => by omega) HB1.out.size)
      exact ⟨xa, xc, rfl, HAX.out.kept hbb, hbb⟩
  · have HO := Lib.hid (ofG_no (g := g) hk)
    have d0 : (t.kind != 1) = true := by simp [hk]
    have d1 : (t.kind == 1) = false := by simp [hk]
    generalize ofG g t = o at HO ⊢
    clear hk hv
    go_enter Try.func90, Try.ntmps90
    go_upto_region 1 with (fail)
    generalize hw0 : (w.alloc (.cells #[.int .i64 t.kind, .int .i64 t.num, .string t.name, .slice aa t.args.length ca] 28)).alloc (.cells #[.int .i64 0, .int .i64 0, .string ⟨#[]⟩, .slice none 0 0] 28) = w0 at HX HR HW HSZ ⊢
    clear hw0
    obtain ⟨c0, c1, c2, c3⟩ := HX.out.cells
    have z0 := HX.out.le
    obtain ⟨r0, r1, r2, r3, rf⟩ := box_cells HR.out.now
    go_wp2
    refine bodyPost_four2 (p := 4) (q := 5) (b := w.heap.size + 1) (z := .bool false) rfl rfl rfl rfl Try.underlying28 rfl (by kernel_rfl) HR.out.now fun w' hw => ?_
    obtain rfl := HO.out
    exact ⟨none, 0, rfl, .nil _ _, HW.out.trans (hw.below (fun k hk => by omega) HW.out.size)⟩

set_option maxHeartbeats 400000 in
theorem variable_any (b : Bd) (V : Value) (w : World) (hA : ArgsAt w V b.t.args) :
    Calls Try.prog 101 #[.agg #[.int .i64 b.v, .int .i64 b.t.kind, .int .i64 b.t.num, .string b.t.name, V]] w fun e w' => e = .returned (.agg #[.int .i64 1, .int .i64 b.v, .string ⟨#[]⟩, .slice none 0 0]) ∧ Below w.heap.size w w' := by
  obtain ⟨aa, ca, rfl⟩ := hA.slice
  clear hA
  go_enter Try.func101, Try.ntmps101
  go_wp2
  exact bodyPost_ret (v := .agg #[.int .i64 1, .int .i64 b.v, .string ⟨#[]⟩, .slice none 0 0]) (by simp [results, Try.results101, go_sem]) rfl ⟨rfl, ((Below.refl _ _).alloc (Nat.le_refl _) _).alloc (by simp) _⟩

end Go.Proofs.Ytnmdnajbafpfiaa

namespace Go.Proofs.Ytnmdnajbafpfiaa
open Go.RowKit
set_option linter.unusedVariables false
set_option linter.unusedSimpArgs false

/-- What is asked of the method value: at each part it says p. -/
def PartAt (b : Nat) (p : Tm → Bool) (l : List Tm) (w : World) : Prop := ∀ (j : Nat) (x : Tm), l[j]? = some x → ∀ (U : Value) (W : World), Below w.heap.size w W → ArgsAt W U x.args →
  Calls Try.prog 89 #[.map (some b), .agg #[.int .i64 x.kind, .int .i64 x.num, .string x.name, U]] W fun e w' => e = .returned (.bool (p x)) ∧ Below W.heap.size W w'
def IdxP (p : Tm → Bool) (l : List Tm) (w : World) (e : Ending) (w' : World) : Prop :=
  ((l.any p = true ∧ ∃ k : Nat, e = .returned (.int .i64 k)) ∨ (l.any p = false ∧ e = .returned (.int .i64 (-1)))) ∧ Below w.heap.size w w'

set_option maxRecDepth 100000 in
set_option maxHeartbeats 1000000 in
theorem indexFunc_any (b : Nat) (p : Tm → Bool) (l : List Tm) (V : Value) (w : World) (hA : ArgsAt w V l) (hL : l.length ≤ 1048576) (hp : PartAt b p l w) :
    Calls Try.prog 106 #[V, .func (.func 89) #[.map (some b)] #[]] w (IdxP p l w) := by
  obtain ⟨a, cap, rfl⟩ := hA.slice
  have HA := Lib.hid hA
  have HP := Lib.hid hp
  have HYES : Hid (∀ (k : Nat) (x : Tm), l[k]? = some x → p x = true → l.any p = true) := Lib.hid fun k x hk hx => List.any_eq_true.2 ⟨x, List.mem_of_getElem? hk, hx⟩
  have HNO : Hid ((∀ (i : Nat) (y : Tm), i < l.length → l[i]? = some y → p y = false) → l.any p = false) := Lib.hid fun h => List.any_eq_false.2 fun x hx => by
    obtain ⟨i, hi⟩ := List.getElem?_of_mem hx
    rw [h i x (List.getElem?_eq_some_iff.1 hi).1 hi]; simp
  unfold IdxP
  generalize l.any p = r at HYES HNO ⊢
  clear hA hp
  go_enter Try.func106, Try.ntmps106
  go_wp2
  go_loopw [8] (fun iv wr => ∃ k : Nat, k ≤ l.length ∧ iv = .int .i64 k ∧ Hid (∀ (i : Nat) (y : Tm), i < k → l[i]? = some y → p y = false) ∧ Hid (Below w.heap.size w wr)) (fun iv _ => l.length - (intOf iv).toNat)
  case atStart => exact ⟨0, Nat.zero_le _, rfl, Lib.hid (fun i y hi => absurd hi (Nat.not_lt_zero _)), Lib.hid (Below.refl _ _)⟩
  case round =>
    obtain ⟨k, hk, rfl, HN, HB⟩ := hrel
    by_cases hlt : k < l.length
    · have hltI : (k : Int) < (l.length : Int) := by omega
      obtain ⟨x, hx⟩ : ∃ x, l[k]? = some x := ⟨_, List.getElem?_eq_getElem hlt⟩
      obtain ⟨g, off, u1, u2, rfl, hg, hq, hc, hu⟩ := HA.out.elem hx
      obtain ⟨d0, d1, d2, d3⟩ := hc wr HB.out
      have HC := Lib.hid (HP.out k x hx (.slice u1 x.args.length u2) wr HB.out (hu.kept HB.out))
      have HX := Lib.hid hx
      clear hc hu hx hq
      go_wp2_with fail
      refine HC.out.mono ?_
      rintro e w2 ⟨rfl, hb⟩
      have HB2 := Lib.hid (belowOn HB.out (Nat.le_refl _) hb)
      clear hb HC d0 d1 d2 d3
      cases hq : p x with
      | true =>
        have HR := Lib.hid (HYES.out k x HX.out hq)
        clear hq
        go_wp2
        go_ret
        exact ⟨.inl ⟨HR.out, k, rfl⟩, HB2.out⟩
      | false =>
        have HQ := Lib.hid hq
        clear hq
        go_wp2
        go_roundw
        case rel =>
          refine ⟨k + 1, by omega, by go_num, Lib.hid fun i y hi hy => ?_, HB2⟩
          by_cases e : i = k
          · subst e
            cases hy.symm.trans HX.out
            exact HQ.out
          · exact HN.out i y (by omega) hy
        case measure => simp [intOf]; omega
    · obtain rfl : k = l.length := by omega
      have HR := Lib.hid (HNO.out HN.out)
      go_wp2
      go_ret
      exact ⟨.inr ⟨HR.out, rfl⟩, HB.out⟩

set_option maxHeartbeats 400000 in
theorem containsFunc_any (b : Nat) (p : Tm → Bool) (l : List Tm) (V : Value) (w : World) (hA : ArgsAt w V l) (hL : l.length ≤ 1048576) (hp : PartAt b p l w) :
    Calls Try.prog 102 #[V, .func (.func 89) #[.map (some b)] #[]] w fun e w' => e = .returned (.bool (l.any p)) ∧ Below w.heap.size w w' := by
  obtain ⟨a, cap, rfl⟩ := hA.slice
  have HC := Lib.hid (indexFunc_any b p l _ w hA hL hp)
  clear hA hp
  unfold IdxP at HC
  generalize l.any p = r at HC ⊢
  go_enter Try.func102, Try.ntmps102
  go_wp2_with fail
  refine HC.out.mono ?_
  rintro e w1 ⟨⟨rfl, k, rfl⟩ | ⟨rfl, rfl⟩, hb⟩
  · have HB := Lib.hid hb
    have hk0 : (0 : Int) ≤ (k : Int) := by omega
    have d : decide ((0 : Int) ≤ (k : Int)) = true := decide_eq_true hk0
    clear hb HC
    go_wp2
    go_ret
    exact ⟨by simp, HB.out⟩
  · have HB := Lib.hid hb
    clear hb HC
    go_wp2
    go_ret
    exact ⟨rfl, HB.out⟩

set_option maxRecDepth 100000 in
set_option maxHeartbeats 1000000 in
theorem bindsIn_any (N : Nat) : ∀ (b : Nat) (g : Int → Option Tm) (t : Tm) (V : Value) (w : World), t.nodes < N → MapG w b g → ArgsAt w V t.args → t.sz ≤ 1048576 → Good t →
    Calls Try.prog 89 #[.map (some b), .agg #[.int .i64 t.kind, .int .i64 t.num, .string t.name, V]] w fun e w' => e = .returned (.bool (anyG g t)) ∧ Below w.heap.size w w' := by
  induction N with
  | zero => intro b g t V w hN; omega
  | succ N ih =>
    intro b g t V w hN hM hA hZ hG
    obtain ⟨aa, ca, rfl⟩ := hA.slice
    have HW := Lib.hid (belowAlloc (Below.refl w.heap.size w) (.cells #[.int .i64 t.kind, .int .i64 t.num, .string t.name, .slice aa t.args.length ca] 28))
    have HX := Lib.hid (at_box_of w #[.int .i64 t.kind, .int .i64 t.num, .string t.name, .slice aa t.args.length ca] 28 w.heap.size rfl)
    have HA := Lib.hid (hA.kept HW.out)
    have HM := Lib.hid (hM.kept HW.out)
    have HI := Lib.hid ih
    have HG := Lib.hid hG
    have HVW : Hid (t.kind = 1 → wfI t.num) := Lib.hid fun hk => by
      have h := hG.var_range hk
      exact wfI_of (by omega) (by omega)
    have hlen : t.args.length ≤ 1048576 := by have h1 := length_szL t.args; have h2 := sz_eq t; omega
    have HS := Lib.hid (sz_eq t)
    have HNE := Lib.hid (nodes_eq t)
    clear hA hM ih hG
    have HANY : Hid ((ofG g t).isSome = true → anyG g t = true) := Lib.hid fun h => by
      by_cases hk : t.kind = 1
      · rw [anyG_var hk, ← ofG_var (g := g) hk]; exact h
      · rw [ofG_no hk] at h; cases h
    have HARG : Hid ((ofG g t).isSome = false → anyG g t = t.args.any (anyG g)) := Lib.hid fun h => by
      by_cases hk : t.kind = 1
      · rw [fit_var HG.out.fit hk, anyG_var hk, ← ofG_var (g := g) hk, h]; rfl
      · exact anyG_args hk
    generalize anyG g t = r at HANY HARG ⊢
    go_enter Try.func89, Try.ntmps89
    go_upto_region 1 with (fail)
    generalize hw0 : w.alloc (.cells #[.int .i64 t.kind, .int .i64 t.num, .string t.name, .slice aa t.args.length ca] 28) = w0 at HA HX HW HM ⊢
    clear hw0
    have HC := Lib.hid (termFor_any b g t _ w0 HM.out HVW.out HA.out)
    obtain ⟨c0, c1, c2, c3⟩ := HX.out.cells
    have z0 := HX.out.le
    generalize ofG g t = o at HC HANY HARG
    go_wp2_with fail
    refine HC.out.mono ?_
    rintro e w1 ⟨xa, xc, rfl, hax, hb⟩
    have HX1 := Lib.hid (HX.out.read hb)
    have HW1 := Lib.hid (belowOn HW.out (Nat.le_refl _) hb)
    have HA1 := Lib.hid (HA.out.kept hb)
    have HM1 := Lib.hid (HM.out.kept hb)
    clear hb hax HC c0 c1 c2 c3 z0 HX HA HM
    go_upto_region 2 with (fail)
    have hal : Below w1.heap.size w1 (w1.alloc (.cells #[.int .i64 (orZero o).kind, .int .i64 (orZero o).num, .string (orZero o).name, .slice xa (orZero o).args.length xc] 28)) := belowAlloc (Below.refl _ _) _
    replace HX1 := Lib.hid (HX1.out.read hal)
    replace HW1 := Lib.hid (belowOn HW1.out (Nat.le_refl _) hal)
    replace HA1 := Lib.hid (HA1.out.kept hal)
    replace HM1 := Lib.hid (HM1.out.kept hal)
    clear hal
    generalize hw2 : w1.alloc (.cells #[.int .i64 (orZero o).kind, .int .i64 (orZero o).num, .string (orZero o).name, .slice xa (orZero o).args.length xc] 28) = w2 at HX1 HW1 HA1 HM1 ⊢
    clear hw2
    cases ho : o.isSome with
    | true =>
      obtain rfl := HANY.out ho
      clear ho
      go_wp2
      go_ret
      exact ⟨rfl, HW1.out⟩
    | false =>
      have HR := Lib.hid (HARG.out ho)
      clear ho
      have HC := Lib.hid (containsFunc_any b (anyG g) t.args _ w2 HA1.out hlen (fun j x hj U W hW hU => HI.out b g x U W (by have h1 := nodes_at hj; have := HNE.out; omega) (HM1.out.kept hW) hU (by have h1 := sz_at hj; have := HS.out; omega) (HG.out.each hj)))
      obtain ⟨c0, c1, c2, c3⟩ := HX1.out.cells
      have z0 := HX1.out.le
      go_wp2_with fail
      refine HC.out.mono ?_
      rintro e w3 ⟨rfl, hb⟩
      have HW3 := Lib.hid (belowOn HW1.out (Nat.le_refl _) hb)
      clear hb HC c0 c1 c2 c3 z0
      go_wp2
      go_ret
      exact ⟨by rw [HR.out]; rfl, HW3.out⟩
end Go.Proofs.Ytnmdnajbafpfiaa

namespace Go.Proofs.Ytnmdnajbafpfiaa
open Go.RowKit
set_option linter.unusedVariables false
set_option linter.unusedSimpArgs false
/-! ### bindingsOk, SubstOk -/

theorem ok_varB {v : Int} : okB (.mk 1 v ⟨#[]⟩ []) = true ↔ 0 ≤ v ∧ v ≤ 100000 := by
  rw [okB_true]
  exact ⟨fun h => h.2.var_range rfl, fun h => ⟨by simp [Tm.nodes, nodesL], .var v h.1 h.2⟩⟩
def PlaceV (s : List Bd) (i : Nat) (b : Bd) : Prop := (0 ≤ b.v ∧ b.v ≤ 100000) ∧ Ok b.t ∧ (∀ (j : Nat) (c : Bd), i = j + 1 → s[j]? = some c → c.v < b.v)
theorem valuesOk_long {s : List Bd} (h : ¬ s.length ≤ 400) : valuesB s = false := valuesB_false.2 fun hs => h hs.2.2
theorem valuesOk_bad {s : List Bd} {k : Nat} {x : Bd} (hx : s[k]? = some x) (h : ¬ PlaceV s k x) : valuesB s = false := valuesB_false.2 fun hs => h ⟨(hs.1 k x hx).1, (hs.1 k x hx).2, fun j c e hc => by subst e; exact hs.2.1 j c x hc hx⟩
theorem valuesOk_end {s : List Bd} (hl : s.length ≤ 400) (h : ∀ (i : Nat) (b : Bd), i < s.length → s[i]? = some b → PlaceV s i b) : valuesB s = true :=
  valuesB_true.2 ⟨fun k x hx => by have := h k x (List.getElem?_eq_some_iff.1 hx).1 hx; exact ⟨this.1, this.2.1⟩, fun k x y hx hy => (h (k + 1) y (List.getElem?_eq_some_iff.1 hy).1 hy).2.2 k x rfl hx, hl⟩

set_option maxRecDepth 100000 in
set_option maxHeartbeats 16000000 in
theorem implBindingsOk_e (s : List Bd) (V : Value) (w : World) (hA : ListS bdE w Any V s) (hE : EachB s) :
    Calls Try.prog 88 #[V] w fun e w' => e = .returned (.bool (valuesB s)) ∧ Below w.heap.size w w' := by
  obtain ⟨a, cap, rfl⟩ := hA.slice
  have HA := Lib.hid hA
  have hL : s.length ≤ 1048576 := hE.1
  have HL4 := Lib.hid (fun h => valuesOk_long (s := s) h)
  have HBAD := Lib.hid (fun (k : Nat) (x : Bd) hx h => valuesOk_bad (s := s) (k := k) (x := x) hx h)
  have HEN := Lib.hid (fun h1 h2 => valuesOk_end (s := s) h1 h2)
  generalize valuesB s = r at HL4 HBAD HEN ⊢
  by_cases h4 : s.length ≤ 400
  case neg =>
    obtain rfl := HL4.out h4
    clear hA
    go_enter Try.func88, Try.ntmps88
    go_wp2
    go_ret
    exact ⟨rfl, Below.refl _ _⟩
  clear hA HL4
  go_enter Try.func88, Try.ntmps88
  go_wp2
  go_loopw [10] (fun iv wr => ∃ k : Nat, k ≤ s.length ∧ iv = .int .i64 k ∧ Hid (∀ (i : Nat) (b : Bd), i < k → s[i]? = some b → PlaceV s i b) ∧ Hid (Below w.heap.size w wr)) (fun iv _ => s.length - (intOf iv).toNat)
  case atStart => exact ⟨0, Nat.zero_le _, rfl, Lib.hid (fun i x hi => absurd hi (Nat.not_lt_zero _)), Lib.hid (Below.refl _ _)⟩
  case round =>
    obtain ⟨k, hk, rfl, HV, HB⟩ := hrel
    by_cases hlt : k < s.length
    · have hltI : (k : Int) < (s.length : Int) := by omega
      have hk0 : (0 : Int) ≤ (k : Int) := by omega
      obtain ⟨x, hx⟩ : ∃ x, s[k]? = some x := ⟨_, List.getElem?_eq_getElem hlt⟩
      obtain ⟨g, off, u1, u2, rfl, hg, hq, hc, hu⟩ := HA.out.bd hx
      obtain ⟨d0, d1, d2, d3, d4⟩ := hc wr HB.out
      have HX := Lib.hid hx
      have HU := Lib.hid (hu.at.kept HB.out)
      have hxz : x.t.sz ≤ 1048576 := by have := hE.2 x (List.mem_of_getElem? hx); omega
      clear hx hq hc hu
      go_upto_region 6 with (fail)
      have hal : Below wr.heap.size wr (wr.alloc (.cells #[.int .i64 x.v, .int .i64 x.t.kind, .int .i64 x.t.num, .string x.t.name, .slice u1 x.t.args.length u2] 73)) := belowAlloc (Below.refl _ _) _
      have HBX := Lib.hid (at_box_of wr #[.int .i64 x.v, .int .i64 x.t.kind, .int .i64 x.t.num, .string x.t.name, .slice u1 x.t.args.length u2] 73 wr.heap.size rfl)
      have HW1 := Lib.hid (belowOn HB.out (Nat.le_refl _) hal)
      have HU1 := Lib.hid (HU.out.kept hal)
      obtain ⟨nb, hnb⟩ : ∃ n : Nat, n = wr.heap.size := ⟨_, rfl⟩
      clear hal d0 d1 d2 d3 d4 HU
      rw [← hnb] at HBX ⊢
      have hgb : g < nb := by have := HB.out.size; omega
      clear hnb HB
      generalize hw1 : wr.alloc (.cells #[.int .i64 x.v, .int .i64 x.t.kind, .int .i64 x.t.num, .string x.t.name, .slice u1 x.t.args.length u2] 73) = w1 at HBX HW1 HU1 ⊢
      clear hw1
      have hself : Below w1.heap.size w1 w1 := Below.refl _ _
      have hdrew : Below w1.heap.size w1 w1.drew := hself.drew
      have HVA : Hid (∀ W, Below w1.heap.size w1 W → Calls Try.prog 101 #[.agg #[.int .i64 x.v, .int .i64 x.t.kind, .int .i64 x.t.num, .string x.t.name, .slice u1 x.t.args.length u2]] W fun e w' => e = .returned (.agg #[.int .i64 1, .int .i64 x.v, .string ⟨#[]⟩, .slice none 0 0]) ∧ Below W.heap.size W w') := Lib.hid fun W hW => variable_any x _ W (HU1.out.kept hW)
      have HO1 : Hid (∀ W, Below w1.heap.size w1 W → Calls Try.prog 61 #[.agg #[.int .i64 1, .int .i64 x.v, .string ⟨#[]⟩, .slice none 0 0]] W fun e w' => e = .returned (.bool (okB (.mk 1 x.v ⟨#[]⟩ []))) ∧ Below W.heap.size W w') := Lib.hid fun W hW => implTermOk_any (.mk 1 x.v ⟨#[]⟩ []) (.slice none 0 0) W (.nil _ _) (by rw [Tm.sz, szL]; decide)
      have HO2 : Hid (∀ W, Below w1.heap.size w1 W → Calls Try.prog 61 #[.agg #[.int .i64 x.t.kind, .int .i64 x.t.num, .string x.t.name, .slice u1 x.t.args.length u2]] W fun e w' => e = .returned (.bool (okB x.t)) ∧ Below W.heap.size W w') := Lib.hid fun W hW => implTermOk_any x.t _ W (HU1.out.kept hW) hxz
      have HTR : Hid (∀ a b, Below w1.heap.size w1 a → Below a.heap.size a b → Below w1.heap.size w1 b) := Lib.hid fun a b h1 h2 => belowOn h1 (Nat.le_refl _) h2
      have HCB : Hid (∀ W, Below w1.heap.size w1 W → W.cell? ⟨nb, 0, none⟩ = some (.int .i64 x.v) ∧ W.cell? ⟨nb, 1, none⟩ = some (.int .i64 x.t.kind) ∧ W.cell? ⟨nb, 2, none⟩ = some (.int .i64 x.t.num) ∧ W.cell? ⟨nb, 3, none⟩ = some (.string x.t.name) ∧ W.cell? ⟨nb, 4, none⟩ = some (.slice u1 x.t.args.length u2)) := Lib.hid fun W hW => by
        obtain ⟨y0, y1, y2, y3, y4, _⟩ := box_cells5 (HBX.out.read hW).now
        exact ⟨y0, y1, y2, y3, y4⟩
      have HENW : Hid (∀ W, Below w1.heap.size w1 W → Below w.heap.size w W) := Lib.hid fun W hW => belowOn HW1.out (Nat.le_refl _) hW
      obtain ⟨e0, e1, e2, e3, e4⟩ := HCB.out w1 hself
      cases hv1 : okB (.mk 1 x.v ⟨#[]⟩ []) with
      | false =>
        obtain rfl := HBAD.out k x HX.out fun h => by rw [ok_varB.2 h.1] at hv1; cases hv1
        rw [hv1] at HO1
        clear hv1 HO2 HA HU1 HV HBX
        refine wp_region_held_drew (S := (fun w' => Below w1.heap.size w1 w' ∧ w'.cell? ⟨nb, 0, none⟩ = some (.int .i64 x.v) ∧ w'.cell? ⟨nb, 1, none⟩ = some (.int .i64 x.t.kind) ∧ w'.cell? ⟨nb, 2, none⟩ = some (.int .i64 x.t.num) ∧ w'.cell? ⟨nb, 3, none⟩ = some (.string x.t.name) ∧ w'.cell? ⟨nb, 4, none⟩ = some (.slice u1 x.t.args.length u2))) (by kernel_rfl) (by (try dsimp only); go_keep) (fun hHeld => ?_)
        (refine wpAnyH_take (i := 0) (oi := ⟨_, _, _, _, _, _⟩) (v := ?_) rfl (by kernel_rfl) (by kernel_rfl) (by kernel_rfl) (fun _ _ _ h => h) (Or.inl ⟨by rfl, ?_⟩) (by assumption) ?_; rotate_left; focus ((intro w' hSw; (try dsimp only at hSw); go_simp; (try with_reducible rfl)))); (try simp only [Act.put, List.setIfInBounds_toArray, List.set_cons_zero, List.set_cons_succ])
        refine wpAnyH_ready (rs := [1]) (by kernel_rfl) (by simp) ?_
        refine AllReadyH.cons (o := ⟨_, _, _, _, _, _⟩) rfl (fun K hK => ?_) AllReadyH.nil
        go_simp
        (first | (go_at_call 101; (with_reducible refine Calls.mono (HVA.out _ ?_) ?_); (assumption); rintro e w' ⟨rfl, hb⟩; have hB' := HTR.out _ _ (by assumption) hb; obtain ⟨k0, k1, k2, k3, k4⟩ := HCB.out _ hB') | (go_at_call 61; (with_reducible refine Calls.mono (HO1.out _ ?_) ?_); (assumption); rintro e w' ⟨rfl, hb⟩; have hB' := HTR.out _ _ (by assumption) hb; obtain ⟨k0, k1, k2, k3, k4⟩ := HCB.out _ hB') | (go_at_call 61; (with_reducible refine Calls.mono (HO2.out _ ?_) ?_); (assumption); rintro e w' ⟨rfl, hb⟩; have hB' := HTR.out _ _ (by assumption) hb; obtain ⟨k0, k1, k2, k3, k4⟩ := HCB.out _ hB'))
        (try go_wp2_with fail)
        refine hK.out _ _ (by (try dsimp only); (first | go_keep | (refine ⟨by assumption, ?_⟩; go_keep))) (fun hHeld => ?_)
        clear hK K
        (try simp only [Act.put, List.setIfInBounds_toArray, List.set_cons_zero, List.set_cons_succ])
        refine wpAnyH_ready (rs := [2]) (by kernel_rfl) (by simp) ?_
        refine AllReadyH.cons (o := ⟨_, _, _, _, _, _⟩) rfl (fun K hK => ?_) AllReadyH.nil
        go_simp
        (first | (go_at_call 101; (with_reducible refine Calls.mono (HVA.out _ ?_) ?_); (assumption); rintro e w' ⟨rfl, hb⟩; have hB' := HTR.out _ _ (by assumption) hb; obtain ⟨k0, k1, k2, k3, k4⟩ := HCB.out _ hB') | (go_at_call 61; (with_reducible refine Calls.mono (HO1.out _ ?_) ?_); (assumption); rintro e w' ⟨rfl, hb⟩; have hB' := HTR.out _ _ (by assumption) hb; obtain ⟨k0, k1, k2, k3, k4⟩ := HCB.out _ hB') | (go_at_call 61; (with_reducible refine Calls.mono (HO2.out _ ?_) ?_); (assumption); rintro e w' ⟨rfl, hb⟩; have hB' := HTR.out _ _ (by assumption) hb; obtain ⟨k0, k1, k2, k3, k4⟩ := HCB.out _ hB'))
        (try go_wp2_with fail)
        refine hK.out _ _ (by (try dsimp only); (first | go_keep | (refine ⟨by assumption, ?_⟩; go_keep))) (fun hHeld => ?_)
        clear hK K
        (try simp only [Act.put, List.setIfInBounds_toArray, List.set_cons_zero, List.set_cons_succ])
        (refine wpAnyH_take (i := 3) (oi := ⟨_, _, _, _, _, _⟩) (v := ?_) rfl (by kernel_rfl) (by kernel_rfl) (by kernel_rfl) (fun _ _ _ h => h) (Or.inl ⟨by rfl, ?_⟩) (by assumption) ?_; rotate_left; focus ((intro w' hSw; (try dsimp only at hSw); go_simp; (try with_reducible rfl)))); (try simp only [Act.put, List.setIfInBounds_toArray, List.set_cons_zero, List.set_cons_succ])
        (refine wpAnyH_take (i := 4) (oi := ⟨_, _, _, _, _, _⟩) (v := ?_) rfl (by kernel_rfl) (by kernel_rfl) (by kernel_rfl) (fun _ _ _ h => h) (Or.inl ⟨by rfl, ?_⟩) (by assumption) ?_; rotate_left; focus ((intro w' hSw; (try dsimp only at hSw); go_simp; (try with_reducible rfl)))); (try simp only [Act.put, List.setIfInBounds_toArray, List.set_cons_zero, List.set_cons_succ])
        (refine wpAnyH_take (i := 5) (oi := ⟨_, _, _, _, _, _⟩) (v := undef) rfl (by kernel_rfl) (by kernel_rfl) (by kernel_rfl) (fun _ _ _ h => h) (Or.inr ⟨by rfl, rfl⟩) (by assumption) ?_); (try simp only [Act.put, List.setIfInBounds_toArray, List.set_cons_zero, List.set_cons_succ])
        (refine wpAnyH_take (i := 6) (oi := ⟨_, _, _, _, _, _⟩) (v := undef) rfl (by kernel_rfl) (by kernel_rfl) (by kernel_rfl) (fun _ _ _ h => h) (Or.inr ⟨by rfl, rfl⟩) (by assumption) ?_); (try simp only [Act.put, List.setIfInBounds_toArray, List.set_cons_zero, List.set_cons_succ])
        (refine wpAnyH_take (i := 7) (oi := ⟨_, _, _, _, _, _⟩) (v := undef) rfl (by kernel_rfl) (by kernel_rfl) (by kernel_rfl) (fun _ _ _ h => h) (Or.inr ⟨by rfl, rfl⟩) (by assumption) ?_); (try simp only [Act.put, List.setIfInBounds_toArray, List.set_cons_zero, List.set_cons_succ])
        (refine wpAnyH_take (i := 8) (oi := ⟨_, _, _, _, _, _⟩) (v := undef) rfl (by kernel_rfl) (by kernel_rfl) (by kernel_rfl) (fun _ _ _ h => h) (Or.inr ⟨by rfl, rfl⟩) (by assumption) ?_); (try simp only [Act.put, List.setIfInBounds_toArray, List.set_cons_zero, List.set_cons_succ])
        (refine wpAnyH_take (i := 9) (oi := ⟨_, _, _, _, _, _⟩) (v := ?_) rfl (by kernel_rfl) (by kernel_rfl) (by kernel_rfl) (fun _ _ _ h => h) (Or.inl ⟨by rfl, ?_⟩) (by assumption) ?_; rotate_left; focus ((intro w' hSw; (try dsimp only at hSw); go_simp; (try with_reducible rfl)))); (try simp only [Act.put, List.setIfInBounds_toArray, List.set_cons_zero, List.set_cons_succ])
        (refine wpAnyH_take (i := 10) (oi := ⟨_, _, _, _, _, _⟩) (v := ?_) rfl (by kernel_rfl) (by kernel_rfl) (by kernel_rfl) (fun _ _ _ h => h) (Or.inl ⟨by rfl, ?_⟩) (by assumption) ?_; rotate_left; focus ((intro w' hSw; (try dsimp only at hSw); go_simp; (try with_reducible rfl)))); (try simp only [Act.put, List.setIfInBounds_toArray, List.set_cons_zero, List.set_cons_succ])
        (refine wpAnyH_take (i := 11) (oi := ⟨_, _, _, _, _, _⟩) (v := undef) rfl (by kernel_rfl) (by kernel_rfl) (by kernel_rfl) (fun _ _ _ h => h) (Or.inr ⟨by rfl, rfl⟩) (by assumption) ?_); (try simp only [Act.put, List.setIfInBounds_toArray, List.set_cons_zero, List.set_cons_succ])
        (refine wpAnyH_take (i := 12) (oi := ⟨_, _, _, _, _, _⟩) (v := undef) rfl (by kernel_rfl) (by kernel_rfl) (by kernel_rfl) (fun _ _ _ h => h) (Or.inr ⟨by rfl, rfl⟩) (by assumption) ?_); (try simp only [Act.put, List.setIfInBounds_toArray, List.set_cons_zero, List.set_cons_succ])
        (refine wpAnyH_take (i := 13) (oi := ⟨_, _, _, _, _, _⟩) (v := undef) rfl (by kernel_rfl) (by kernel_rfl) (by kernel_rfl) (fun _ _ _ h => h) (Or.inr ⟨by rfl, rfl⟩) (by assumption) ?_); (try simp only [Act.put, List.setIfInBounds_toArray, List.set_cons_zero, List.set_cons_succ])
        (refine wpAnyH_take (i := 14) (oi := ⟨_, _, _, _, _, _⟩) (v := undef) rfl (by kernel_rfl) (by kernel_rfl) (by kernel_rfl) (fun _ _ _ h => h) (Or.inr ⟨by rfl, rfl⟩) (by assumption) ?_); (try simp only [Act.put, List.setIfInBounds_toArray, List.set_cons_zero, List.set_cons_succ])
        (refine wpAnyH_take (i := 15) (oi := ⟨_, _, _, _, _, _⟩) (v := undef) rfl (by kernel_rfl) (by kernel_rfl) (by kernel_rfl) (fun _ _ _ h => h) (Or.inr ⟨by rfl, rfl⟩) (by assumption) ?_); (try simp only [Act.put, List.setIfInBounds_toArray, List.set_cons_zero, List.set_cons_succ])
        (refine wpAnyH_take (i := 16) (oi := ⟨_, _, _, _, _, _⟩) (v := undef) rfl (by kernel_rfl) (by kernel_rfl) (by kernel_rfl) (fun _ _ _ h => h) (Or.inr ⟨by rfl, rfl⟩) (by assumption) ?_); (try simp only [Act.put, List.setIfInBounds_toArray, List.set_cons_zero, List.set_cons_succ])
        (refine wpAnyH_take (i := 17) (oi := ⟨_, _, _, _, _, _⟩) (v := undef) rfl (by kernel_rfl) (by kernel_rfl) (by kernel_rfl) (fun _ _ _ h => h) (Or.inr ⟨by rfl, rfl⟩) (by assumption) ?_); (try simp only [Act.put, List.setIfInBounds_toArray, List.set_cons_zero, List.set_cons_succ])
        (refine wpAnyH_take (i := 18) (oi := ⟨_, _, _, _, _, _⟩) (v := undef) rfl (by kernel_rfl) (by kernel_rfl) (by kernel_rfl) (fun _ _ _ h => h) (Or.inr ⟨by rfl, rfl⟩) (by assumption) ?_); (try simp only [Act.put, List.setIfInBounds_toArray, List.set_cons_zero, List.set_cons_succ])
        (refine wpAnyH_take (i := 19) (oi := ⟨_, _, _, _, _, _⟩) (v := undef) rfl (by kernel_rfl) (by kernel_rfl) (by kernel_rfl) (fun _ _ _ h => h) (Or.inr ⟨by rfl, rfl⟩) (by assumption) ?_); (try simp only [Act.put, List.setIfInBounds_toArray, List.set_cons_zero, List.set_cons_succ])
        (refine wpAnyH_take (i := 20) (oi := ⟨_, _, _, _, _, _⟩) (v := undef) rfl (by kernel_rfl) (by kernel_rfl) (by kernel_rfl) (fun _ _ _ h => h) (Or.inr ⟨by rfl, rfl⟩) (by assumption) ?_); (try simp only [Act.put, List.setIfInBounds_toArray, List.set_cons_zero, List.set_cons_succ])
        (refine wpAnyH_take (i := 21) (oi := ⟨_, _, _, _, _, _⟩) (v := undef) rfl (by kernel_rfl) (by kernel_rfl) (by kernel_rfl) (fun _ _ _ h => h) (Or.inr ⟨by rfl, rfl⟩) (by assumption) ?_); (try simp only [Act.put, List.setIfInBounds_toArray, List.set_cons_zero, List.set_cons_succ])
        (refine wpAnyH_take (i := 22) (oi := ⟨_, _, _, _, _, _⟩) (v := undef) rfl (by kernel_rfl) (by kernel_rfl) (by kernel_rfl) (fun _ _ _ h => h) (Or.inr ⟨by rfl, rfl⟩) (by assumption) ?_); (try simp only [Act.put, List.setIfInBounds_toArray, List.set_cons_zero, List.set_cons_succ])
        (refine wpAnyH_take (i := 23) (oi := ⟨_, _, _, _, _, _⟩) (v := undef) rfl (by kernel_rfl) (by kernel_rfl) (by kernel_rfl) (fun _ _ _ h => h) (Or.inr ⟨by rfl, rfl⟩) (by assumption) ?_); (try simp only [Act.put, List.setIfInBounds_toArray, List.set_cons_zero, List.set_cons_succ])
        (refine wpAnyH_take (i := 24) (oi := ⟨_, _, _, _, _, _⟩) (v := ?_) rfl (by kernel_rfl) (by kernel_rfl) (by kernel_rfl) (fun _ _ _ h => h) (Or.inl ⟨by rfl, ?_⟩) (by assumption) ?_; rotate_left; focus ((intro w' hSw; (try dsimp only at hSw); go_simp; (try with_reducible rfl)))); (try simp only [Act.put, List.setIfInBounds_toArray, List.set_cons_zero, List.set_cons_succ])
        refine wpAnyH_done (by kernel_rfl) ?_ _
        go_wp2
        go_ret
        exact ⟨rfl, HENW.out _ (by assumption)⟩
      | true =>
        have HRG := Lib.hid (ok_varB.1 hv1)
        rw [hv1] at HO1
        clear hv1
        cases hv2 : okB x.t with
        | false =>
          obtain rfl := HBAD.out k x HX.out fun h => by rw [okB_true.2 h.2.1] at hv2; cases hv2
          rw [hv2] at HO2
          clear hv2 HA HU1 HV HBX HRG
          refine wp_region_held_drew (S := (fun w' => Below w1.heap.size w1 w' ∧ w'.cell? ⟨nb, 0, none⟩ = some (.int .i64 x.v) ∧ w'.cell? ⟨nb, 1, none⟩ = some (.int .i64 x.t.kind) ∧ w'.cell? ⟨nb, 2, none⟩ = some (.int .i64 x.t.num) ∧ w'.cell? ⟨nb, 3, none⟩ = some (.string x.t.name) ∧ w'.cell? ⟨nb, 4, none⟩ = some (.slice u1 x.t.args.length u2))) (by kernel_rfl) (by (try dsimp only); go_keep) (fun hHeld => ?_)
          (refine wpAnyH_take (i := 0) (oi := ⟨_, _, _, _, _, _⟩) (v := ?_) rfl (by kernel_rfl) (by kernel_rfl) (by kernel_rfl) (fun _ _ _ h => h) (Or.inl ⟨by rfl, ?_⟩) (by assumption) ?_; rotate_left; focus ((intro w' hSw; (try dsimp only at hSw); go_simp; (try with_reducible rfl)))); (try simp only [Act.put, List.setIfInBounds_toArray, List.set_cons_zero, List.set_cons_succ])
          refine wpAnyH_ready (rs := [1]) (by kernel_rfl) (by simp) ?_
          refine AllReadyH.cons (o := ⟨_, _, _, _, _, _⟩) rfl (fun K hK => ?_) AllReadyH.nil
          go_simp
          (first | (go_at_call 101; (with_reducible refine Calls.mono (HVA.out _ ?_) ?_); (assumption); rintro e w' ⟨rfl, hb⟩; have hB' := HTR.out _ _ (by assumption) hb; obtain ⟨k0, k1, k2, k3, k4⟩ := HCB.out _ hB') | (go_at_call 61; (with_reducible refine Calls.mono (HO1.out _ ?_) ?_); (assumption); rintro e w' ⟨rfl, hb⟩; have hB' := HTR.out _ _ (by assumption) hb; obtain ⟨k0, k1, k2, k3, k4⟩ := HCB.out _ hB') | (go_at_call 61; (with_reducible refine Calls.mono (HO2.out _ ?_) ?_); (assumption); rintro e w' ⟨rfl, hb⟩; have hB' := HTR.out _ _ (by assumption) hb; obtain ⟨k0, k1, k2, k3, k4⟩ := HCB.out _ hB'))
          (try go_wp2_with fail)
          refine hK.out _ _ (by (try dsimp only); (first | go_keep | (refine ⟨by assumption, ?_⟩; go_keep))) (fun hHeld => ?_)
          clear hK K
          (try simp only [Act.put, List.setIfInBounds_toArray, List.set_cons_zero, List.set_cons_succ])
          refine wpAnyH_ready (rs := [2]) (by kernel_rfl) (by simp) ?_
          refine AllReadyH.cons (o := ⟨_, _, _, _, _, _⟩) rfl (fun K hK => ?_) AllReadyH.nil
          go_simp
          (first | (go_at_call 101; (with_reducible refine Calls.mono (HVA.out _ ?_) ?_); (assumption); rintro e w' ⟨rfl, hb⟩; have hB' := HTR.out _ _ (by assumption) hb; obtain ⟨k0, k1, k2, k3, k4⟩ := HCB.out _ hB') | (go_at_call 61; (with_reducible refine Calls.mono (HO1.out _ ?_) ?_); (assumption); rintro e w' ⟨rfl, hb⟩; have hB' := HTR.out _ _ (by assumption) hb; obtain ⟨k0, k1, k2, k3, k4⟩ := HCB.out _ hB') | (go_at_call 61; (with_reducible refine Calls.mono (HO2.out _ ?_) ?_); (assumption); rintro e w' ⟨rfl, hb⟩; have hB' := HTR.out _ _ (by assumption) hb; obtain ⟨k0, k1, k2, k3, k4⟩ := HCB.out _ hB'))
          (try go_wp2_with fail)
          refine hK.out _ _ (by (try dsimp only); (first | go_keep | (refine ⟨by assumption, ?_⟩; go_keep))) (fun hHeld => ?_)
          clear hK K
          (try simp only [Act.put, List.setIfInBounds_toArray, List.set_cons_zero, List.set_cons_succ])
          (refine wpAnyH_take (i := 3) (oi := ⟨_, _, _, _, _, _⟩) (v := ?_) rfl (by kernel_rfl) (by kernel_rfl) (by kernel_rfl) (fun _ _ _ h => h) (Or.inl ⟨by rfl, ?_⟩) (by assumption) ?_; rotate_left; focus ((intro w' hSw; (try dsimp only at hSw); go_simp; (try with_reducible rfl)))); (try simp only [Act.put, List.setIfInBounds_toArray, List.set_cons_zero, List.set_cons_succ])
          (refine wpAnyH_take (i := 4) (oi := ⟨_, _, _, _, _, _⟩) (v := ?_) rfl (by kernel_rfl) (by kernel_rfl) (by kernel_rfl) (fun _ _ _ h => h) (Or.inl ⟨by rfl, ?_⟩) (by assumption) ?_; rotate_left; focus ((intro w' hSw; (try dsimp only at hSw); go_simp; (try with_reducible rfl)))); (try simp only [Act.put, List.setIfInBounds_toArray, List.set_cons_zero, List.set_cons_succ])
          (refine wpAnyH_take (i := 5) (oi := ⟨_, _, _, _, _, _⟩) (v := ?_) rfl (by kernel_rfl) (by kernel_rfl) (by kernel_rfl) (fun _ _ _ h => h) (Or.inl ⟨by rfl, ?_⟩) (by assumption) ?_; rotate_left; focus ((intro w' hSw; (try dsimp only at hSw); go_simp; (try with_reducible rfl)))); (try simp only [Act.put, List.setIfInBounds_toArray, List.set_cons_zero, List.set_cons_succ])
          (refine wpAnyH_take (i := 6) (oi := ⟨_, _, _, _, _, _⟩) (v := ?_) rfl (by kernel_rfl) (by kernel_rfl) (by kernel_rfl) (fun _ _ _ h => h) (Or.inl ⟨by rfl, ?_⟩) (by assumption) ?_; rotate_left; focus ((intro w' hSw; (try dsimp only at hSw); go_simp; (try with_reducible rfl)))); (try simp only [Act.put, List.setIfInBounds_toArray, List.set_cons_zero, List.set_cons_succ])
          refine wpAnyH_ready (rs := [7]) (by kernel_rfl) (by simp) ?_
          refine AllReadyH.cons (o := ⟨_, _, _, _, _, _⟩) rfl (fun K hK => ?_) AllReadyH.nil
          go_simp
          (first | (go_at_call 101; (with_reducible refine Calls.mono (HVA.out _ ?_) ?_); (assumption); rintro e w' ⟨rfl, hb⟩; have hB' := HTR.out _ _ (by assumption) hb; obtain ⟨k0, k1, k2, k3, k4⟩ := HCB.out _ hB') | (go_at_call 61; (with_reducible refine Calls.mono (HO1.out _ ?_) ?_); (assumption); rintro e w' ⟨rfl, hb⟩; have hB' := HTR.out _ _ (by assumption) hb; obtain ⟨k0, k1, k2, k3, k4⟩ := HCB.out _ hB') | (go_at_call 61; (with_reducible refine Calls.mono (HO2.out _ ?_) ?_); (assumption); rintro e w' ⟨rfl, hb⟩; have hB' := HTR.out _ _ (by assumption) hb; obtain ⟨k0, k1, k2, k3, k4⟩ := HCB.out _ hB'))
          (try go_wp2_with fail)
          refine hK.out _ _ (by (try dsimp only); (first | go_keep | (refine ⟨by assumption, ?_⟩; go_keep))) (fun hHeld => ?_)
          clear hK K
          (try simp only [Act.put, List.setIfInBounds_toArray, List.set_cons_zero, List.set_cons_succ])
          (refine wpAnyH_take (i := 8) (oi := ⟨_, _, _, _, _, _⟩) (v := ?_) rfl (by kernel_rfl) (by kernel_rfl) (by kernel_rfl) (fun _ _ _ h => h) (Or.inl ⟨by rfl, ?_⟩) (by assumption) ?_; rotate_left; focus ((intro w' hSw; (try dsimp only at hSw); go_simp; (try with_reducible rfl)))); (try simp only [Act.put, List.setIfInBounds_toArray, List.set_cons_zero, List.set_cons_succ])
          (refine wpAnyH_take (i := 9) (oi := ⟨_, _, _, _, _, _⟩) (v := ?_) rfl (by kernel_rfl) (by kernel_rfl) (by kernel_rfl) (fun _ _ _ h => h) (Or.inl ⟨by rfl, ?_⟩) (by assumption) ?_; rotate_left; focus ((intro w' hSw; (try dsimp only at hSw); go_simp; (try with_reducible rfl)))); (try simp only [Act.put, List.setIfInBounds_toArray, List.set_cons_zero, List.set_cons_succ])
          (refine wpAnyH_take (i := 10) (oi := ⟨_, _, _, _, _, _⟩) (v := ?_) rfl (by kernel_rfl) (by kernel_rfl) (by kernel_rfl) (fun _ _ _ h => h) (Or.inl ⟨by rfl, ?_⟩) (by assumption) ?_; rotate_left; focus ((intro w' hSw; (try dsimp only at hSw); go_simp; (try with_reducible rfl)))); (try simp only [Act.put, List.setIfInBounds_toArray, List.set_cons_zero, List.set_cons_succ])
          (refine wpAnyH_take (i := 11) (oi := ⟨_, _, _, _, _, _⟩) (v := undef) rfl (by kernel_rfl) (by kernel_rfl) (by kernel_rfl) (fun _ _ _ h => h) (Or.inr ⟨by rfl, rfl⟩) (by assumption) ?_); (try simp only [Act.put, List.setIfInBounds_toArray, List.set_cons_zero, List.set_cons_succ])
          (refine wpAnyH_take (i := 12) (oi := ⟨_, _, _, _, _, _⟩) (v := undef) rfl (by kernel_rfl) (by kernel_rfl) (by kernel_rfl) (fun _ _ _ h => h) (Or.inr ⟨by rfl, rfl⟩) (by assumption) ?_); (try simp only [Act.put, List.setIfInBounds_toArray, List.set_cons_zero, List.set_cons_succ])
          (refine wpAnyH_take (i := 13) (oi := ⟨_, _, _, _, _, _⟩) (v := undef) rfl (by kernel_rfl) (by kernel_rfl) (by kernel_rfl) (fun _ _ _ h => h) (Or.inr ⟨by rfl, rfl⟩) (by assumption) ?_); (try simp only [Act.put, List.setIfInBounds_toArray, List.set_cons_zero, List.set_cons_succ])
          (refine wpAnyH_take (i := 14) (oi := ⟨_, _, _, _, _, _⟩) (v := undef) rfl (by kernel_rfl) (by kernel_rfl) (by kernel_rfl) (fun _ _ _ h => h) (Or.inr ⟨by rfl, rfl⟩) (by assumption) ?_); (try simp only [Act.put, List.setIfInBounds_toArray, List.set_cons_zero, List.set_cons_succ])
          (refine wpAnyH_take (i := 15) (oi := ⟨_, _, _, _, _, _⟩) (v := undef) rfl (by kernel_rfl) (by kernel_rfl) (by kernel_rfl) (fun _ _ _ h => h) (Or.inr ⟨by rfl, rfl⟩) (by assumption) ?_); (try simp only [Act.put, List.setIfInBounds_toArray, List.set_cons_zero, List.set_cons_succ])
          (refine wpAnyH_take (i := 16) (oi := ⟨_, _, _, _, _, _⟩) (v := undef) rfl (by kernel_rfl) (by kernel_rfl) (by kernel_rfl) (fun _ _ _ h => h) (Or.inr ⟨by rfl, rfl⟩) (by assumption) ?_); (try simp only [Act.put, List.setIfInBounds_toArray, List.set_cons_zero, List.set_cons_succ])
          (refine wpAnyH_take (i := 17) (oi := ⟨_, _, _, _, _, _⟩) (v := undef) rfl (by kernel_rfl) (by kernel_rfl) (by kernel_rfl) (fun _ _ _ h => h) (Or.inr ⟨by rfl, rfl⟩) (by assumption) ?_); (try simp only [Act.put, List.setIfInBounds_toArray, List.set_cons_zero, List.set_cons_succ])
          (refine wpAnyH_take (i := 18) (oi := ⟨_, _, _, _, _, _⟩) (v := undef) rfl (by kernel_rfl) (by kernel_rfl) (by kernel_rfl) (fun _ _ _ h => h) (Or.inr ⟨by rfl, rfl⟩) (by assumption) ?_); (try simp only [Act.put, List.setIfInBounds_toArray, List.set_cons_zero, List.set_cons_succ])
          (refine wpAnyH_take (i := 19) (oi := ⟨_, _, _, _, _, _⟩) (v := undef) rfl (by kernel_rfl) (by kernel_rfl) (by kernel_rfl) (fun _ _ _ h => h) (Or.inr ⟨by rfl, rfl⟩) (by assumption) ?_); (try simp only [Act.put, List.setIfInBounds_toArray, List.set_cons_zero, List.set_cons_succ])
          (refine wpAnyH_take (i := 20) (oi := ⟨_, _, _, _, _, _⟩) (v := undef) rfl (by kernel_rfl) (by kernel_rfl) (by kernel_rfl) (fun _ _ _ h => h) (Or.inr ⟨by rfl, rfl⟩) (by assumption) ?_); (try simp only [Act.put, List.setIfInBounds_toArray, List.set_cons_zero, List.set_cons_succ])
          (refine wpAnyH_take (i := 21) (oi := ⟨_, _, _, _, _, _⟩) (v := undef) rfl (by kernel_rfl) (by kernel_rfl) (by kernel_rfl) (fun _ _ _ h => h) (Or.inr ⟨by rfl, rfl⟩) (by assumption) ?_); (try simp only [Act.put, List.setIfInBounds_toArray, List.set_cons_zero, List.set_cons_succ])
          (refine wpAnyH_take (i := 22) (oi := ⟨_, _, _, _, _, _⟩) (v := undef) rfl (by kernel_rfl) (by kernel_rfl) (by kernel_rfl) (fun _ _ _ h => h) (Or.inr ⟨by rfl, rfl⟩) (by assumption) ?_); (try simp only [Act.put, List.setIfInBounds_toArray, List.set_cons_zero, List.set_cons_succ])
          (refine wpAnyH_take (i := 23) (oi := ⟨_, _, _, _, _, _⟩) (v := undef) rfl (by kernel_rfl) (by kernel_rfl) (by kernel_rfl) (fun _ _ _ h => h) (Or.inr ⟨by rfl, rfl⟩) (by assumption) ?_); (try simp only [Act.put, List.setIfInBounds_toArray, List.set_cons_zero, List.set_cons_succ])
          (refine wpAnyH_take (i := 24) (oi := ⟨_, _, _, _, _, _⟩) (v := ?_) rfl (by kernel_rfl) (by kernel_rfl) (by kernel_rfl) (fun _ _ _ h => h) (Or.inl ⟨by rfl, ?_⟩) (by assumption) ?_; rotate_left; focus ((intro w' hSw; (try dsimp only at hSw); go_simp; (try with_reducible rfl)))); (try simp only [Act.put, List.setIfInBounds_toArray, List.set_cons_zero, List.set_cons_succ])
          refine wpAnyH_done (by kernel_rfl) ?_ _
          go_wp2
          go_ret
          exact ⟨rfl, HENW.out _ (by assumption)⟩
        | true =>
          have HOK := Lib.hid (okB_true.1 hv2)
          rw [hv2] at HO2
          clear hv2
          by_cases hkz : k = 0
          · have HPL : Hid (PlaceV s k x) := Lib.hid ⟨HRG.out, HOK.out, fun j c e _ => by omega⟩
            have g0 : decide ((0 : Int) < (k : Int)) = false := decide_eq_false (by omega)
            have g0n : decide (0 < k) = false := decide_eq_false (by omega)
            clear hkz HU1 HBX HRG HOK
            refine wp_region_held_drew (S := (fun w' => Below w1.heap.size w1 w' ∧ w'.cell? ⟨nb, 0, none⟩ = some (.int .i64 x.v) ∧ w'.cell? ⟨nb, 1, none⟩ = some (.int .i64 x.t.kind) ∧ w'.cell? ⟨nb, 2, none⟩ = some (.int .i64 x.t.num) ∧ w'.cell? ⟨nb, 3, none⟩ = some (.string x.t.name) ∧ w'.cell? ⟨nb, 4, none⟩ = some (.slice u1 x.t.args.length u2))) (by kernel_rfl) (by (try dsimp only); go_keep) (fun hHeld => ?_)
            (refine wpAnyH_take (i := 0) (oi := ⟨_, _, _, _, _, _⟩) (v := ?_) rfl (by kernel_rfl) (by kernel_rfl) (by kernel_rfl) (fun _ _ _ h => h) (Or.inl ⟨by rfl, ?_⟩) (by assumption) ?_; rotate_left; focus ((intro w' hSw; (try dsimp only at hSw); go_simp; (try with_reducible rfl)))); (try simp only [Act.put, List.setIfInBounds_toArray, List.set_cons_zero, List.set_cons_succ])
            refine wpAnyH_ready (rs := [1]) (by kernel_rfl) (by simp) ?_
            refine AllReadyH.cons (o := ⟨_, _, _, _, _, _⟩) rfl (fun K hK => ?_) AllReadyH.nil
            go_simp
            (first | (go_at_call 101; (with_reducible refine Calls.mono (HVA.out _ ?_) ?_); (assumption); rintro e w' ⟨rfl, hb⟩; have hB' := HTR.out _ _ (by assumption) hb; obtain ⟨k0, k1, k2, k3, k4⟩ := HCB.out _ hB') | (go_at_call 61; (with_reducible refine Calls.mono (HO1.out _ ?_) ?_); (assumption); rintro e w' ⟨rfl, hb⟩; have hB' := HTR.out _ _ (by assumption) hb; obtain ⟨k0, k1, k2, k3, k4⟩ := HCB.out _ hB') | (go_at_call 61; (with_reducible refine Calls.mono (HO2.out _ ?_) ?_); (assumption); rintro e w' ⟨rfl, hb⟩; have hB' := HTR.out _ _ (by assumption) hb; obtain ⟨k0, k1, k2, k3, k4⟩ := HCB.out _ hB'))
            (try go_wp2_with fail)
            refine hK.out _ _ (by (try dsimp only); (first | go_keep | (refine ⟨by assumption, ?_⟩; go_keep))) (fun hHeld => ?_)
            clear hK K
            (try simp only [Act.put, List.setIfInBounds_toArray, List.set_cons_zero, List.set_cons_succ])
            refine wpAnyH_ready (rs := [2]) (by kernel_rfl) (by simp) ?_
            refine AllReadyH.cons (o := ⟨_, _, _, _, _, _⟩) rfl (fun K hK => ?_) AllReadyH.nil
            go_simp
            (first | (go_at_call 101; (with_reducible refine Calls.mono (HVA.out _ ?_) ?_); (assumption); rintro e w' ⟨rfl, hb⟩; have hB' := HTR.out _ _ (by assumption) hb; obtain ⟨k0, k1, k2, k3, k4⟩ := HCB.out _ hB') | (go_at_call 61; (with_reducible refine Calls.mono (HO1.out _ ?_) ?_); (assumption); rintro e w' ⟨rfl, hb⟩; have hB' := HTR.out _ _ (by assumption) hb; obtain ⟨k0, k1, k2, k3, k4⟩ := HCB.out _ hB') | (go_at_call 61; (with_reducible refine Calls.mono (HO2.out _ ?_) ?_); (assumption); rintro e w' ⟨rfl, hb⟩; have hB' := HTR.out _ _ (by assumption) hb; obtain ⟨k0, k1, k2, k3, k4⟩ := HCB.out _ hB'))
            (try go_wp2_with fail)
            refine hK.out _ _ (by (try dsimp only); (first | go_keep | (refine ⟨by assumption, ?_⟩; go_keep))) (fun hHeld => ?_)
            clear hK K
            (try simp only [Act.put, List.setIfInBounds_toArray, List.set_cons_zero, List.set_cons_succ])
            (refine wpAnyH_take (i := 3) (oi := ⟨_, _, _, _, _, _⟩) (v := ?_) rfl (by kernel_rfl) (by kernel_rfl) (by kernel_rfl) (fun _ _ _ h => h) (Or.inl ⟨by rfl, ?_⟩) (by assumption) ?_; rotate_left; focus ((intro w' hSw; (try dsimp only at hSw); go_simp; (try with_reducible rfl)))); (try simp only [Act.put, List.setIfInBounds_toArray, List.set_cons_zero, List.set_cons_succ])
            (refine wpAnyH_take (i := 4) (oi := ⟨_, _, _, _, _, _⟩) (v := ?_) rfl (by kernel_rfl) (by kernel_rfl) (by kernel_rfl) (fun _ _ _ h => h) (Or.inl ⟨by rfl, ?_⟩) (by assumption) ?_; rotate_left; focus ((intro w' hSw; (try dsimp only at hSw); go_simp; (try with_reducible rfl)))); (try simp only [Act.put, List.setIfInBounds_toArray, List.set_cons_zero, List.set_cons_succ])
            (refine wpAnyH_take (i := 5) (oi := ⟨_, _, _, _, _, _⟩) (v := ?_) rfl (by kernel_rfl) (by kernel_rfl) (by kernel_rfl) (fun _ _ _ h => h) (Or.inl ⟨by rfl, ?_⟩) (by assumption) ?_; rotate_left; focus ((intro w' hSw; (try dsimp only at hSw); go_simp; (try with_reducible rfl)))); (try simp only [Act.put, List.setIfInBounds_toArray, List.set_cons_zero, List.set_cons_succ])
            (refine wpAnyH_take (i := 6) (oi := ⟨_, _, _, _, _, _⟩) (v := ?_) rfl (by kernel_rfl) (by kernel_rfl) (by kernel_rfl) (fun _ _ _ h => h) (Or.inl ⟨by rfl, ?_⟩) (by assumption) ?_; rotate_left; focus ((intro w' hSw; (try dsimp only at hSw); go_simp; (try with_reducible rfl)))); (try simp only [Act.put, List.setIfInBounds_toArray, List.set_cons_zero, List.set_cons_succ])
            refine wpAnyH_ready (rs := [7]) (by kernel_rfl) (by simp) ?_
            refine AllReadyH.cons (o := ⟨_, _, _, _, _, _⟩) rfl (fun K hK => ?_) AllReadyH.nil
            go_simp
            (first | (go_at_call 101; (with_reducible refine Calls.mono (HVA.out _ ?_) ?_); (assumption); rintro e w' ⟨rfl, hb⟩; have hB' := HTR.out _ _ (by assumption) hb; obtain ⟨k0, k1, k2, k3, k4⟩ := HCB.out _ hB') | (go_at_call 61; (with_reducible refine Calls.mono (HO1.out _ ?_) ?_); (assumption); rintro e w' ⟨rfl, hb⟩; have hB' := HTR.out _ _ (by assumption) hb; obtain ⟨k0, k1, k2, k3, k4⟩ := HCB.out _ hB') | (go_at_call 61; (with_reducible refine Calls.mono (HO2.out _ ?_) ?_); (assumption); rintro e w' ⟨rfl, hb⟩; have hB' := HTR.out _ _ (by assumption) hb; obtain ⟨k0, k1, k2, k3, k4⟩ := HCB.out _ hB'))
            (try go_wp2_with fail)
            refine hK.out _ _ (by (try dsimp only); (first | go_keep | (refine ⟨by assumption, ?_⟩; go_keep))) (fun hHeld => ?_)
            clear hK K
            (try simp only [Act.put, List.setIfInBounds_toArray, List.set_cons_zero, List.set_cons_succ])
            (refine wpAnyH_take (i := 8) (oi := ⟨_, _, _, _, _, _⟩) (v := ?_) rfl (by kernel_rfl) (by kernel_rfl) (by kernel_rfl) (fun _ _ _ h => h) (Or.inl ⟨by rfl, ?_⟩) (by assumption) ?_; rotate_left; focus ((intro w' hSw; (try dsimp only at hSw); go_simp; (try with_reducible rfl)))); (try simp only [Act.put, List.setIfInBounds_toArray, List.set_cons_zero, List.set_cons_succ])
            (refine wpAnyH_take (i := 9) (oi := ⟨_, _, _, _, _, _⟩) (v := ?_) rfl (by kernel_rfl) (by kernel_rfl) (by kernel_rfl) (fun _ _ _ h => h) (Or.inl ⟨by rfl, ?_⟩) (by assumption) ?_; rotate_left; focus ((intro w' hSw; (try dsimp only at hSw); go_simp; (try with_reducible rfl)))); (try simp only [Act.put, List.setIfInBounds_toArray, List.set_cons_zero, List.set_cons_succ])
            (refine wpAnyH_take (i := 10) (oi := ⟨_, _, _, _, _, _⟩) (v := ?_) rfl (by kernel_rfl) (by kernel_rfl) (by kernel_rfl) (fun _ _ _ h => h) (Or.inl ⟨by rfl, ?_⟩) (by assumption) ?_; rotate_left; focus ((intro w' hSw; (try dsimp only at hSw); go_simp; (try with_reducible rfl)))); (try simp only [Act.put, List.setIfInBounds_toArray, List.set_cons_zero, List.set_cons_succ])
            (refine wpAnyH_take (i := 11) (oi := ⟨_, _, _, _, _, _⟩) (v := ?_) rfl (by kernel_rfl) (by kernel_rfl) (by kernel_rfl) (fun _ _ _ h => h) (Or.inl ⟨by rfl, ?_⟩) (by assumption) ?_; rotate_left; focus ((intro w' hSw; (try dsimp only at hSw); go_simp; (try with_reducible rfl)))); (try simp only [Act.put, List.setIfInBounds_toArray, List.set_cons_zero, List.set_cons_succ])
            (refine wpAnyH_take (i := 12) (oi := ⟨_, _, _, _, _, _⟩) (v := ?_) rfl (by kernel_rfl) (by kernel_rfl) (by kernel_rfl) (fun _ _ _ h => h) (Or.inl ⟨by rfl, ?_⟩) (by assumption) ?_; rotate_left; focus ((intro w' hSw; (try dsimp only at hSw); go_simp; (try with_reducible rfl)))); (try simp only [Act.put, List.setIfInBounds_toArray, List.set_cons_zero, List.set_cons_succ])
            (refine wpAnyH_take (i := 13) (oi := ⟨_, _, _, _, _, _⟩) (v := ?_) rfl (by kernel_rfl) (by kernel_rfl) (by kernel_rfl) (fun _ _ _ h => h) (Or.inl ⟨by rfl, ?_⟩) (by assumption) ?_; rotate_left; focus ((intro w' hSw; (try dsimp only at hSw); go_simp; (try with_reducible rfl)))); (try simp only [Act.put, List.setIfInBounds_toArray, List.set_cons_zero, List.set_cons_succ])
            (refine wpAnyH_take (i := 14) (oi := ⟨_, _, _, _, _, _⟩) (v := undef) rfl (by kernel_rfl) (by kernel_rfl) (by kernel_rfl) (fun _ _ _ h => h) (Or.inr ⟨by rfl, rfl⟩) (by assumption) ?_); (try simp only [Act.put, List.setIfInBounds_toArray, List.set_cons_zero, List.set_cons_succ])
            (refine wpAnyH_take (i := 15) (oi := ⟨_, _, _, _, _, _⟩) (v := undef) rfl (by kernel_rfl) (by kernel_rfl) (by kernel_rfl) (fun _ _ _ h => h) (Or.inr ⟨by rfl, rfl⟩) (by assumption) ?_); (try simp only [Act.put, List.setIfInBounds_toArray, List.set_cons_zero, List.set_cons_succ])
            (refine wpAnyH_take (i := 16) (oi := ⟨_, _, _, _, _, _⟩) (v := undef) rfl (by kernel_rfl) (by kernel_rfl) (by kernel_rfl) (fun _ _ _ h => h) (Or.inr ⟨by rfl, rfl⟩) (by assumption) ?_); (try simp only [Act.put, List.setIfInBounds_toArray, List.set_cons_zero, List.set_cons_succ])
            (refine wpAnyH_take (i := 17) (oi := ⟨_, _, _, _, _, _⟩) (v := undef) rfl (by kernel_rfl) (by kernel_rfl) (by kernel_rfl) (fun _ _ _ h => h) (Or.inr ⟨by rfl, rfl⟩) (by assumption) ?_); (try simp only [Act.put, List.setIfInBounds_toArray, List.set_cons_zero, List.set_cons_succ])
            (refine wpAnyH_take (i := 18) (oi := ⟨_, _, _, _, _, _⟩) (v := undef) rfl (by kernel_rfl) (by kernel_rfl) (by kernel_rfl) (fun _ _ _ h => h) (Or.inr ⟨by rfl, rfl⟩) (by assumption) ?_); (try simp only [Act.put, List.setIfInBounds_toArray, List.set_cons_zero, List.set_cons_succ])
            (refine wpAnyH_take (i := 19) (oi := ⟨_, _, _, _, _, _⟩) (v := undef) rfl (by kernel_rfl) (by kernel_rfl) (by kernel_rfl) (fun _ _ _ h => h) (Or.inr ⟨by rfl, rfl⟩) (by assumption) ?_); (try simp only [Act.put, List.setIfInBounds_toArray, List.set_cons_zero, List.set_cons_succ])
            (refine wpAnyH_take (i := 20) (oi := ⟨_, _, _, _, _, _⟩) (v := undef) rfl (by kernel_rfl) (by kernel_rfl) (by kernel_rfl) (fun _ _ _ h => h) (Or.inr ⟨by rfl, rfl⟩) (by assumption) ?_); (try simp only [Act.put, List.setIfInBounds_toArray, List.set_cons_zero, List.set_cons_succ])
            (refine wpAnyH_take (i := 21) (oi := ⟨_, _, _, _, _, _⟩) (v := undef) rfl (by kernel_rfl) (by kernel_rfl) (by kernel_rfl) (fun _ _ _ h => h) (Or.inr ⟨by rfl, rfl⟩) (by assumption) ?_); (try simp only [Act.put, List.setIfInBounds_toArray, List.set_cons_zero, List.set_cons_succ])
            (refine wpAnyH_take (i := 22) (oi := ⟨_, _, _, _, _, _⟩) (v := undef) rfl (by kernel_rfl) (by kernel_rfl) (by kernel_rfl) (fun _ _ _ h => h) (Or.inr ⟨by rfl, rfl⟩) (by assumption) ?_); (try simp only [Act.put, List.setIfInBounds_toArray, List.set_cons_zero, List.set_cons_succ])
            (refine wpAnyH_take (i := 23) (oi := ⟨_, _, _, _, _, _⟩) (v := ?_) rfl (by kernel_rfl) (by kernel_rfl) (by kernel_rfl) (fun _ _ _ h => h) (Or.inl ⟨by rfl, ?_⟩) (by assumption) ?_; rotate_left; focus ((intro w' hSw; (try dsimp only at hSw); go_simp; (try with_reducible rfl)))); (try simp only [Act.put, List.setIfInBounds_toArray, List.set_cons_zero, List.set_cons_succ])
            (refine wpAnyH_take (i := 24) (oi := ⟨_, _, _, _, _, _⟩) (v := ?_) rfl (by kernel_rfl) (by kernel_rfl) (by kernel_rfl) (fun _ _ _ h => h) (Or.inl ⟨by rfl, ?_⟩) (by assumption) ?_; rotate_left; focus ((intro w' hSw; (try dsimp only at hSw); go_simp; (try with_reducible rfl)))); (try simp only [Act.put, List.setIfInBounds_toArray, List.set_cons_zero, List.set_cons_succ])
            refine wpAnyH_done (by kernel_rfl) ?_ _
            go_wp2
            go_roundw
            case rel =>
              refine ⟨k + 1, by omega, by go_num, Lib.hid fun i z hi hz => ?_, Lib.hid (HENW.out _ (by assumption))⟩
              by_cases q : i = k
              · subst q
                cases hz.symm.trans HX.out
                exact HPL.out
              · exact HV.out i z (by omega) hz
            case measure => simp [intOf]; omega
          · obtain ⟨j, hj⟩ : ∃ j, k = j + 1 := ⟨k - 1, by omega⟩
            have g0 : decide ((0 : Int) < (k : Int)) = true := decide_eq_true (by omega)
            have g0n : decide (0 < k) = true := decide_eq_true (by omega)
            obtain ⟨y, hy⟩ : ∃ y, s[j]? = some y := ⟨_, List.getElem?_eq_getElem (by omega)⟩
            obtain ⟨g', off', v1, v2, he, _, _, hcy, _⟩ := HA.out.bd hy
            simp only [Option.some.injEq, Addr.mk.injEq, and_true] at he
            obtain ⟨rfl, rfl⟩ := he
            have HCY : Hid (∀ W, Below w1.heap.size w1 W → W.cell? ⟨g, off + j * 5, none⟩ = some (.int .i64 y.v)) := Lib.hid fun W hW => (hcy W (HENW.out W hW)).1
            have HY := Lib.hid hy
            have m0 : (0 : Int) ≤ (j : Int) := by omega
            have m1 : (j : Int) < (s.length : Int) := by omega
            have HKJ := Lib.hid hj
            have m2 : IntKind.i64.wrap ((k : Int) - 1) = (j : Int) := by rw [IntWalk.i64_in _ (by omega)]; omega
            have c0 := HCY.out w1 hself
            clear hcy hy hj hkz
            by_cases hd : y.v < x.v
            · have g1 : decide (x.v ≤ y.v) = false := decide_eq_false (by omega)
              have HPL : Hid (PlaceV s k x) := Lib.hid ⟨HRG.out, HOK.out, fun i c e hc => by (obtain rfl : i = j := (by have := HKJ.out; omega)); cases hc.symm.trans HY.out; exact hd⟩
              clear hd HU1 HBX HRG HOK HY
              refine wp_region_held_drew (S := (fun w' => Below w1.heap.size w1 w' ∧ w'.cell? ⟨nb, 0, none⟩ = some (.int .i64 x.v) ∧ w'.cell? ⟨nb, 1, none⟩ = some (.int .i64 x.t.kind) ∧ w'.cell? ⟨nb, 2, none⟩ = some (.int .i64 x.t.num) ∧ w'.cell? ⟨nb, 3, none⟩ = some (.string x.t.name) ∧ w'.cell? ⟨nb, 4, none⟩ = some (.slice u1 x.t.args.length u2) ∧ w'.cell? ⟨g, off + j * 5, none⟩ = some (.int .i64 y.v))) (by kernel_rfl) (by (try dsimp only); go_keep) (fun hHeld => ?_)
              (refine wpAnyH_take (i := 0) (oi := ⟨_, _, _, _, _, _⟩) (v := ?_) rfl (by kernel_rfl) (by kernel_rfl) (by kernel_rfl) (fun _ _ _ h => h) (Or.inl ⟨by rfl, ?_⟩) (by assumption) ?_; rotate_left; focus ((intro w' hSw; (try dsimp only at hSw); go_simp; (try with_reducible rfl)))); (try simp only [Act.put, List.setIfInBounds_toArray, List.set_cons_zero, List.set_cons_succ])
              refine wpAnyH_ready (rs := [1]) (by kernel_rfl) (by simp) ?_
              refine AllReadyH.cons (o := ⟨_, _, _, _, _, _⟩) rfl (fun K hK => ?_) AllReadyH.nil
              go_simp
              (first | (go_at_call 101; (with_reducible refine Calls.mono (HVA.out _ ?_) ?_); (assumption); rintro e w' ⟨rfl, hb⟩; have hB' := HTR.out _ _ (by assumption) hb; obtain ⟨k0, k1, k2, k3, k4⟩ := HCB.out _ hB'; have c0 := HCY.out _ hB') | (go_at_call 61; (with_reducible refine Calls.mono (HO1.out _ ?_) ?_); (assumption); rintro e w' ⟨rfl, hb⟩; have hB' := HTR.out _ _ (by assumption) hb; obtain ⟨k0, k1, k2, k3, k4⟩ := HCB.out _ hB'; have c0 := HCY.out _ hB') | (go_at_call 61; (with_reducible refine Calls.mono (HO2.out _ ?_) ?_); (assumption); rintro e w' ⟨rfl, hb⟩; have hB' := HTR.out _ _ (by assumption) hb; obtain ⟨k0, k1, k2, k3, k4⟩ := HCB.out _ hB'; have c0 := HCY.out _ hB'))
              (try go_wp2_with fail)
              refine hK.out _ _ (by (try dsimp only); (first | go_keep | (refine ⟨by assumption, ?_⟩; go_keep))) (fun hHeld => ?_)
              clear hK K
              (try simp only [Act.put, List.setIfInBounds_toArray, List.set_cons_zero, List.set_cons_succ])
              refine wpAnyH_ready (rs := [2]) (by kernel_rfl) (by simp) ?_
              refine AllReadyH.cons (o := ⟨_, _, _, _, _, _⟩) rfl (fun K hK => ?_) AllReadyH.nil
              go_simp
              (first | (go_at_call 101; (with_reducible refine Calls.mono (HVA.out _ ?_) ?_); (assumption); rintro e w' ⟨rfl, hb⟩; have hB' := HTR.out _ _ (by assumption) hb; obtain ⟨k0, k1, k2, k3, k4⟩ := HCB.out _ hB'; have c0 := HCY.out _ hB') | (go_at_call 61; (with_reducible refine Calls.mono (HO1.out _ ?_) ?_); (assumption); rintro e w' ⟨rfl, hb⟩; have hB' := HTR.out _ _ (by assumption) hb; obtain ⟨k0, k1, k2, k3, k4⟩ := HCB.out _ hB'; have c0 := HCY.out _ hB') | (go_at_call 61; (with_reducible refine Calls.mono (HO2.out _ ?_) ?_); (assumption); rintro e w' ⟨rfl, hb⟩; have hB' := HTR.out _ _ (by assumption) hb; obtain ⟨k0, k1, k2, k3, k4⟩ := HCB.out _ hB'; have c0 := HCY.out _ hB'))
              (try go_wp2_with fail)
              refine hK.out _ _ (by (try dsimp only); (first | go_keep | (refine ⟨by assumption, ?_⟩; go_keep))) (fun hHeld => ?_)
              clear hK K
              (try simp only [Act.put, List.setIfInBounds_toArray, List.set_cons_zero, List.set_cons_succ])
              (refine wpAnyH_take (i := 3) (oi := ⟨_, _, _, _, _, _⟩) (v := ?_) rfl (by kernel_rfl) (by kernel_rfl) (by kernel_rfl) (fun _ _ _ h => h) (Or.inl ⟨by rfl, ?_⟩) (by assumption) ?_; rotate_left; focus ((intro w' hSw; (try dsimp only at hSw); go_simp; (try with_reducible rfl)))); (try simp only [Act.put, List.setIfInBounds_toArray, List.set_cons_zero, List.set_cons_succ])
              (refine wpAnyH_take (i := 4) (oi := ⟨_, _, _, _, _, _⟩) (v := ?_) rfl (by kernel_rfl) (by kernel_rfl) (by kernel_rfl) (fun _ _ _ h => h) (Or.inl ⟨by rfl, ?_⟩) (by assumption) ?_; rotate_left; focus ((intro w' hSw; (try dsimp only at hSw); go_simp; (try with_reducible rfl)))); (try simp only [Act.put, List.setIfInBounds_toArray, List.set_cons_zero, List.set_cons_succ])
              (refine wpAnyH_take (i := 5) (oi := ⟨_, _, _, _, _, _⟩) (v := ?_) rfl (by kernel_rfl) (by kernel_rfl) (by kernel_rfl) (fun _ _ _ h => h) (Or.inl ⟨by rfl, ?_⟩) (by assumption) ?_; rotate_left; focus ((intro w' hSw; (try dsimp only at hSw); go_simp; (try with_reducible rfl)))); (try simp only [Act.put, List.setIfInBounds_toArray, List.set_cons_zero, List.set_cons_succ])
              (refine wpAnyH_take (i := 6) (oi := ⟨_, _, _, _, _, _⟩) (v := ?_) rfl (by kernel_rfl) (by kernel_rfl) (by kernel_rfl) (fun _ _ _ h => h) (Or.inl ⟨by rfl, ?_⟩) (by assumption) ?_; rotate_left; focus ((intro w' hSw; (try dsimp only at hSw); go_simp; (try with_reducible rfl)))); (try simp only [Act.put, List.setIfInBounds_toArray, List.set_cons_zero, List.set_cons_succ])
              refine wpAnyH_ready (rs := [7]) (by kernel_rfl) (by simp) ?_
              refine AllReadyH.cons (o := ⟨_, _, _, _, _, _⟩) rfl (fun K hK => ?_) AllReadyH.nil
              go_simp
              (first | (go_at_call 101; (with_reducible refine Calls.mono (HVA.out _ ?_) ?_); (assumption); rintro e w' ⟨rfl, hb⟩; have hB' := HTR.out _ _ (by assumption) hb; obtain ⟨k0, k1, k2, k3, k4⟩ := HCB.out _ hB'; have c0 := HCY.out _ hB') | (go_at_call 61; (with_reducible refine Calls.mono (HO1.out _ ?_) ?_); (assumption); rintro e w' ⟨rfl, hb⟩; have hB' := HTR.out _ _ (by assumption) hb; obtain ⟨k0, k1, k2, k3, k4⟩ := HCB.out _ hB'; have c0 := HCY.out _ hB') | (go_at_call 61; (with_reducible refine Calls.mono (HO2.out _ ?_) ?_); (assumption); rintro e w' ⟨rfl, hb⟩; have hB' := HTR.out _ _ (by assumption) hb; obtain ⟨k0, k1, k2, k3, k4⟩ := HCB.out _ hB'; have c0 := HCY.out _ hB'))
              (try go_wp2_with fail)
              refine hK.out _ _ (by (try dsimp only); (first | go_keep | (refine ⟨by assumption, ?_⟩; go_keep))) (fun hHeld => ?_)
              clear hK K
              (try simp only [Act.put, List.setIfInBounds_toArray, List.set_cons_zero, List.set_cons_succ])
              (refine wpAnyH_take (i := 8) (oi := ⟨_, _, _, _, _, _⟩) (v := ?_) rfl (by kernel_rfl) (by kernel_rfl) (by kernel_rfl) (fun _ _ _ h => h) (Or.inl ⟨by rfl, ?_⟩) (by assumption) ?_; rotate_left; focus ((intro w' hSw; (try dsimp only at hSw); go_simp; (try with_reducible rfl)))); (try simp only [Act.put, List.setIfInBounds_toArray, List.set_cons_zero, List.set_cons_succ])
              (refine wpAnyH_take (i := 9) (oi := ⟨_, _, _, _, _, _⟩) (v := ?_) rfl (by kernel_rfl) (by kernel_rfl) (by kernel_rfl) (fun _ _ _ h => h) (Or.inl ⟨by rfl, ?_⟩) (by assumption) ?_; rotate_left; focus ((intro w' hSw; (try dsimp only at hSw); go_simp; (try with_reducible rfl)))); (try simp only [Act.put, List.setIfInBounds_toArray, List.set_cons_zero, List.set_cons_succ])
              (refine wpAnyH_take (i := 10) (oi := ⟨_, _, _, _, _, _⟩) (v := ?_) rfl (by kernel_rfl) (by kernel_rfl) (by kernel_rfl) (fun _ _ _ h => h) (Or.inl ⟨by rfl, ?_⟩) (by assumption) ?_; rotate_left; focus ((intro w' hSw; (try dsimp only at hSw); go_simp; (try with_reducible rfl)))); (try simp only [Act.put, List.setIfInBounds_toArray, List.set_cons_zero, List.set_cons_succ])
              (refine wpAnyH_take (i := 11) (oi := ⟨_, _, _, _, _, _⟩) (v := ?_) rfl (by kernel_rfl) (by kernel_rfl) (by kernel_rfl) (fun _ _ _ h => h) (Or.inl ⟨by rfl, ?_⟩) (by assumption) ?_; rotate_left; focus ((intro w' hSw; (try dsimp only at hSw); go_simp; (try with_reducible rfl)))); (try simp only [Act.put, List.setIfInBounds_toArray, List.set_cons_zero, List.set_cons_succ])
              (refine wpAnyH_take (i := 12) (oi := ⟨_, _, _, _, _, _⟩) (v := ?_) rfl (by kernel_rfl) (by kernel_rfl) (by kernel_rfl) (fun _ _ _ h => h) (Or.inl ⟨by rfl, ?_⟩) (by assumption) ?_; rotate_left; focus ((intro w' hSw; (try dsimp only at hSw); go_simp; (try with_reducible rfl)))); (try simp only [Act.put, List.setIfInBounds_toArray, List.set_cons_zero, List.set_cons_succ])
              (refine wpAnyH_take (i := 13) (oi := ⟨_, _, _, _, _, _⟩) (v := ?_) rfl (by kernel_rfl) (by kernel_rfl) (by kernel_rfl) (fun _ _ _ h => h) (Or.inl ⟨by rfl, ?_⟩) (by assumption) ?_; rotate_left; focus ((intro w' hSw; (try dsimp only at hSw); go_simp; (try with_reducible rfl)))); (try simp only [Act.put, List.setIfInBounds_toArray, List.set_cons_zero, List.set_cons_succ])
              (refine wpAnyH_take (i := 14) (oi := ⟨_, _, _, _, _, _⟩) (v := ?_) rfl (by kernel_rfl) (by kernel_rfl) (by kernel_rfl) (fun _ _ _ h => h) (Or.inl ⟨by rfl, ?_⟩) (by assumption) ?_; rotate_left; focus ((intro w' hSw; (try dsimp only at hSw); go_simp; (try with_reducible rfl)))); (try simp only [Act.put, List.setIfInBounds_toArray, List.set_cons_zero, List.set_cons_succ])
              (refine wpAnyH_take (i := 15) (oi := ⟨_, _, _, _, _, _⟩) (v := ?_) rfl (by kernel_rfl) (by kernel_rfl) (by kernel_rfl) (fun _ _ _ h => h) (Or.inl ⟨by rfl, ?_⟩) (by assumption) ?_; rotate_left; focus ((intro w' hSw; (try dsimp only at hSw); go_simp; (try with_reducible rfl)))); (try simp only [Act.put, List.setIfInBounds_toArray, List.set_cons_zero, List.set_cons_succ])
              (refine wpAnyH_take (i := 16) (oi := ⟨_, _, _, _, _, _⟩) (v := ?_) rfl (by kernel_rfl) (by kernel_rfl) (by kernel_rfl) (fun _ _ _ h => h) (Or.inl ⟨by rfl, ?_⟩) (by assumption) ?_; rotate_left; focus ((intro w' hSw; (try dsimp only at hSw); go_simp; (try with_reducible rfl)))); (try simp only [Act.put, List.setIfInBounds_toArray, List.set_cons_zero, List.set_cons_succ])
              (refine wpAnyH_take (i := 17) (oi := ⟨_, _, _, _, _, _⟩) (v := ?_) rfl (by kernel_rfl) (by kernel_rfl) (by kernel_rfl) (fun _ _ _ h => h) (Or.inl ⟨by rfl, ?_⟩) (by assumption) ?_; rotate_left; focus ((intro w' hSw; (try dsimp only at hSw); go_simp; (try with_reducible rfl)))); (try simp only [Act.put, List.setIfInBounds_toArray, List.set_cons_zero, List.set_cons_succ])
              (refine wpAnyH_take (i := 18) (oi := ⟨_, _, _, _, _, _⟩) (v := ?_) rfl (by kernel_rfl) (by kernel_rfl) (by kernel_rfl) (fun _ _ _ h => h) (Or.inl ⟨by rfl, ?_⟩) (by assumption) ?_; rotate_left; focus ((intro w' hSw; (try dsimp only at hSw); go_simp; (try with_reducible rfl)))); (try simp only [Act.put, List.setIfInBounds_toArray, List.set_cons_zero, List.set_cons_succ])
              (refine wpAnyH_take (i := 19) (oi := ⟨_, _, _, _, _, _⟩) (v := ?_) rfl (by kernel_rfl) (by kernel_rfl) (by kernel_rfl) (fun _ _ _ h => h) (Or.inl ⟨by rfl, ?_⟩) (by assumption) ?_; rotate_left; focus ((intro w' hSw; (try dsimp only at hSw); go_simp; (try with_reducible rfl)))); (try simp only [Act.put, List.setIfInBounds_toArray, List.set_cons_zero, List.set_cons_succ])
              (refine wpAnyH_take (i := 20) (oi := ⟨_, _, _, _, _, _⟩) (v := ?_) rfl (by kernel_rfl) (by kernel_rfl) (by kernel_rfl) (fun _ _ _ h => h) (Or.inl ⟨by rfl, ?_⟩) (by assumption) ?_; rotate_left; focus ((intro w' hSw; (try dsimp only at hSw); go_simp; (try with_reducible rfl)))); (try simp only [Act.put, List.setIfInBounds_toArray, List.set_cons_zero, List.set_cons_succ])
              (refine wpAnyH_take (i := 21) (oi := ⟨_, _, _, _, _, _⟩) (v := ?_) rfl (by kernel_rfl) (by kernel_rfl) (by kernel_rfl) (fun _ _ _ h => h) (Or.inl ⟨by rfl, ?_⟩) (by assumption) ?_; rotate_left; focus ((intro w' hSw; (try dsimp only at hSw); go_simp; (try with_reducible rfl)))); (try simp only [Act.put, List.setIfInBounds_toArray, List.set_cons_zero, List.set_cons_succ])
              (refine wpAnyH_take (i := 22) (oi := ⟨_, _, _, _, _, _⟩) (v := ?_) rfl (by kernel_rfl) (by kernel_rfl) (by kernel_rfl) (fun _ _ _ h => h) (Or.inl ⟨by rfl, ?_⟩) (by assumption) ?_; rotate_left; focus ((intro w' hSw; (try dsimp only at hSw); go_simp; (try with_reducible rfl)))); (try simp only [Act.put, List.setIfInBounds_toArray, List.set_cons_zero, List.set_cons_succ])
              (refine wpAnyH_take (i := 23) (oi := ⟨_, _, _, _, _, _⟩) (v := ?_) rfl (by kernel_rfl) (by kernel_rfl) (by kernel_rfl) (fun _ _ _ h => h) (Or.inl ⟨by rfl, ?_⟩) (by assumption) ?_; rotate_left; focus ((intro w' hSw; (try dsimp only at hSw); go_simp; (try with_reducible rfl)))); (try simp only [Act.put, List.setIfInBounds_toArray, List.set_cons_zero, List.set_cons_succ])
              (refine wpAnyH_take (i := 24) (oi := ⟨_, _, _, _, _, _⟩) (v := ?_) rfl (by kernel_rfl) (by kernel_rfl) (by kernel_rfl) (fun _ _ _ h => h) (Or.inl ⟨by rfl, ?_⟩) (by assumption) ?_; rotate_left; focus ((intro w' hSw; (try dsimp only at hSw); go_simp; (try with_reducible rfl)))); (try simp only [Act.put, List.setIfInBounds_toArray, List.set_cons_zero, List.set_cons_succ])
              refine wpAnyH_done (by kernel_rfl) ?_ _
              go_wp2
              go_roundw
              case rel =>
                refine ⟨k + 1, by omega, by go_num, Lib.hid fun i z hi hz => ?_, Lib.hid (HENW.out _ (by assumption))⟩
                by_cases q : i = k
                · subst q
                  cases hz.symm.trans HX.out
                  exact HPL.out
                · exact HV.out i z (by omega) hz
              case measure => simp [intOf]; omega
            · have g1 : decide (x.v ≤ y.v) = true := decide_eq_true (by omega)
              obtain rfl := HBAD.out k x HX.out fun h => hd (h.2.2 j y HKJ.out HY.out)
              clear hd HU1 HBX HRG HOK HY HA HV
              refine wp_region_held_drew (S := (fun w' => Below w1.heap.size w1 w' ∧ w'.cell? ⟨nb, 0, none⟩ = some (.int .i64 x.v) ∧ w'.cell? ⟨nb, 1, none⟩ = some (.int .i64 x.t.kind) ∧ w'.cell? ⟨nb, 2, none⟩ = some (.int .i64 x.t.num) ∧ w'.cell? ⟨nb, 3, none⟩ = some (.string x.t.name) ∧ w'.cell? ⟨nb, 4, none⟩ = some (.slice u1 x.t.args.length u2) ∧ w'.cell? ⟨g, off + j * 5, none⟩ = some (.int .i64 y.v))) (by kernel_rfl) (by (try dsimp only); go_keep) (fun hHeld => ?_)
              (refine wpAnyH_take (i := 0) (oi := ⟨_, _, _, _, _, _⟩) (v := ?_) rfl (by kernel_rfl) (by kernel_rfl) (by kernel_rfl) (fun _ _ _ h => h) (Or.inl ⟨by rfl, ?_⟩) (by assumption) ?_; rotate_left; focus ((intro w' hSw; (try dsimp only at hSw); go_simp; (try with_reducible rfl)))); (try simp only [Act.put, List.setIfInBounds_toArray, List.set_cons_zero, List.set_cons_succ])
              refine wpAnyH_ready (rs := [1]) (by kernel_rfl) (by simp) ?_
              refine AllReadyH.cons (o := ⟨_, _, _, _, _, _⟩) rfl (fun K hK => ?_) AllReadyH.nil
              go_simp
              (first | (go_at_call 101; (with_reducible refine Calls.mono (HVA.out _ ?_) ?_); (assumption); rintro e w' ⟨rfl, hb⟩; have hB' := HTR.out _ _ (by assumption) hb; obtain ⟨k0, k1, k2, k3, k4⟩ := HCB.out _ hB'; have c0 := HCY.out _ hB') | (go_at_call 61; (with_reducible refine Calls.mono (HO1.out _ ?_) ?_); (assumption); rintro e w' ⟨rfl, hb⟩; have hB' := HTR.out _ _ (by assumption) hb; obtain ⟨k0, k1, k2, k3, k4⟩ := HCB.out _ hB'; have c0 := HCY.out _ hB') | (go_at_call 61; (with_reducible refine Calls.mono (HO2.out _ ?_) ?_); (assumption); rintro e w' ⟨rfl, hb⟩; have hB' := HTR.out _ _ (by assumption) hb; obtain ⟨k0, k1, k2, k3, k4⟩ := HCB.out _ hB'; have c0 := HCY.out _ hB'))
              (try go_wp2_with fail)
              refine hK.out _ _ (by (try dsimp only); (first | go_keep | (refine ⟨by assumption, ?_⟩; go_keep))) (fun hHeld => ?_)
              clear hK K
              (try simp only [Act.put, List.setIfInBounds_toArray, List.set_cons_zero, List.set_cons_succ])
              refine wpAnyH_ready (rs := [2]) (by kernel_rfl) (by simp) ?_
              refine AllReadyH.cons (o := ⟨_, _, _, _, _, _⟩) rfl (fun K hK => ?_) AllReadyH.nil
              go_simp
              (first | (go_at_call 101; (with_reducible refine Calls.mono (HVA.out _ ?_) ?_); (assumption); rintro e w' ⟨rfl, hb⟩; have hB' := HTR.out _ _ (by assumption) hb; obtain ⟨k0, k1, k2, k3, k4⟩ := HCB.out _ hB'; have c0 := HCY.out _ hB') | (go_at_call 61; (with_reducible refine Calls.mono (HO1.out _ ?_) ?_); (assumption); rintro e w' ⟨rfl, hb⟩; have hB' := HTR.out _ _ (by assumption) hb; obtain ⟨k0, k1, k2, k3, k4⟩ := HCB.out _ hB'; have c0 := HCY.out _ hB') | (go_at_call 61; (with_reducible refine Calls.mono (HO2.out _ ?_) ?_); (assumption); rintro e w' ⟨rfl, hb⟩; have hB' := HTR.out _ _ (by assumption) hb; obtain ⟨k0, k1, k2, k3, k4⟩ := HCB.out _ hB'; have c0 := HCY.out _ hB'))
              (try go_wp2_with fail)
              refine hK.out _ _ (by (try dsimp only); (first | go_keep | (refine ⟨by assumption, ?_⟩; go_keep))) (fun hHeld => ?_)
              clear hK K
              (try simp only [Act.put, List.setIfInBounds_toArray, List.set_cons_zero, List.set_cons_succ])
              (refine wpAnyH_take (i := 3) (oi := ⟨_, _, _, _, _, _⟩) (v := ?_) rfl (by kernel_rfl) (by kernel_rfl) (by kernel_rfl) (fun _ _ _ h => h) (Or.inl ⟨by rfl, ?_⟩) (by assumption) ?_; rotate_left; focus ((intro w' hSw; (try dsimp only at hSw); go_simp; (try with_reducible rfl)))); (try simp only [Act.put, List.setIfInBounds_toArray, List.set_cons_zero, List.set_cons_succ])
              (refine wpAnyH_take (i := 4) (oi := ⟨_, _, _, _, _, _⟩) (v := ?_) rfl (by kernel_rfl) (by kernel_rfl) (by kernel_rfl) (fun _ _ _ h => h) (Or.inl ⟨by rfl, ?_⟩) (by assumption) ?_; rotate_left; focus ((intro w' hSw; (try dsimp only at hSw); go_simp; (try with_reducible rfl)))); (try simp only [Act.put, List.setIfInBounds_toArray, List.set_cons_zero, List.set_cons_succ])
              (refine wpAnyH_take (i := 5) (oi := ⟨_, _, _, _, _, _⟩) (v := ?_) rfl (by kernel_rfl) (by kernel_rfl) (by kernel_rfl) (fun _ _ _ h => h) (Or.inl ⟨by rfl, ?_⟩) (by assumption) ?_; rotate_left; focus ((intro w' hSw; (try dsimp only at hSw); go_simp; (try with_reducible rfl)))); (try simp only [Act.put, List.setIfInBounds_toArray, List.set_cons_zero, List.set_cons_succ])
              (refine wpAnyH_take (i := 6) (oi := ⟨_, _, _, _, _, _⟩) (v := ?_) rfl (by kernel_rfl) (by kernel_rfl) (by kernel_rfl) (fun _ _ _ h => h) (Or.inl ⟨by rfl, ?_⟩) (by assumption) ?_; rotate_left; focus ((intro w' hSw; (try dsimp only at hSw); go_simp; (try with_reducible rfl)))); (try simp only [Act.put, List.setIfInBounds_toArray, List.set_cons_zero, List.set_cons_succ])
              refine wpAnyH_ready (rs := [7]) (by kernel_rfl) (by simp) ?_
              refine AllReadyH.cons (o := ⟨_, _, _, _, _, _⟩) rfl (fun K hK => ?_) AllReadyH.nil
              go_simp
              (first | (go_at_call 101; (with_reducible refine Calls.mono (HVA.out _ ?_) ?_); (assumption); rintro e w' ⟨rfl, hb⟩; have hB' := HTR.out _ _ (by assumption) hb; obtain ⟨k0, k1, k2, k3, k4⟩ := HCB.out _ hB'; have c0 := HCY.out _ hB') | (go_at_call 61; (with_reducible refine Calls.mono (HO1.out _ ?_) ?_); (assumption); rintro e w' ⟨rfl, hb⟩; have hB' := HTR.out _ _ (by assumption) hb; obtain ⟨k0, k1, k2, k3, k4⟩ := HCB.out _ hB'; have c0 := HCY.out _ hB') | (go_at_call 61; (with_reducible refine Calls.mono (HO2.out _ ?_) ?_); (assumption); rintro e w' ⟨rfl, hb⟩; have hB' := HTR.out _ _ (by assumption) hb; obtain ⟨k0, k1, k2, k3, k4⟩ := HCB.out _ hB'; have c0 := HCY.out _ hB'))
              (try go_wp2_with fail)
              refine hK.out _ _ (by (try dsimp only); (first | go_keep | (refine ⟨by assumption, ?_⟩; go_keep))) (fun hHeld => ?_)
              clear hK K
              (try simp only [Act.put, List.setIfInBounds_toArray, List.set_cons_zero, List.set_cons_succ])
              (refine wpAnyH_take (i := 8) (oi := ⟨_, _, _, _, _, _⟩) (v := ?_) rfl (by kernel_rfl) (by kernel_rfl) (by kernel_rfl) (fun _ _ _ h => h) (Or.inl ⟨by rfl, ?_⟩) (by assumption) ?_; rotate_left; focus ((intro w' hSw; (try dsimp only at hSw); go_simp; (try with_reducible rfl)))); (try simp only [Act.put, List.setIfInBounds_toArray, List.set_cons_zero, List.set_cons_succ])
              (refine wpAnyH_take (i := 9) (oi := ⟨_, _, _, _, _, _⟩) (v := ?_) rfl (by kernel_rfl) (by kernel_rfl) (by kernel_rfl) (fun _ _ _ h => h) (Or.inl ⟨by rfl, ?_⟩) (by assumption) ?_; rotate_left; focus ((intro w' hSw; (try dsimp only at hSw); go_simp; (try with_reducible rfl)))); (try simp only [Act.put, List.setIfInBounds_toArray, List.set_cons_zero, List.set_cons_succ])
              (refine wpAnyH_take (i := 10) (oi := ⟨_, _, _, _, _, _⟩) (v := ?_) rfl (by kernel_rfl) (by kernel_rfl) (by kernel_rfl) (fun _ _ _ h => h) (Or.inl ⟨by rfl, ?_⟩) (by assumption) ?_; rotate_left; focus ((intro w' hSw; (try dsimp only at hSw); go_simp; (try with_reducible rfl)))); (try simp only [Act.put, List.setIfInBounds_toArray, List.set_cons_zero, List.set_cons_succ])
              (refine wpAnyH_take (i := 11) (oi := ⟨_, _, _, _, _, _⟩) (v := ?_) rfl (by kernel_rfl) (by kernel_rfl) (by kernel_rfl) (fun _ _ _ h => h) (Or.inl ⟨by rfl, ?_⟩) (by assumption) ?_; rotate_left; focus ((intro w' hSw; (try dsimp only at hSw); go_simp; (try with_reducible rfl)))); (try simp only [Act.put, List.setIfInBounds_toArray, List.set_cons_zero, List.set_cons_succ])
              (refine wpAnyH_take (i := 12) (oi := ⟨_, _, _, _, _, _⟩) (v := ?_) rfl (by kernel_rfl) (by kernel_rfl) (by kernel_rfl) (fun _ _ _ h => h) (Or.inl ⟨by rfl, ?_⟩) (by assumption) ?_; rotate_left; focus ((intro w' hSw; (try dsimp only at hSw); go_simp; (try with_reducible rfl)))); (try simp only [Act.put, List.setIfInBounds_toArray, List.set_cons_zero, List.set_cons_succ])
              (refine wpAnyH_take (i := 13) (oi := ⟨_, _, _, _, _, _⟩) (v := ?_) rfl (by kernel_rfl) (by kernel_rfl) (by kernel_rfl) (fun _ _ _ h => h) (Or.inl ⟨by rfl, ?_⟩) (by assumption) ?_; rotate_left; focus ((intro w' hSw; (try dsimp only at hSw); go_simp; (try with_reducible rfl)))); (try simp only [Act.put, List.setIfInBounds_toArray, List.set_cons_zero, List.set_cons_succ])
              (refine wpAnyH_take (i := 14) (oi := ⟨_, _, _, _, _, _⟩) (v := ?_) rfl (by kernel_rfl) (by kernel_rfl) (by kernel_rfl) (fun _ _ _ h => h) (Or.inl ⟨by rfl, ?_⟩) (by assumption) ?_; rotate_left; focus ((intro w' hSw; (try dsimp only at hSw); go_simp; (try with_reducible rfl)))); (try simp only [Act.put, List.setIfInBounds_toArray, List.set_cons_zero, List.set_cons_succ])
              (refine wpAnyH_take (i := 15) (oi := ⟨_, _, _, _, _, _⟩) (v := ?_) rfl (by kernel_rfl) (by kernel_rfl) (by kernel_rfl) (fun _ _ _ h => h) (Or.inl ⟨by rfl, ?_⟩) (by assumption) ?_; rotate_left; focus ((intro w' hSw; (try dsimp only at hSw); go_simp; (try with_reducible rfl)))); (try simp only [Act.put, List.setIfInBounds_toArray, List.set_cons_zero, List.set_cons_succ])
              (refine wpAnyH_take (i := 16) (oi := ⟨_, _, _, _, _, _⟩) (v := ?_) rfl (by kernel_rfl) (by kernel_rfl) (by kernel_rfl) (fun _ _ _ h => h) (Or.inl ⟨by rfl, ?_⟩) (by assumption) ?_; rotate_left; focus ((intro w' hSw; (try dsimp only at hSw); go_simp; (try with_reducible rfl)))); (try simp only [Act.put, List.setIfInBounds_toArray, List.set_cons_zero, List.set_cons_succ])
              (refine wpAnyH_take (i := 17) (oi := ⟨_, _, _, _, _, _⟩) (v := ?_) rfl (by kernel_rfl) (by kernel_rfl) (by kernel_rfl) (fun _ _ _ h => h) (Or.inl ⟨by rfl, ?_⟩) (by assumption) ?_; rotate_left; focus ((intro w' hSw; (try dsimp only at hSw); go_simp; (try with_reducible rfl)))); (try simp only [Act.put, List.setIfInBounds_toArray, List.set_cons_zero, List.set_cons_succ])
              (refine wpAnyH_take (i := 18) (oi := ⟨_, _, _, _, _, _⟩) (v := ?_) rfl (by kernel_rfl) (by kernel_rfl) (by kernel_rfl) (fun _ _ _ h => h) (Or.inl ⟨by rfl, ?_⟩) (by assumption) ?_; rotate_left; focus ((intro w' hSw; (try dsimp only at hSw); go_simp; (try with_reducible rfl)))); (try simp only [Act.put, List.setIfInBounds_toArray, List.set_cons_zero, List.set_cons_succ])
              (refine wpAnyH_take (i := 19) (oi := ⟨_, _, _, _, _, _⟩) (v := ?_) rfl (by kernel_rfl) (by kernel_rfl) (by kernel_rfl) (fun _ _ _ h => h) (Or.inl ⟨by rfl, ?_⟩) (by assumption) ?_; rotate_left; focus ((intro w' hSw; (try dsimp only at hSw); go_simp; (try with_reducible rfl)))); (try simp only [Act.put, List.setIfInBounds_toArray, List.set_cons_zero, List.set_cons_succ])
              (refine wpAnyH_take (i := 20) (oi := ⟨_, _, _, _, _, _⟩) (v := ?_) rfl (by kernel_rfl) (by kernel_rfl) (by kernel_rfl) (fun _ _ _ h => h) (Or.inl ⟨by rfl, ?_⟩) (by assumption) ?_; rotate_left; focus ((intro w' hSw; (try dsimp only at hSw); go_simp; (try with_reducible rfl)))); (try simp only [Act.put, List.setIfInBounds_toArray, List.set_cons_zero, List.set_cons_succ])
              (refine wpAnyH_take (i := 21) (oi := ⟨_, _, _, _, _, _⟩) (v := ?_) rfl (by kernel_rfl) (by kernel_rfl) (by kernel_rfl) (fun _ _ _ h => h) (Or.inl ⟨by rfl, ?_⟩) (by assumption) ?_; rotate_left; focus ((intro w' hSw; (try dsimp only at hSw); go_simp; (try with_reducible rfl)))); (try simp only [Act.put, List.setIfInBounds_toArray, List.set_cons_zero, List.set_cons_succ])
              (refine wpAnyH_take (i := 22) (oi := ⟨_, _, _, _, _, _⟩) (v := ?_) rfl (by kernel_rfl) (by kernel_rfl) (by kernel_rfl) (fun _ _ _ h => h) (Or.inl ⟨by rfl, ?_⟩) (by assumption) ?_; rotate_left; focus ((intro w' hSw; (try dsimp only at hSw); go_simp; (try with_reducible rfl)))); (try simp only [Act.put, List.setIfInBounds_toArray, List.set_cons_zero, List.set_cons_succ])
              (refine wpAnyH_take (i := 23) (oi := ⟨_, _, _, _, _, _⟩) (v := ?_) rfl (by kernel_rfl) (by kernel_rfl) (by kernel_rfl) (fun _ _ _ h => h) (Or.inl ⟨by rfl, ?_⟩) (by assumption) ?_; rotate_left; focus ((intro w' hSw; (try dsimp only at hSw); go_simp; (try with_reducible rfl)))); (try simp only [Act.put, List.setIfInBounds_toArray, List.set_cons_zero, List.set_cons_succ])
              (refine wpAnyH_take (i := 24) (oi := ⟨_, _, _, _, _, _⟩) (v := ?_) rfl (by kernel_rfl) (by kernel_rfl) (by kernel_rfl) (fun _ _ _ h => h) (Or.inl ⟨by rfl, ?_⟩) (by assumption) ?_; rotate_left; focus ((intro w' hSw; (try dsimp only at hSw); go_simp; (try with_reducible rfl)))); (try simp only [Act.put, List.setIfInBounds_toArray, List.set_cons_zero, List.set_cons_succ])
              refine wpAnyH_done (by kernel_rfl) ?_ _
              go_wp2
              go_ret
              exact ⟨rfl, HENW.out _ (by assumption)⟩
    · obtain rfl : k = s.length := by omega
      obtain rfl := HEN.out h4 HV.out
      go_wp2
      go_ret
      exact ⟨rfl, HB.out⟩

/-- What SubstOk asks of one binding beside bindingsOk. -/
def PlaceS (s : List Bd) (b : Bd) : Prop := anyG (lastO s) b.t = false ∧ ¬ (b.t.kind = 1 ∧ b.v ≤ b.t.num)
theorem lastO_values {s : List Bd} (h : ValuesP s) (v : Int) : lastO s v = getO s v := by
  cases hg : lastO s v with
  | none => exact (lastO_none.1 hg).symm
  | some t =>
    obtain ⟨b, hb, rfl, rfl⟩ := lastO_some hg
    exact (getO_uniq h.uniq hb).symm
theorem substS_bad {s : List Bd} {x : Bd} (hx : x ∈ s) (h : ¬ PlaceS s x) : substB s = false := substB_false.2 fun hs => h ⟨anyG_false.2 fun v hv => lastO_none.2 ((hs.2 x hx).2 v hv), (hs.2 x hx).1⟩
theorem substS_end {s : List Bd} (hv : ValuesP s) (h : ∀ (i : Nat) (b : Bd), i < s.length → s[i]? = some b → PlaceS s b) : substB s = true := substB_true.2 ⟨hv, fun b hb => by
  obtain ⟨i, hi⟩ := List.getElem?_of_mem hb
  have := h i b (List.getElem?_eq_some_iff.1 hi).1 hi
  exact ⟨this.2, fun v hvv => lastO_none.1 (anyG_false.1 this.1 v hvv)⟩⟩

set_option maxRecDepth 100000 in
set_option maxHeartbeats 8000000 in
theorem implSubstOk_e (s : List Bd) (V : Value) (w : World) (hA : ListS bdE w Any V s) (hE : EachB s) (hF : ∀ b ∈ s, wfI b.v) :
    Calls Try.prog 72 #[V] w fun e w' => e = .returned (.bool (substB s)) ∧ Below w.heap.size w w' := by
  obtain ⟨a, cap, rfl⟩ := hA.slice
  have HA := Lib.hid hA
  have hL : s.length ≤ 1048576 := hE.1
  have HEE := Lib.hid hE
  have HFF := Lib.hid hF
  have HBO := Lib.hid (implBindingsOk_e s _ w hA hE)
  have HNO := Lib.hid (fun (h : valuesB s = false) => (substB_false.2 fun hs => valuesB_false.1 h hs.1 : substB s = false))
  have HBAD := Lib.hid (fun (x : Bd) (hx : x ∈ s) h => substS_bad (s := s) (x := x) hx h)
  have HEN := Lib.hid (fun h1 h2 => substS_end (s := s) h1 h2)
  generalize substB s = r at HNO HBAD HEN ⊢
  clear hA hE hF
  go_enter Try.func72, Try.ntmps72
  go_wp2_with fail
  refine HBO.out.mono ?_
  rintro e w9 ⟨rfl, hb9⟩
  have HB9 := Lib.hid hb9
  clear hb9 HBO
  cases hvb : valuesB s with
  | false =>
    obtain rfl := HNO.out hvb
    clear hvb
    go_wp2
    go_ret
    exact ⟨rfl, HB9.out⟩
  | true =>
  have HVP := Lib.hid (valuesB_true.1 hvb)
  clear hvb
  have HC := Lib.hid (mapOf_any s _ w9 (HA.out.kept HB9.out) hL HFF.out)
  go_wp2_with fail
  refine HC.out.mono ?_
  rintro e w0 ⟨mb, rfl, hmb, hm, hb⟩
  have HM0 := Lib.hid hm
  have HW0 := Lib.hid (belowOn HB9.out (Nat.le_refl _) hb)
  clear hm hb HC hmb
  go_wp2
  go_loopw [13] (fun iv wr => ∃ k : Nat, k ≤ s.length ∧ iv = .int .i64 k ∧ Hid (∀ (i : Nat) (b : Bd), i < k → s[i]? = some b → PlaceS s b) ∧ Hid (Below w0.heap.size w0 wr)) (fun iv _ => s.length - (intOf iv).toNat)
  case atStart => exact ⟨0, Nat.zero_le _, rfl, Lib.hid (fun i x hi => absurd hi (Nat.not_lt_zero _)), Lib.hid (Below.refl _ _)⟩
  case round =>
    obtain ⟨k, hk, rfl, HV, HB⟩ := hrel
    by_cases hlt : k < s.length
    · have hltI : (k : Int) < (s.length : Int) := by omega
      obtain ⟨x, hx⟩ : ∃ x, s[k]? = some x := ⟨_, List.getElem?_eq_getElem hlt⟩
      obtain ⟨g, off, u1, u2, rfl, hg, hq, hc, hu⟩ := HA.out.bd hx
      obtain ⟨d0, d1, d2, d3, d4⟩ := hc wr (belowOn HW0.out (Nat.le_refl _) HB.out)
      have HX := Lib.hid hx
      have HU := Lib.hid (hu.at.kept (belowOn HW0.out (Nat.le_refl _) HB.out))
      have HXM := Lib.hid (List.mem_of_getElem? hx)
      have hxz : x.t.sz ≤ 1048576 := by have := HEE.out.2 x HXM.out; omega
      have HGX := Lib.hid (HVP.out.1 k x hx).2.2
      clear hx hq hc hu
      go_upto_region 7 with (fail)
      have hal : Below wr.heap.size wr (wr.alloc (.cells #[.int .i64 x.v, .int .i64 x.t.kind, .int .i64 x.t.num, .string x.t.name, .slice u1 x.t.args.length u2] 73)) := belowAlloc (Below.refl _ _) _
      have HBX := Lib.hid (at_box_of wr #[.int .i64 x.v, .int .i64 x.t.kind, .int .i64 x.t.num, .string x.t.name, .slice u1 x.t.args.length u2] 73 wr.heap.size rfl)
      have HW1 := Lib.hid (belowOn HB.out (Nat.le_refl _) hal)
      have HU1 := Lib.hid (HU.out.kept hal)
      have HM1 := Lib.hid ((HM0.out.kept HB.out).kept hal)
      clear hal d0 d1 d2 d3 d4 HU HB
      generalize hw1 : wr.alloc (.cells #[.int .i64 x.v, .int .i64 x.t.kind, .int .i64 x.t.num, .string x.t.name, .slice u1 x.t.args.length u2] 73) = w1 at HBX HW1 HU1 HM1 ⊢
      clear hw1
      generalize wr.heap.size = nb at HBX ⊢
      have HC := Lib.hid (bindsIn_any (x.t.nodes + 1) mb (lastO s) x.t _ w1 (Nat.lt_succ_self _) HM1.out HU1.out hxz HGX.out)
      obtain ⟨e0, e1, e2, e3, e4, ef⟩ := box_cells5 HBX.out.now
      go_wp2_with fail
      refine HC.out.mono ?_
      rintro e w2 ⟨rfl, hb⟩
      have HBX2 := Lib.hid (HBX.out.read hb)
      have HW2 := Lib.hid (belowOn HW1.out (Nat.le_refl _) hb)
      clear hb HC e0 e1 e2 e3 e4 ef HBX HU1 HM1 HW1
      obtain ⟨e0, e1, e2, e3, e4, ef⟩ := box_cells5 HBX2.out.now
      cases han : anyG (lastO s) x.t with
      | true =>
        obtain rfl := HBAD.out x HXM.out fun h => by rw [h.1] at han; cases han
        clear han
        go_wp2
        go_ret
        exact ⟨rfl, belowOn HW0.out (Nat.le_refl _) HW2.out⟩
      | false =>
        by_cases hkn : x.t.kind = 1
        · have dk : (x.t.kind == 1) = true := by rw [hkn]; rfl
          by_cases hnn : x.v ≤ x.t.num
          · obtain rfl := HBAD.out x HXM.out fun h => h.2 ⟨hkn, hnn⟩
            have dn : decide (x.v ≤ x.t.num) = true := decide_eq_true hnn
            clear han hkn hnn
            go_wp2
            go_ret
            exact ⟨rfl, belowOn HW0.out (Nat.le_refl _) HW2.out⟩
          · have HPL : Hid (PlaceS s x) := Lib.hid ⟨han, fun h => hnn h.2⟩
            have dn : decide (x.v ≤ x.t.num) = false := decide_eq_false hnn
            clear han hkn hnn
            go_wp2
            go_roundw
            case rel =>
              refine ⟨k + 1, by omega, by go_num, Lib.hid fun i z hi hz => ?_, HW2⟩
              by_cases q : i = k
              · subst q
                cases hz.symm.trans HX.out
                exact HPL.out
              · exact HV.out i z (by omega) hz
            case measure => simp [intOf]; omega
        · have dk : (x.t.kind == 1) = false := beq_eq_false_iff_ne.2 hkn
          have HPL : Hid (PlaceS s x) := Lib.hid ⟨han, fun h => hkn h.1⟩
          clear han hkn
          go_wp2
          go_roundw
          case rel =>
            refine ⟨k + 1, by omega, by go_num, Lib.hid fun i z hi hz => ?_, HW2⟩
            by_cases q : i = k
            · subst q
              cases hz.symm.trans HX.out
              exact HPL.out
            · exact HV.out i z (by omega) hz
          case measure => simp [intOf]; omega
    · obtain rfl : k = s.length := by omega
      obtain rfl := HEN.out HVP.out HV.out
      go_wp2
      go_ret
      exact ⟨rfl, belowOn HW0.out (Nat.le_refl _) HB.out⟩
end Go.Proofs.Ytnmdnajbafpfiaa

