/-
  Maps from keys to numbers in the program (its generalizer's shapes and variables): looked up, a number stored; numberIn.
-/
import Derived.Test.YtjpkkhhcpcokaaaMapSubst
import Derived.Test.YtjpkkhhcpcokaaaGenP
import Derived.DeepKeys4
import Derived.Maps.Views
namespace Go.Proofs.Ytjpkkhhcpcokaaa
open Go.RowKit
open Go.Maps (Keyed)
set_option linter.unusedVariables false
set_option linter.unusedSimpArgs false

/-- A key's type with what its values are. -/
structure KeyS {κ : Type} (kt mt : TypeId) (val : κ → Value) (ok : κ → Prop) : Prop where
  keyed : Keyed Try.prog kt
  ty : Try.prog.underlying mt = some (.map kt 3)
  key : ∀ x, ok x → ∃ l, keyOf Try.prog kt (val x) = some l
  inj : ∀ x y, val x = val y → x = y
@[irreducible] noncomputable def litK {κ : Type} (kt : TypeId) (val : κ → Value) (x : κ) : Lit := (keyOf Try.prog kt (val x)).getD (.bool false)
section
variable {κ : Type} {kt mt : TypeId} {val : κ → Value} {ok : κ → Prop}
theorem KeyS.lit (K : KeyS kt mt val ok) {x : κ} (h : ok x) : keyOf Try.prog kt (val x) = some (litK kt val x) := by
  obtain ⟨l, hl⟩ := K.key x h
  unfold litK
  rw [hl]
  rfl
theorem KeyS.ne (K : KeyS kt mt val ok) {x y : κ} (hx : ok x) (hy : ok y) (h : ¬ x = y) : litK kt val x ≠ litK kt val y := fun e => h (K.inj _ _ (K.keyed.inj (K.lit hx) (by rw [e]; exact K.lit hy)))
theorem KeyS.isKey (K : KeyS kt mt val ok) {x : κ} (hx : ok x) : WideAt.IsKeyLit (litK kt val x) := by
  have h := K.lit hx
  generalize litK kt val x = l at h ⊢
  exact K.keyed.key h
theorem intElem {i : Nat} (h : i ≤ 1099511627776) : plainElem (H := Value) Try.prog 3 (.int .i64 (i : Int)) = some (.lit (.int .i64 (i : Int)), []) := plainElem_int Try.underlying3 (wfI_of (by omega) (by omega))
/-- A map at a block that holds numbers. -/
def MapN (kt : TypeId) (val : κ → Value) (ok : κ → Prop) (w : World) (b n : Nat) (f : κ → Option Nat) : Prop :=
  ∃ D : DataW Value, w.ownsMap Try.prog kt (plainElem Try.prog 3) b n D ∧ Maps.size D = n ∧ ∀ x, ok x → (f x = none → Maps.has D (litK kt val x) = false) ∧ ∀ i, f x = some i → ∀ zd, D.atKey (litK kt val x) zd = .lit (.int .i64 (i : Int))
theorem MapN.frame {w w' : World} {b n : Nat} {f : κ → Option Nat} (h : MapN kt val ok w b n f) (hb : w'.heap[b]? = w.heap[b]?) : MapN kt val ok w' b n f := by
  obtain ⟨D, ⟨es, clock, h1, h2⟩, h3⟩ := h
  exact ⟨D, ⟨es, clock, hb.trans h1, h2⟩, h3⟩
theorem MapN.lt {w : World} {b n : Nat} {f : κ → Option Nat} (h : MapN kt val ok w b n f) : b < w.heap.size := by obtain ⟨D, h1, _⟩ := h; exact h1.lt
theorem MapN.kept {w w' : World} {b n : Nat} {f : κ → Option Nat} (h : MapN kt val ok w b n f) (hb : Below w.heap.size w w') : MapN kt val ok w' b n f := h.frame (hb.block b h.lt)
theorem mapN_made (w : World) : MapN kt val ok (w.alloc (.map #[] 0)) w.heap.size 0 (fun _ => none) :=
  ⟨.map [], World.ownsMap_made w _ _ _, rfl, fun x _ => ⟨fun _ => rfl, fun i h => by cases h⟩⟩
theorem MapN.len (K : KeyS kt mt val ok) {w : World} {b n : Nat} {f : κ → Option Nat} (h : MapN kt val ok w b n f) : (Builtin.len_ #[mt] 3 #[.map (some b)]).run Try.prog w = .ok (.int .i64 (n : Int)) w := by
  obtain ⟨D, h1, h2, _⟩ := h
  rw [h1.len K.ty, h2]
theorem zeroIntE (w : World) : (zeroValue 3).run Try.prog w = .ok (.int .i64 0) w := by kernel_rfl
/-- 'x, ok := m[k]'. -/
theorem MapN.look (K : KeyS kt mt val ok) {w : World} {b n : Nat} {f : κ → Option Nat} (h : MapN kt val ok w b n f) {x : κ} (hx : ok x) :
    (f x = none ∧ (Instr.lookup mt (.map (some b)) (val x) true).run Try.prog w = .ok (.tuple #[.int .i64 0, .bool false]) w) ∨
    ∃ i : Nat, f x = some i ∧ (Instr.lookup mt (.map (some b)) (val x) true).run Try.prog w = .ok (.tuple #[.int .i64 (i : Int), .bool true]) w := by
  obtain ⟨D, h1, h2, h3⟩ := h
  have z := intElem (i := 0) (by omega)
  obtain ⟨v, ps, hrun, hv⟩ := h1.look_ok K.keyed K.ty (zeroIntE w) z (K.lit hx)
  obtain ⟨a, rfl, ha, _⟩ := plainElem_int_inv Try.underlying3 hv
  simp only [Prod.mk.injEq] at ha
  cases hf : f x with
  | none =>
    have e1 := (h3 x hx).1 hf
    have e2 := ha.1
    rw [Maps.atKey_of_not_has e1] at e2
    simp only [DataW.lit.injEq, Lit.int.injEq, true_and] at e2
    rw [e1, ← e2] at hrun
    exact .inl ⟨rfl, hrun⟩
  | some i =>
    have e1 := (h3 x hx).2 i hf
    have e2 := ha.1
    rw [e1] at e2
    simp only [DataW.lit.injEq, Lit.int.injEq, true_and] at e2
    rw [Maps.has_true_of_atKey e1, ← e2] at hrun
    exact .inr ⟨i, rfl, hrun⟩
open Classical in
noncomputable def updNm (f : κ → Option Nat) (x : κ) (i : Nat) : κ → Option Nat := fun y => if y = x then some i else f y
/-- 'm[k] = n', k new. -/
theorem wpList_putN (K : KeyS kt mt val ok) (w : World) {ops : Array Oper} {rest : List Oper} {o : Oper} {a : Act} {Q : Exit → Act → World → Prop} (hg : o.guard = none) (m x v : Operand) (hop : o.op = Op.mapUpdate mt m x v) (b n : Nat) (f : κ → Option Nat) (hm : a.eval m = .map (some b)) (h : MapN kt val ok w b n f) (hn : n ≤ 1099511627776)
    (k : κ) (hx : a.eval x = val k) (hk : ok k) (hf : f k = none) (hv : a.eval v = .int .i64 (n : Int)) (hK : ∀ w', MapN kt val ok w' b (n + 1) (updNm f k n) → w.grownBy w' (some b) → wpList Try.prog ops Q rest (a.put o.dst undef) w') : wpList Try.prog ops Q (o :: rest) a w := by
  have hkk := KeyS.isKey K hk
  obtain ⟨D, h1, h2, h3⟩ := h
  refine wpList_mapUpdate_own w hg m x v _ hop _ _ K.keyed K.ty (plainElem Try.prog 3) b n D hm h1 (by unfold maxLen; omega) _ _ _ hx hv (K.lit hk) _ [] (intElem hn) fun w' e1 e2 => hK w' ⟨_, e1, ?_, fun y hy => ?_⟩ e2
  · rw [Maps.size_put (h1.tidy K.keyed), (h3 k hk).1 hf, h2]; rfl
  · by_cases e : y = k
    · subst e
      refine ⟨fun h => by simp [updNm] at h, fun i hi zd => ?_⟩
      have : i = n := by simp [updNm] at hi; exact hi.symm
      subst this
      exact Maps.atKey_put_same h1.isMap hkk _ _
    · have hne := K.ne hy hk e
      have hu : updNm f k n y = f y := if_neg e
      rw [hu]
      refine ⟨fun h => ?_, fun i hi zd => ?_⟩
      · rw [Maps.has_put_other hne]; exact (h3 y hy).1 h
      · rw [Maps.atKey_put_other hne]; exact (h3 y hy).2 i hi zd
end

/-! ### The two keys -/
theorem keyI : KeyS 3 82 (Value.int .i64) wfI where
  keyed := keyedInt
  ty := Try.underlying82
  key x h := ⟨_, keyInt h⟩
  inj x y h := by cases h; rfl
def shV (s : Sh) : Value := .agg #[.int .i64 s.k, .int .i64 s.i, .string s.s, .int .i64 s.h, .int .i64 s.t]
def shOk (s : Sh) : Prop := wfI s.k ∧ wfI s.i ∧ s.s.size ≤ 1048576 ∧ wfI s.h ∧ wfI s.t
theorem laidOutN : laidOutB Try.prog = true := by kernel_rfl
theorem rowSh : (101 : TypeId) < Try.prog.types.size := of_decide_eq_true (by kernel_rfl)
theorem wideSh : (match Try.prog.underlying 101 with | some (.array _ _) | some (.struct _) => true | _ => false) = true := by rw [Try.underlying101]
set_option maxRecDepth 100000 in
theorem keyShape (s : Sh) (h : shOk s) : ∃ l, keyOf Try.prog 101 (shV s) = some l := by
  obtain ⟨h1, h2, h3, h4, h5⟩ := h
  unfold wfI at h1 h2 h4 h5
  have k1 : Try.prog.keyType 101 = true := by kernel_rfl
  have k2 : Try.prog.cellsOf 101 = 5 := by kernel_rfl
  have k3 : Try.prog.cellsOf 3 = 1 := by kernel_rfl
  have k4 : Try.prog.cellsOf 9 = 1 := by kernel_rfl
  have h3' : s.s.size ≤ maxLen := by unfold maxLen; omega
  have k5 : (shV s).formed Try.prog 101 = true := by simp [shV, Value.formed, Try.underlying101, k2]
  obtain ⟨d, hd⟩ : ∃ d, Try.prog.types.size = d + 1 := Nat.exists_eq_succ_of_ne_zero (Nat.ne_of_gt (Nat.lt_of_le_of_lt (Nat.zero_le _) rowSh))
  have k6 : ∃ ls, Try.prog.keyLits (Try.prog.types.size + 1) 101 (shV s).cells.toList = some ls := by
    rw [hd]
    have e1 : ∀ x : Int, (Lit.int .i64 x).wf = true → Try.prog.keyLits (d + 1) 3 [.int .i64 x] = some [.int .i64 x] := fun x hx => by simp [Program.keyLits, Try.underlying3, hx]
    have e2 : Try.prog.keyLits (d + 1) 9 [.string s.s] = some [.string s.s.data.toList] := by simp [Program.keyLits, Try.underlying9, h3']
    unfold Program.keyLits
    rw [Try.underlying101]
    simp [shV, Value.cells, k2, k3, k4, e1 _ h1, e1 _ h2, e1 _ h4, e1 _ h5, e2]
  obtain ⟨ls, hls⟩ := k6
  refine ⟨.string (keyBytes ls), ?_⟩
  unfold keyOf
  rw [Try.underlying101]
  show (if (Try.prog.keyType 101 && (shV s).formed Try.prog 101) = true then _ else _) = _
  rw [if_pos (by rw [k1, k5]; rfl), hls]
  rfl
set_option maxRecDepth 100000 in
theorem keyS : KeyS 101 68 shV shOk where
  keyed := Keyed.of_law (deep_law_laid laidOutN (m := 2) (by omega) rowSh (by kernel_rfl) wideSh)
  ty := Try.underlying68
  key x h := keyShape x h
  inj x y h := by
    cases x; cases y
    simp only [shV, Value.agg.injEq, Array.mk.injEq, List.cons.injEq, Value.int.injEq, Value.string.injEq, true_and, and_true] at h
    obtain ⟨rfl, rfl, rfl, rfl, rfl⟩ := h
    rfl
end Go.Proofs.Ytjpkkhhcpcokaaa

