/-
  One kind put into a list, plain, and the model's l10Kind. (Written by wip/tools/gen_speckind1.py.)
-/
import Derived.Test.YtnmdnajbafpfiaaSpecKinds
import Derived.Test.YtnmdnajbafpfiaaDemG
namespace Go.Proofs.Ytnmdnajbafpfiaa
open Go.RowKit
set_option linter.unusedVariables false
set_option linter.unusedSimpArgs false

def kpos (l : List Kd) (n : Int) : Nat := (l.takeWhile fun x => decide (x.v < n)).length
theorem kpos_of {l : List Kd} {n : Int} : ∀ {i : Nat}, i ≤ l.length → (∀ (j : Nat) (x : Kd), j < i → l[j]? = some x → x.v < n) → (∀ x, l[i]? = some x → ¬ x.v < n) → kpos l n = i := by
  induction l with
  | nil => intro i h1 _ _; simp at h1; subst h1; rfl
  | cons y l ih =>
    intro i h1 h2 h3
    cases i with
    | zero =>
      have h := h3 y rfl
      simp [kpos, List.takeWhile_cons, h]
    | succ i =>
      have h := h2 0 y (Nat.succ_pos _) rfl
      have hi := ih (i := i) (by simpa using h1) (fun j x hj hx => h2 (j + 1) x (Nat.succ_lt_succ hj) (by simpa using hx)) (fun x hx => h3 x (by simpa using hx))
      simp only [kpos, List.takeWhile_cons, h, decide_true, if_true, List.length_cons]
      exact congrArg (· + 1) hi
def insK (l : List Kd) (i : Nat) (x : Kd) : List Kd := l.take i ++ x :: l.drop i
/-- The list with a requirement more, and whether it can be. -/
def akR (l : List Kd) (t : Tm) (k : Int) : List Kd × Bool :=
  if t.kind = 1 then
    match l[kpos l t.num]? with
    | some x => if x.v = t.num then (l, x.k == k) else (insK l (kpos l t.num) ⟨t.num, k⟩, true)
    | none => (insK l (kpos l t.num) ⟨t.num, k⟩, true)
  else (l, t.kind == k)
theorem akR_other {l : List Kd} {t : Tm} {k : Int} (h : ¬ t.kind = 1) : akR l t k = (l, t.kind == k) := if_neg h
theorem akR_had {l : List Kd} {t : Tm} {k : Int} (h : t.kind = 1) {i : Nat} (hi : kpos l t.num = i) {x : Kd} (hx : l[i]? = some x) (he : x.v = t.num) : akR l t k = (l, x.k == k) := by
  rw [akR, if_pos h, hi, hx]; exact if_pos he
theorem akR_new {l : List Kd} {t : Tm} {k : Int} (h : t.kind = 1) {i : Nat} (hi : kpos l t.num = i) (hx : ∀ x, l[i]? = some x → ¬ x.v = t.num) : akR l t k = (insK l i ⟨t.num, k⟩, true) := by
  rw [akR, if_pos h, hi]
  cases e : l[i]? with
  | none => rfl
  | some x => exact if_neg (hx x e)

theorem kd_one (M : List (Kd × Value)) : ∀ u ∈ cellsE kdE M, u.oneCell' = true := by
  intro u hu
  simp only [cellsE, List.mem_flatMap] at hu
  obtain ⟨p, _, hp⟩ := hu
  simp only [kdE, List.mem_cons, List.not_mem_nil, or_false] at hp
  rcases hp with rfl | rfl <;> rfl
/-- The cells that a readable list holds, wherever it lies. -/
theorem ListS.kdCells {w : World} {S : Nat → Prop} {g off cap n : Nat} {l : List Kd} (h : ListS kdE w S (.slice (some ⟨g, off, none⟩) n cap) l) :
    ∃ L : List (Kd × Value), l = L.map Prod.fst ∧ ∀ W, Below w.heap.size w W → ∀ (j : Nat) (u : Value), (cellsE kdE L)[j]? = some u → W.cell? ⟨g, off + j, none⟩ = some u := by
  cases h with
  | nil => exact ⟨[], rfl, fun W _ j u hj => by simp [cellsE] at hj⟩
  | row g off n cap L l hl hn hS hg hc hr => exact ⟨L, hl, fun W hW j u hj => (hW.cell (p := ⟨g, off + j, none⟩) hg).trans (hc j u hj)⟩

def AkP (l : List Kd) (b : Bool) (w : World) (e : Ending) (w' : World) : Prop := ∃ u, e = .returned (.tuple #[u, .bool b]) ∧ ListS kdE w' Any u l ∧ CapOk u l.length ∧ Below w.heap.size w w'

end Go.Proofs.Ytnmdnajbafpfiaa

