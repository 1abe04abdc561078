/-
  The order of terms: plain; the library's Compare at int and at string, Or of three; the model's sign.
-/
import Derived.Test.YtokndpmoamjbfaaDoorParts
import Derived.WalkLawsBesides
namespace Go.Proofs.YtokndpmoamjbfaaDoor
open Go.RowKit
set_option linter.unusedVariables false

theorem bytesLess_irrefl : ∀ l : List UInt8, Op.bytesLess l l = false
  | [] => by simp [Op.bytesLess]
  | a :: l => by simp [Op.bytesLess, bytesLess_irrefl l]
theorem toList_inj {a b : ByteArray} (h : a.toList = b.toList) : a = b := by
  rw [Lib.toList_data, Lib.toList_data] at h
  exact ByteArray.ext (Array.toList_inj.1 h)

def cmpI (a b : Int) : Int := if a < b then -1 else if b < a then 1 else 0
def cmpS (a b : ByteArray) : Int := if a = b then 0 else if Op.bytesLess a.toList b.toList = true then -1 else 1
def or3 (x y z : Int) : Int := if ¬ x = 0 then x else if ¬ y = 0 then y else z
theorem cmpI_bd (a b : Int) : -1 ≤ cmpI a b ∧ cmpI a b ≤ 1 := by unfold cmpI; split <;> (try split) <;> omega
theorem cmpS_bd (a b : ByteArray) : -1 ≤ cmpS a b ∧ cmpS a b ≤ 1 := by unfold cmpS; split <;> (try split) <;> omega

mutual
def Tm.cmp : Tm → Tm → Int
  | .mk k i s l, u => if ¬ or3 (cmpI k u.kind) (cmpI i u.num) (cmpS s u.name) = 0 then or3 (cmpI k u.kind) (cmpI i u.num) (cmpS s u.name) else cmpL l u.args
def cmpL : List Tm → List Tm → Int
  | [], _ => 0
  | _ :: _, [] => 0
  | t :: l, u :: m => if ¬ t.cmp u = 0 then t.cmp u else cmpL l m
end
def cmpN (t u : Tm) : Int := or3 (cmpI t.kind u.kind) (cmpI t.num u.num) (cmpS t.name u.name)
theorem cmp_eq (t u : Tm) : t.cmp u = if ¬ cmpN t u = 0 then cmpN t u else cmpL t.args u.args := by cases t; rw [Tm.cmp]; rfl
theorem cmpN_bd (t u : Tm) : -1 ≤ cmpN t u ∧ cmpN t u ≤ 1 := by
  have h1 := cmpI_bd t.kind u.kind
  have h2 := cmpI_bd t.num u.num
  have h3 := cmpS_bd t.name u.name
  unfold cmpN or3
  split <;> (try split) <;> omega
mutual
theorem cmp_bd : ∀ t u : Tm, -1 ≤ t.cmp u ∧ t.cmp u ≤ 1
  | .mk k i s l, u => by
    rw [cmp_eq]
    have := cmpN_bd (.mk k i s l) u
    have := cmpL_bd l u.args
    split
    · omega
    · exact this
theorem cmpL_bd : ∀ l m : List Tm, -1 ≤ cmpL l m ∧ cmpL l m ≤ 1
  | [], m => by rw [cmpL]; omega
  | _ :: _, [] => by rw [cmpL]; omega
  | t :: l, u :: m => by
    rw [cmpL]
    have := cmp_bd t u
    have := cmpL_bd l m
    split <;> omega
end

end Go.Proofs.YtokndpmoamjbfaaDoor

