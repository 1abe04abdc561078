/-
  The order of terms: plain; the library's Compare at int and at string, Or of three; the model's sign.
-/
import Derived.Test.YtokndpmoamjbfaaParts
import Derived.WalkLawsBesides
namespace Go.Proofs.Ytokndpmoamjbfaa
open Go.RowKit
set_option linter.unusedVariables false

theorem bytesLess_irrefl : ∀ l : List UInt8, Op.bytesLess l l = false
  | [] => by simp [Op.bytesLess]
  | a :: l => by simp [Op.bytesLess, bytesLess_irrefl l]
theorem toList_inj {a b : ByteArray} (h : a.toList = b.toList) : a = b := by
  rw [Lib.toList_data, Lib.toList_data] at h
  exact ByteArray.ext (Array.toList_inj.1 h)

def cmpI (a b : Int) : Int := if a < b then -1 else if b < a then 1 else 0
def cmpS (a b : ByteArray) : Int := if a = b then 0 else if Op.bytesLess a.toList b.toList = true then -1 else 1
def or3 (x y z : Int) : Int := if ¬ x = 0 then x else if ¬ y = 0 then y else z
theorem cmpI_bd (a b : Int) : -1 ≤ cmpI a b ∧ cmpI a b ≤ 1 := by unfold cmpI; split <;> (try split) <;> omega
theorem cmpS_bd (a b : ByteArray) : -1 ≤ cmpS a b ∧ cmpS a b ≤ 1 := by unfold cmpS; split <;> (try split) <;> omega

mutual
def Tm.cmp : Tm → Tm → Int
  | .mk k i s l, u => if ¬ or3 (cmpI k u.kind) (cmpI i u.num) (cmpS s u.name) = 0 then or3 (cmpI k u.kind) (cmpI i u.num) (cmpS s u.name) else cmpL l u.args
def cmpL : List Tm → List Tm → Int
  | [], _ => 0
  | _ :: _, [] => 0
  | t :: l, u :: m => if ¬ t.cmp u = 0 then t.cmp u else cmpL l m
end
def cmpN (t u : Tm) : Int := or3 (cmpI t.kind u.kind) (cmpI t.num u.num) (cmpS t.name u.name)
theorem cmp_eq (t u : Tm) : t.cmp u = if ¬ cmpN t u = 0 then cmpN t u else cmpL t.args u.args := by cases t; rw [Tm.cmp]; rfl
theorem cmpN_bd (t u : Tm) : -1 ≤ cmpN t u ∧ cmpN t u ≤ 1 := by
  have h1 := cmpI_bd t.kind u.kind
  have h2 := cmpI_bd t.num u.num
  have h3 := cmpS_bd t.name u.name
  unfold cmpN or3
  split <;> (try split) <;> omega
mutual
theorem cmp_bd : ∀ t u : Tm, -1 ≤ t.cmp u ∧ t.cmp u ≤ 1
  | .mk k i s l, u => by
    rw [cmp_eq]
    have := cmpN_bd (.mk k i s l) u
    have := cmpL_bd l u.args
    split
    · omega
    · exact this
theorem cmpL_bd : ∀ l m : List Tm, -1 ≤ cmpL l m ∧ cmpL l m ≤ 1
  | [], m => by rw [cmpL]; omega
  | _ :: _, [] => by rw [cmpL]; omega
  | t :: l, u :: m => by
    rw [cmpL]
    have := cmp_bd t u
    have := cmpL_bd l m
    split <;> omega
end

set_option maxHeartbeats 400000 in
theorem cmpInt_any (x y : Int) (w : World) : Calls Try.prog 39 #[.int .i64 x, .int .i64 y] w fun e w' => e = .returned (.int .i64 (cmpI x y)) ∧ w = w' := by
  by_cases h : x < y
  · have HE : Hid (cmpI x y = -1) := Lib.hid (by rw [cmpI, if_pos h])
    go_enter Try.func39, Try.ntmps39
    go_wp2
    go_ret
    exact ⟨by rw [HE.out]; rfl, rfl⟩
  · by_cases h' : y < x
    · have HE : Hid (cmpI x y = 1) := Lib.hid (by rw [cmpI, if_neg h, if_pos h'])
      go_enter Try.func39, Try.ntmps39
      go_wp2
      go_ret
      exact ⟨by rw [HE.out]; rfl, rfl⟩
    · have HE : Hid (cmpI x y = 0) := Lib.hid (by rw [cmpI, if_neg h, if_neg h'])
      go_enter Try.func39, Try.ntmps39
      go_wp2
      go_ret
      exact ⟨by rw [HE.out]; rfl, rfl⟩
set_option maxHeartbeats 400000 in
theorem cmpStr_any (x y : ByteArray) (w : World) : Calls Try.prog 40 #[.string x, .string y] w fun e w' => e = .returned (.int .i64 (cmpS x y)) ∧ w = w' := by
  by_cases he : x = y
  · subst he
    have h1 := bytesLess_irrefl x.toList
    go_enter Try.func40, Try.ntmps40
    go_wp2
    go_ret
    exact ⟨by rw [cmpS, if_pos rfl]; rfl, rfl⟩
  · have he2 : (x.toList == y.toList) = false := by
      rw [beq_eq_false_iff_ne]; exact fun h => he (toList_inj h)
    cases hl : Op.bytesLess x.toList y.toList with
    | true =>
      have HE := Lib.hid he
      clear he
      go_enter Try.func40, Try.ntmps40
      go_wp2
      go_ret
      exact ⟨by rw [cmpS, if_neg HE.out, if_pos hl]; rfl, rfl⟩
    | false =>
      have HE := Lib.hid he
      clear he
      go_enter Try.func40, Try.ntmps40
      go_wp2
      go_ret
      exact ⟨by rw [cmpS, if_neg HE.out, if_neg (by rw [hl]; simp)]; rfl, rfl⟩

set_option maxHeartbeats 800000 in
theorem or3_at (x y z : Int) (g : Nat) (w : World) (c0 : w.cell? ⟨g, 0, none⟩ = some (.int .i64 x)) (c1 : w.cell? ⟨g, 1, none⟩ = some (.int .i64 y)) (c2 : w.cell? ⟨g, 2, none⟩ = some (.int .i64 z)) :
    Calls Try.prog 38 #[.slice (some ⟨g, 0, none⟩) 3 3] w fun e w' => e = .returned (.int .i64 (or3 x y z)) ∧ w = w' := by
  by_cases h1 : x = 0
  · by_cases h2 : y = 0
    · by_cases h3 : z = 0
      · go_enter Try.func38, Try.ntmps38
        go_wp2
        refine wp_loop_rounds 4 ?_
        rw [rounds_succ]; go_wp2; rw [rounds_succ]; go_wp2; rw [rounds_succ]; go_wp2; rw [rounds_succ]; go_wp2
        go_ret
        exact ⟨by simp [or3, *], rfl⟩
      · go_enter Try.func38, Try.ntmps38
        go_wp2
        refine wp_loop_rounds 3 ?_
        rw [rounds_succ]; go_wp2; rw [rounds_succ]; go_wp2; rw [rounds_succ]; go_wp2
        go_ret
        exact ⟨by simp [or3, *], rfl⟩
    · go_enter Try.func38, Try.ntmps38
      go_wp2
      refine wp_loop_rounds 2 ?_
      rw [rounds_succ]; go_wp2; rw [rounds_succ]; go_wp2
      go_ret
      exact ⟨by simp [or3, *], rfl⟩
  · go_enter Try.func38, Try.ntmps38
    go_wp2
    refine wp_loop_rounds 1 ?_
    rw [rounds_succ]; go_wp2
    go_ret
    exact ⟨by simp [or3, *], rfl⟩

end Go.Proofs.Ytokndpmoamjbfaa

