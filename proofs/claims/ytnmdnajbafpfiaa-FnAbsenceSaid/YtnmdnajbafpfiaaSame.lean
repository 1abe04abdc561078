/-
  The laws' own test whether two terms are the same, and their count of a variable.
-/
import Derived.Test.YtnmdnajbafpfiaaUnifT
import Derived.Test.YtnmdnajbafpfiaaCmps
import Derived.Deep.RegionWith
namespace Go.Proofs.Ytnmdnajbafpfiaa
open Go.RowKit
set_option linter.unusedVariables false
set_option linter.unusedSimpArgs false

theorem cmpL_yes : ∀ l m : List Tm, (∀ (j : Nat) x y, l[j]? = some x → m[j]? = some y → x.cmp y = 0) → cmpL l m = 0
  | [], _, _ => by rw [cmpL]
  | _ :: _, [], _ => by rw [cmpL]
  | t :: l, u :: m, h => by
    rw [cmpL_lex, lex_zero (h 0 t u rfl rfl)]
    exact cmpL_yes l m fun j x y hx hy => h (j + 1) x y (by simpa using hx) (by simpa using hy)
theorem cmpL_no : ∀ (l m : List Tm) (j : Nat) (x y : Tm), cmpL l m = 0 → l[j]? = some x → m[j]? = some y → x.cmp y = 0
  | [], _, j, x, y, _, hx, _ => by simp at hx
  | _ :: _, [], j, x, y, _, _, hy => by simp at hy
  | t :: l, u :: m, j, x, y, h, hx, hy => by
    rw [cmpL_lex, lex_eq] at h
    cases j with
    | zero => simp at hx hy; subst hx; subst hy; exact h.1
    | succ j => exact cmpL_no l m j x y h.2 (by simpa using hx) (by simpa using hy)
theorem same_lengths {a b : Tm} (ha : Good a) (hb : Good b) (h : a.kind = b.kind) : a.args.length = b.args.length := by
  rcases good_args_cases ha with ⟨hk, x, y, hxy, _⟩ | ⟨hk, hl⟩
  · rcases good_args_cases hb with ⟨_, x2, y2, hxy2, _⟩ | ⟨hk', _⟩
    · rw [hxy, hxy2]; rfl
    · omega
  · rcases good_args_cases hb with ⟨hk', _⟩ | ⟨_, hl'⟩
    · omega
    · rw [hl, hl']
theorem string_neq {a b : ByteArray} (h : ¬ a = b) : (a.toList == b.toList) = false := by rw [beq_eq_false_iff_ne]; exact fun e => h (toList_inj e)
theorem cmp_not {a b : Tm} (h : ¬ (a.kind = b.kind ∧ a.num = b.num ∧ a.name = b.name)) : (a.cmp b == 0) = false := by
  rw [beq_eq_false_iff_ne]
  intro e
  rw [cmp_lex, lex_eq] at e
  exact h (cmpN_zero e.1)
theorem cmp_num {a b : Tm} (h : a.kind = b.kind ∧ a.num = b.num ∧ a.name = b.name) : a.cmp b = cmpL a.args b.args := by
  have e : cmpN a b = 0 := by rw [cmpN_lex, h.1, h.2.1, h.2.2, cmpI_self, cmpI_self, cmpS_self]; rfl
  rw [cmp_lex, lex_zero e]

end Go.Proofs.Ytnmdnajbafpfiaa

