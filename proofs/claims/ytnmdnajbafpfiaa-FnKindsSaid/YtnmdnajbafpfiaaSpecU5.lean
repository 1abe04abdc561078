/-
  The model's l05Walk: a bound variable replaced.
  The model's l05Bind: a free variable bound to a term.
  The model's l05Unify: two terms unified under a substitution.
-/
import Derived.Test.YtnmdnajbafpfiaaUnifT
import Derived.Test.YtnmdnajbafpfiaaSpecSubs
namespace Go.Proofs.Ytnmdnajbafpfiaa
open Go.RowKit
set_option linter.unusedVariables false
set_option linter.unusedSimpArgs false

theorem walk_var {s : List Bd} {t y : Tm} (hk : t.kind = 1) (hg : getO s t.num = some y) : walkT s t = y := by unfold walkT; rw [if_pos hk, hg]
theorem walk_stay {s : List Bd} {t : Tm} (h : ¬ t.kind = 1 ∨ getO s t.num = none) : walkT s t = t := by
  unfold walkT
  by_cases hk : t.kind = 1
  · rw [if_pos hk]
    rcases h with h | h
    · exact absurd hk h
    · rw [h]
  · exact if_neg hk
/-- The model's count of a variable, and its list of variables. -/
theorem occ_in {v : Int} {t : Tm} (h : Good t) : 0 < t.occ v ↔ v ∈ t.vl := by
  induction h with
  | nil => rw [occ_eq]; simp [Tm.kind, Tm.args, Tm.vl, vlL, occL]
  | sym n hn => rw [occ_eq]; simp [Tm.kind, Tm.args, Tm.vl, vlL, occL]
  | int r h0 h1 => rw [occ_eq]; simp [Tm.kind, Tm.args, Tm.vl, vlL, occL]
  | var i h0 h1 =>
    rw [occ_eq]
    by_cases hi : i = v
    · subst hi; simp [Tm.kind, Tm.num, Tm.vl]
    · have hi' : ¬ v = i := fun e => hi e.symm
      simp [Tm.kind, Tm.num, Tm.args, Tm.vl, occL, hi, hi']
  | pair x y _ _ ihx ihy =>
    rw [vl_pair, List.mem_append, ← ihx, ← ihy, occ_eq]
    simp only [Tm.kind, Tm.num, Tm.args, occL]
    rw [if_neg (fun h => absurd h.1 (by decide))]
    omega
end Go.Proofs.Ytnmdnajbafpfiaa

namespace Go.Proofs.Ytnmdnajbafpfiaa
open Go.RowKit
set_option linter.unusedVariables false
set_option linter.unusedSimpArgs false

def putB (v : Int) (y : Tm) (b : Bd) : Bd := ⟨b.v, b.t.put v y⟩
theorem bindS_eq (s : List Bd) (v : Int) (y : Tm) : bindS s v y = insB (s.map (putB v y)) ⟨v, y⟩ := rfl
theorem bd_no {s : List Bd} {v : Int} {t : Tm} (hs : SubstP s) (hfree : getO s v = none) (ht : Good t) (ho : ¬ ((putT s t).kind = 1 ∧ v ≤ (putT s t).num))
    (h : 5000 < (putT s t).nodes ∨ 0 < (putT s t).occ v ∨ 400 ≤ s.length ∨ ∃ b ∈ s, 5000 < (b.t.put v (putT s t)).nodes) : muL s [(varTm v, t)] = [] ∧ muB s [(varTm v, t)] = false := by
  refine mu_no (bind_no hs hfree ht ho ?_)
  rcases h with h | h | h | h
  · exact .inl h
  · have h2 := (occ_in (putT_good hs.good t.nodes t (Nat.le_refl _) ht)).1 h
    refine .inr (.inl ⟨h2, fun hk => ho ⟨hk, ?_⟩⟩)
    rw [vl_of_var hk] at h2
    have : v = (putT s t).num := by simpa using h2
    omega
  · exact .inr (.inr (.inl h))
  · exact .inr (.inr (.inr h))
theorem bd_yes {s : List Bd} {v : Int} {t : Tm} (hs : SubstP s) (hv : 0 ≤ v ∧ v ≤ 100000) (hfree : getO s v = none) (ht : Good t) (ho : ¬ ((putT s t).kind = 1 ∧ v ≤ (putT s t).num))
    (h1 : (putT s t).nodes ≤ 5000) (h2 : ¬ 0 < (putT s t).occ v) (h3 : s.length < 400) (h4 : ∀ b ∈ s, (b.t.put v (putT s t)).nodes ≤ 5000) : muL s [(varTm v, t)] = bindS s v (putT s t) ∧ muB s [(varTm v, t)] = true :=
  mu_yes (bind_mgu hs hv hfree ht h1 (fun h => h2 ((occ_in (putT_good hs.good t.nodes t (Nat.le_refl _) ht)).2 h)) ho h3 h4)
theorem put_fine {v : Int} {x y : Tm} (hx : Ok x) (hy : Ok y) : Good (x.put v y) ∧ (x.put v y).sz ≤ 1099511627776 := by
  have hg := good_put (v := v) hy.2 hx.2
  refine ⟨hg, ?_⟩
  have h1 := nodes_put (v := v) (b := y) hx.2
  have h2 := good_sz hg
  have h3 := occ_nodes v x
  have h4 : x.occ v * y.nodes ≤ 5000 * 5000 := Nat.mul_le_mul (Nat.le_trans h3 hx.1) hy.1
  have h5 := hx.1
  omega

end Go.Proofs.Ytnmdnajbafpfiaa

namespace Go.Proofs.Ytnmdnajbafpfiaa
open Go.RowKit
set_option linter.unusedVariables false
set_option linter.unusedSimpArgs false

theorem pair_ok {a b : Tm} (ha : Ok a) (hb : Ok b) : OkE [(a, b)] := fun e he => by
  rw [List.mem_singleton] at he; subst he; exact ⟨ha, hb⟩
theorem mu_walk {s : List Bd} {a b : Tm} (hs : SubstP s) (ha : Ok a) (hb : Ok b) : muL s [(a, b)] = muL s [(walkT s a, walkT s b)] ∧ muB s [(a, b)] = muB s [(walkT s a, walkT s b)] :=
  mu_congr hs (pair_ok ha hb) fun f hf => (walk_eqn hf ha.2 hb.2).symm
theorem mu_swap {s : List Bd} {a b : Tm} (hs : SubstP s) (ha : Ok a) (hb : Ok b) : muL s [(a, b)] = muL s [(b, a)] ∧ muB s [(a, b)] = muB s [(b, a)] :=
  mu_congr hs (pair_ok ha hb) fun f _ => swap_eqn
theorem mu_same {s : List Bd} {a : Tm} (hs : SubstP s) : muL s [(a, a)] = s ∧ muB s [(a, a)] = true := mu_yes (mgu_refl hs fun f _ => sol_one.2 rfl)
theorem good_len {p q : Tm} (hp : Good p) (hq : Good q) (h : p.kind = q.kind) : p.args.length = q.args.length := by
  by_cases h4 : p.kind = 4
  · obtain ⟨x, y, rfl, _, _⟩ := good_pair hp h4
    obtain ⟨z, r, rfl, _, _⟩ := good_pair hq (by rw [← h]; exact h4)
    rfl
  · rw [good_leaf hp h4, good_leaf hq (by rw [← h]; exact h4)]
theorem arg_ok {p x : Tm} (hp : Ok p) (hx : x ∈ p.args) : Ok x := by
  by_cases h4 : p.kind = 4
  · obtain ⟨y, z, rfl, _, _⟩ := good_pair hp.2 h4
    obtain ⟨h1, h2⟩ := ok_two hp
    rcases (by simpa [Tm.args] using hx : x = y ∨ x = z) with rfl | rfl
    · exact h1
    · exact h2
  · rw [good_leaf hp.2 h4] at hx; cases hx
theorem arg_less {s : List Bd} {p x : Tm} (hp : Good p) (hx : x ∈ p.args) : (putT s x).nodes < (putT s p).nodes := by
  by_cases h4 : p.kind = 4
  · obtain ⟨y, z, rfl, _, _⟩ := good_pair hp h4
    rw [putT_two (t := .mk 4 0 ⟨#[]⟩ [y, z]) rfl rfl]
    have e : (Tm.mk 4 0 ⟨#[]⟩ [putT s y, putT s z]).nodes = 1 + nodesL [putT s y, putT s z] := by rw [nodes_eq]; rfl
    rw [e]
    simp only [nodesL]
    rcases (by simpa [Tm.args] using hx : x = y ∨ x = z) with rfl | rfl <;> omega
  · rw [good_leaf hp h4] at hx; cases hx
theorem mgu_next {s u : List Bd} {l m : List Tm} {k : Nat} {x y : Tm} (hx : l[k]? = some x) (hy : m[k]? = some y) (hu : Mgu s ((l.take k).zip (m.take k)) u) (hl : u = s ∨ s.length < u.length) (ox : Ok x) (oy : Ok y) (h : muB u [(x, y)] = true) :
    Mgu s ((l.take (k + 1)).zip (m.take (k + 1))) (muL u [(x, y)]) ∧ (muL u [(x, y)] = s ∨ s.length < (muL u [(x, y)]).length) := by
  rcases mgu_or _ _ u x y hu.ok ox oy (Nat.le_refl _) (Nat.le_refl _) with ⟨v, hv, hvl⟩ | hno
  · rw [(mu_yes hv).1, zip_take hx hy]
    refine ⟨mgu_trans hu hv, ?_⟩
    rcases hvl with rfl | hvl
    · exact hl
    · rcases hl with rfl | hl
      · exact .inr hvl
      · exact .inr (by omega)
  · rw [(mu_no hno).2] at h; cases h
theorem nou_next {s u : List Bd} {l m : List Tm} {k : Nat} {x y : Tm} (hx : l[k]? = some x) (hy : m[k]? = some y) (hu : Mgu s ((l.take k).zip (m.take k)) u) (ox : Ok x) (oy : Ok y) (h : muB u [(x, y)] = false) : NoU s (l.zip m) := by
  have h1 : NoU s ((l.take (k + 1)).zip (m.take (k + 1))) := by
    rw [zip_take hx hy]
    exact nou_right hu (mu_false hu.ok (pair_ok ox oy) h)
  have e : l.zip m = (l.take (k + 1)).zip (m.take (k + 1)) ++ (l.drop (k + 1)).zip (m.drop (k + 1)) := by
    have hl := (List.getElem?_eq_some_iff.1 hx).1
    have hm := (List.getElem?_eq_some_iff.1 hy).1
    rw [← List.zip_append (by rw [List.length_take, List.length_take]; omega), List.take_append_drop, List.take_append_drop]
  rw [e]
  exact nou_left h1
theorem mu_args {s u : List Bd} {p q : Tm} (hk : ¬ p.kind = 1) (he : p.kind = q.kind ∧ p.num = q.num ∧ p.name = q.name) (hl : p.args.length = q.args.length) (hu : Mgu s (p.args.zip q.args) u) : muL s [(p, q)] = u ∧ muB s [(p, q)] = true :=
  mu_yes (mgu_congr (fun f _ => args_eqn hk he hl) hu)
theorem no_args {s : List Bd} {p q : Tm} (hk : ¬ p.kind = 1) (he : p.kind = q.kind ∧ p.num = q.num ∧ p.name = q.name) (hl : p.args.length = q.args.length) (hn : NoU s (p.args.zip q.args)) : muL s [(p, q)] = [] ∧ muB s [(p, q)] = false :=
  mu_no (nou_congr (fun f _ => args_eqn hk he hl) hn)

end Go.Proofs.Ytnmdnajbafpfiaa

