/-
  The model's Lookup, ApplySubst.
-/
import Derived.Test.YtjmmeccfjanpcaaDoorSpecApply
namespace Go.Proofs.YtjmmeccfjanpcaaDoor
open Go.RowKit
set_option linter.unusedVariables false
set_option linter.unusedSimpArgs false

theorem ListS.lowB {w : World} {S : Nat → Prop} {V : Value} {s : List Bd} (h : ListS bdE w S V s) : ListS bdE w (fun k => k < w.heap.size) V s := by
  cases h with
  | nil a cap => exact .nil a cap
  | row g off n cap L l' hl hn hS hg hc hr => exact .row g off n cap L _ hl hn hg hg hc fun j p hj => (show ArgsS w S p.2 p.1.t.args from hr j p hj).low.sub fun k hk => hk.2

end Go.Proofs.YtjmmeccfjanpcaaDoor

