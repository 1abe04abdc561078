/-
  Terms drawn: l02Atom, l02Draw, MakeTerm, MakeSize.
-/
import Derived.Test.YtjmmeccfjanpcaaDoorDraw
namespace Go.Proofs.YtjmmeccfjanpcaaDoor
open Go.RowKit
set_option linter.unusedVariables false
set_option linter.unusedSimpArgs false

theorem nodes_atom {t : Tm} (h : t.args = []) : (t.nodes : Int) ≤ 1 := by rw [nodes_eq, h, nodesL]; decide
end Go.Proofs.YtjmmeccfjanpcaaDoor

