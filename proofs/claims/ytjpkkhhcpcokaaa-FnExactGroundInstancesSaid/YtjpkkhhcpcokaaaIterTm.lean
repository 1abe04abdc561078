/-
  Iterators over terms: what they hand on; slices.Values over a list of terms.
-/
import Derived.Test.YtjpkkhhcpcokaaaIter
import Derived.Test.YtjpkkhhcpcokaaaLaws
import Derived.Shelf.Abstract
import Derived.Shelf.RegionOpen
import Derived.WalkKit
import Derived.OwnWalkIn
import Derived.TacticsInMore
import Derived.LoopNIn
import Derived.LoopIn
namespace Go.Proofs.Ytjpkkhhcpcokaaa
open Go.RowKit Go.Shelf
set_option linter.unusedVariables false
set_option linter.unusedSimpArgs false

attribute [local go_sem] Oper.semAt_some

/-- A term that is handed on: its parts lie in blocks that nobody turns. -/
def TmG (x : Tm) (v : Array Value) (Y : Fp) (W : World) : Prop :=
  ∃ a c, v = #[.agg #[.int .i64 x.kind, .int .i64 x.num, .string x.name, .slice a x.args.length c]] ∧ ArgsS W Y.z (.slice a x.args.length c) x.args
def NoneC (_ : Array Value) (_ : Nat) : Prop := False
theorem TmG.size {x : Tm} {v : Array Value} {Y : Fp} {W : World} (h : TmG x v Y W) : v.size = 1 := by
  obtain ⟨a, c, rfl, _⟩ := h
  rfl
theorem take_next {α : Type} {u : List α} {k : Nat} {x : α} (h : u[k]? = some x) : u.take (k + 1) = u.take k ++ [x] := by
  rw [List.take_add_one, h]; rfl
theorem take_pre {α : Type} {u : List α} {k : Nat} {x : α} (h : u[k]? = some x) : u.take k ++ [x] <+: u := ⟨u.drop (k + 1), by rw [← take_next h, List.take_append_drop]⟩
/-- The iterator's own new block, or a draw. -/
theorem AbY.grown {β : Type} {J : β → Fp → World → Prop} (hJ : AbY J) {s : β} {Y : Fp} {W W' : World} (h : J s Y W) (hok : Y.ok W.heap.size) (hb : Below W.heap.size W W') : J s Y W' :=
  hJ s Y Y W W' h hok (Only.of_below hb) (Fp.to.refl _ _) ⟨fun k hk => Nat.lt_of_lt_of_le (hok.lt k hk) hb.size, hok.off⟩
theorem Fp.ok.up {Y : Fp} {n m : Nat} (h : Y.ok n) (hm : n ≤ m) : Y.ok m := ⟨fun k hk => Nat.lt_of_lt_of_le (h.lt k hk) hm, h.off⟩

end Go.Proofs.Ytjpkkhhcpcokaaa

