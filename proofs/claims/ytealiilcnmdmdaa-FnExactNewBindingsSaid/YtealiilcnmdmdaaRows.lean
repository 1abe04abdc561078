/-
  NARROWER THAN 'FOR EVERY INPUT', by the rows' own cells (each row's printed sentence says how): FnExactIsUnifier: loops · FnExactNewBindings: loops.
  DERIVED. THE GIVEN ROWS OF THIS SEAT. 4 by the template 'for every input the law returns true; each argument reads behind the call as it read before'; 0 by the template 'total and deterministic' (their statements: YtealiilcnmdmdaaTotals.lean).
  GIVEN WITH THE SEED: the statements are not yours to turn. If you find one false, say at which input.
  Laid BY PROGRAM, IN A SANDBOX (cutbox-rows.mjs): the forced cells as the released guide's own fill.sh prints them over the translation 42e0a8e511fe3b56… (all of the seat's roots in one cut). By AI agents, Wed Nov 11 2026. No macro, syntax, notation, axiom, sorry.
-/
import Derived.Test.YtealiilcnmdmdaaChecked
import GoSem.Claim
import GoSem.ClaimJoined
import GoSem.ClaimMapViews
import Derived.JoinedTies
import Derived.KernelRfl
namespace Go.Proofs.Ytealiilcnmdmdaa
/- THE CELL 'sum', in the pinned program and in every row, IS THE sha256 OF THE DUMP (.gsa) THAT YtealiilcnmdmdaaProg.lean LOADS. Nothing in Lean hashes anything: it is a label: what it is worth is what the hold of that sum in a sandbox is worth. -/
noncomputable def Try.pinned : Pinned := { name := "ytealiilcnmdmdaa", sum := "42e0a8e511fe3b56ad421301490b29ad52df87a4b77b1a9b891cba8c2dac6e5e", checked := Try.checked }
namespace Rows
def none {H : Type} : Left H := { results := [], args := [] }

/-- 'laws.FnUnifier': WHATEVER THE INPUT: true; the input reads as it did. -/
def fnUnifierSpec : ChangeSpec := { name := "fnUnifier", fn := fun _ => fun
  | [d] => { results := [.lit (.bool true)], args := [d] }
  | _ => none }
def fnUnifierRow : OpenClaim := { program := "ytealiilcnmdmdaa", sum := "42e0a8e511fe3b56ad421301490b29ad52df87a4b77b1a9b891cba8c2dac6e5e", func := "loop.example/g03210/laws.FnUnifier", spec := "fnUnifier", unfollowed := true, recurses := true, apart := false }
def FnUnifierSaid : Prop := fnUnifierRow.holds Try.pinned (OpenSpec.ofChange fnUnifierSpec)

/-- ITS FALSE NEIGHBOUR: 'it returns false'. Refute it at one input. -/
def fnUnifierWrong : ChangeSpec := { name := "fnUnifier", fn := fun _ => fun
  | [d] => { results := [.lit (.bool false)], args := [d] }
  | _ => none }
def FnUnifierWrongFalsely : Prop := fnUnifierRow.holds Try.pinned (OpenSpec.ofChange fnUnifierWrong)

/-- 'laws.FnJoin': WHATEVER THE INPUT: true; the input reads as it did. -/
def fnJoinSpec : ChangeSpec := { name := "fnJoin", fn := fun _ => fun
  | [d] => { results := [.lit (.bool true)], args := [d] }
  | _ => none }
def fnJoinRow : OpenClaim := { program := "ytealiilcnmdmdaa", sum := "42e0a8e511fe3b56ad421301490b29ad52df87a4b77b1a9b891cba8c2dac6e5e", func := "loop.example/g03210/laws.FnJoin", spec := "fnJoin", unfollowed := true, recurses := true, apart := false }
def FnJoinSaid : Prop := fnJoinRow.holds Try.pinned (OpenSpec.ofChange fnJoinSpec)

/-- ITS FALSE NEIGHBOUR: 'it returns false'. Refute it at one input. -/
def fnJoinWrong : ChangeSpec := { name := "fnJoin", fn := fun _ => fun
  | [d] => { results := [.lit (.bool false)], args := [d] }
  | _ => none }
def FnJoinWrongFalsely : Prop := fnJoinRow.holds Try.pinned (OpenSpec.ofChange fnJoinWrong)

/-- 'laws.FnExactIsUnifier': WHATEVER THE INPUT: true; the input reads as it did. -/
def fnExactIsUnifierSpec : ChangeSpec := { name := "fnExactIsUnifier", fn := fun _ => fun
  | [d1, d2, d3] => { results := [.lit (.bool true)], args := [d1, d2, d3] }
  | _ => none }
def fnExactIsUnifierRow : OpenClaim := { program := "ytealiilcnmdmdaa", sum := "42e0a8e511fe3b56ad421301490b29ad52df87a4b77b1a9b891cba8c2dac6e5e", func := "loop.example/g03210/laws.FnExactIsUnifier", spec := "fnExactIsUnifier", unfollowed := true, recurses := true, loops := true, apart := false }
def FnExactIsUnifierSaid : Prop := fnExactIsUnifierRow.holds Try.pinned (OpenSpec.ofChange fnExactIsUnifierSpec)

/-- ITS FALSE NEIGHBOUR: 'it returns false'. Refute it at one input. -/
def fnExactIsUnifierWrong : ChangeSpec := { name := "fnExactIsUnifier", fn := fun _ => fun
  | [d1, d2, d3] => { results := [.lit (.bool false)], args := [d1, d2, d3] }
  | _ => none }
def FnExactIsUnifierWrongFalsely : Prop := fnExactIsUnifierRow.holds Try.pinned (OpenSpec.ofChange fnExactIsUnifierWrong)

/-- 'laws.FnExactNewBindings': WHATEVER THE INPUT: true; the input reads as it did. -/
def fnExactNewBindingsSpec : ChangeSpec := { name := "fnExactNewBindings", fn := fun _ => fun
  | [d1, d2] => { results := [.lit (.bool true)], args := [d1, d2] }
  | _ => none }
def fnExactNewBindingsRow : OpenClaim := { program := "ytealiilcnmdmdaa", sum := "42e0a8e511fe3b56ad421301490b29ad52df87a4b77b1a9b891cba8c2dac6e5e", func := "loop.example/g03210/laws.FnExactNewBindings", spec := "fnExactNewBindings", unfollowed := true, recurses := true, loops := true, apart := false }
def FnExactNewBindingsSaid : Prop := fnExactNewBindingsRow.holds Try.pinned (OpenSpec.ofChange fnExactNewBindingsSpec)

/-- ITS FALSE NEIGHBOUR: 'it returns false'. Refute it at one input. -/
def fnExactNewBindingsWrong : ChangeSpec := { name := "fnExactNewBindings", fn := fun _ => fun
  | [d1, d2] => { results := [.lit (.bool false)], args := [d1, d2] }
  | _ => none }
def FnExactNewBindingsWrongFalsely : Prop := fnExactNewBindingsRow.holds Try.pinned (OpenSpec.ofChange fnExactNewBindingsWrong)

/- THE SECOND FORM. 'bulk': how many values and letters a reading holds, each counted each time it is reached (what is shared counts as often as it is met; a slice's spare places count too). A statement '..UptoSaid' is the law's where the arguments, and the package variables that the reading takes, are together of bulk at most 1048576: NARROWER than '..Said'. Prove '..Said' where nothing that the law and all that it calls make is longer than what came in: it says more and counts as full. Else prove '..UptoSaid'. A law counts once. -/
mutual
def uptoBulk {H : Type} : DataW H → Nat
  | .lit (.string bytes) => bytes.length + 1
  | .lit _ => 1
  | .nil => 1
  | .ptr d => uptoBulk d + 1
  | .slice elems spare => uptoBulkAll elems + uptoBulkAll spare + 1
  | .agg parts => uptoBulkAll parts + 1
  | .iface _ d => uptoBulk d + 1
  | .map entries => uptoBulkEntries entries + 1
  | .held _ => 1
def uptoBulkAll {H : Type} : List (DataW H) → Nat
  | [] => 0
  | d :: r => uptoBulk d + uptoBulkAll r
def uptoBulkEntries {H : Type} : List (Lit × DataW H) → Nat
  | [] => 0
  | x :: r => uptoBulkEntry x + uptoBulkEntries r
def uptoBulkEntry {H : Type} : Lit × DataW H → Nat
  | (.string bytes, d) => bytes.length + uptoBulk d + 1
  | (_, d) => uptoBulk d + 1
 end
def uptoSmall : (H : Type) → List (DataW H) → Bool := fun _ ds => decide (uptoBulkAll ds ≤ 1048576)
def OpenSpec.upto (s : _root_.Go.ChangeSpec) : _root_.Go.OpenSpec := { _root_.Go.OpenSpec.ofChange s with cond := some uptoSmall }

/-- 'laws.FnUnifier', WHERE WHAT IT READS IS OF BULK AT MOST 1048576: true; the input reads as it did. -/
def fnUnifierUptoRow : OpenClaim := { program := "ytealiilcnmdmdaa", sum := "42e0a8e511fe3b56ad421301490b29ad52df87a4b77b1a9b891cba8c2dac6e5e", func := "loop.example/g03210/laws.FnUnifier", spec := "fnUnifier", unfollowed := true, recurses := true, apart := false, narrowed := true }
def FnUnifierUptoSaid : Prop := fnUnifierUptoRow.holds Try.pinned (OpenSpec.upto fnUnifierSpec)

/-- 'laws.FnJoin', WHERE WHAT IT READS IS OF BULK AT MOST 1048576: true; the input reads as it did. -/
def fnJoinUptoRow : OpenClaim := { program := "ytealiilcnmdmdaa", sum := "42e0a8e511fe3b56ad421301490b29ad52df87a4b77b1a9b891cba8c2dac6e5e", func := "loop.example/g03210/laws.FnJoin", spec := "fnJoin", unfollowed := true, recurses := true, apart := false, narrowed := true }
def FnJoinUptoSaid : Prop := fnJoinUptoRow.holds Try.pinned (OpenSpec.upto fnJoinSpec)

/-- 'laws.FnExactIsUnifier', WHERE WHAT IT READS IS OF BULK AT MOST 1048576: true; the input reads as it did. -/
def fnExactIsUnifierUptoRow : OpenClaim := { program := "ytealiilcnmdmdaa", sum := "42e0a8e511fe3b56ad421301490b29ad52df87a4b77b1a9b891cba8c2dac6e5e", func := "loop.example/g03210/laws.FnExactIsUnifier", spec := "fnExactIsUnifier", unfollowed := true, recurses := true, loops := true, apart := false, narrowed := true }
def FnExactIsUnifierUptoSaid : Prop := fnExactIsUnifierUptoRow.holds Try.pinned (OpenSpec.upto fnExactIsUnifierSpec)

/-- 'laws.FnExactNewBindings', WHERE WHAT IT READS IS OF BULK AT MOST 1048576: true; the input reads as it did. -/
def fnExactNewBindingsUptoRow : OpenClaim := { program := "ytealiilcnmdmdaa", sum := "42e0a8e511fe3b56ad421301490b29ad52df87a4b77b1a9b891cba8c2dac6e5e", func := "loop.example/g03210/laws.FnExactNewBindings", spec := "fnExactNewBindings", unfollowed := true, recurses := true, loops := true, apart := false, narrowed := true }
def FnExactNewBindingsUptoSaid : Prop := fnExactNewBindingsUptoRow.holds Try.pinned (OpenSpec.upto fnExactNewBindingsSpec)

end Rows
end Go.Proofs.Ytealiilcnmdmdaa
