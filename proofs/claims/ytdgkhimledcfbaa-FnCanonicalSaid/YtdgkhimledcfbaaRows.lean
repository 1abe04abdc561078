/-
  NARROWER THAN 'FOR EVERY INPUT', by the rows' own cells (each row's printed sentence says how): FnExactOrderedVars: loops · FnExactVarBound: loops · FnExactShiftTerm: loops · FnExactCanonical: loops · FnExactReify: loops.
  DERIVED. THE GIVEN ROWS OF THIS SEAT. 7 by the template 'for every input the law returns true; each argument reads behind the call as it read before'; 0 by the template 'total and deterministic' (their statements: YtdgkhimledcfbaaTotals.lean).
  GIVEN WITH THE SEED: the statements are not yours to turn. If you find one false, say at which input.
  Laid BY PROGRAM, IN A SANDBOX (cutbox-rows.mjs): the forced cells as the released guide's own fill.sh prints them over the translation 3995c8cf4f06b7b0… (all of the seat's roots in one cut). By AI agents, Wed Nov 11 2026. No macro, syntax, notation, axiom, sorry.
-/
import Derived.Test.YtdgkhimledcfbaaChecked
import GoSem.Claim
import GoSem.ClaimJoined
import GoSem.ClaimMapViews
import Derived.JoinedTies
import Derived.KernelRfl
namespace Go.Proofs.Ytdgkhimledcfbaa
/- THE CELL 'sum', in the pinned program and in every row, IS THE sha256 OF THE DUMP (.gsa) THAT YtdgkhimledcfbaaProg.lean LOADS. Nothing in Lean hashes anything: it is a label: what it is worth is what the hold of that sum in a sandbox is worth. -/
noncomputable def Try.pinned : Pinned := { name := "ytdgkhimledcfbaa", sum := "3995c8cf4f06b7b0a1f96b5b472322fec1854702ddbcacfe885bb066dcf5ec98", checked := Try.checked }
namespace Rows
def none {H : Type} : Left H := { results := [], args := [] }

/-- 'laws.FnGeneral': WHATEVER THE INPUT: true; the input reads as it did. -/
def fnGeneralSpec : ChangeSpec := { name := "fnGeneral", fn := fun _ => fun
  | [d] => { results := [.lit (.bool true)], args := [d] }
  | _ => none }
def fnGeneralRow : OpenClaim := { program := "ytdgkhimledcfbaa", sum := "3995c8cf4f06b7b0a1f96b5b472322fec1854702ddbcacfe885bb066dcf5ec98", func := "loop.example/g03210/laws.FnGeneral", spec := "fnGeneral", unfollowed := true, recurses := true, plainKeys := false, apart := false }
def FnGeneralSaid : Prop := fnGeneralRow.holds Try.pinned (OpenSpec.ofChange fnGeneralSpec)

/-- ITS FALSE NEIGHBOUR: 'it returns false'. Refute it at one input. -/
def fnGeneralWrong : ChangeSpec := { name := "fnGeneral", fn := fun _ => fun
  | [d] => { results := [.lit (.bool false)], args := [d] }
  | _ => none }
def FnGeneralWrongFalsely : Prop := fnGeneralRow.holds Try.pinned (OpenSpec.ofChange fnGeneralWrong)

/-- 'laws.FnCanonical': WHATEVER THE INPUT: true; the input reads as it did. -/
def fnCanonicalSpec : ChangeSpec := { name := "fnCanonical", fn := fun _ => fun
  | [d] => { results := [.lit (.bool true)], args := [d] }
  | _ => none }
def fnCanonicalRow : OpenClaim := { program := "ytdgkhimledcfbaa", sum := "3995c8cf4f06b7b0a1f96b5b472322fec1854702ddbcacfe885bb066dcf5ec98", func := "loop.example/g03210/laws.FnCanonical", spec := "fnCanonical", unfollowed := true, recurses := true, plainKeys := false, apart := false }
def FnCanonicalSaid : Prop := fnCanonicalRow.holds Try.pinned (OpenSpec.ofChange fnCanonicalSpec)

/-- ITS FALSE NEIGHBOUR: 'it returns false'. Refute it at one input. -/
def fnCanonicalWrong : ChangeSpec := { name := "fnCanonical", fn := fun _ => fun
  | [d] => { results := [.lit (.bool false)], args := [d] }
  | _ => none }
def FnCanonicalWrongFalsely : Prop := fnCanonicalRow.holds Try.pinned (OpenSpec.ofChange fnCanonicalWrong)

/-- 'laws.FnExactOrderedVars': WHATEVER THE INPUT: true; the input reads as it did. -/
def fnExactOrderedVarsSpec : ChangeSpec := { name := "fnExactOrderedVars", fn := fun _ => fun
  | [d] => { results := [.lit (.bool true)], args := [d] }
  | _ => none }
def fnExactOrderedVarsRow : OpenClaim := { program := "ytdgkhimledcfbaa", sum := "3995c8cf4f06b7b0a1f96b5b472322fec1854702ddbcacfe885bb066dcf5ec98", func := "loop.example/g03210/laws.FnExactOrderedVars", spec := "fnExactOrderedVars", unfollowed := true, recurses := true, loops := true, plainKeys := false, apart := false }
def FnExactOrderedVarsSaid : Prop := fnExactOrderedVarsRow.holds Try.pinned (OpenSpec.ofChange fnExactOrderedVarsSpec)

/-- ITS FALSE NEIGHBOUR: 'it returns false'. Refute it at one input. -/
def fnExactOrderedVarsWrong : ChangeSpec := { name := "fnExactOrderedVars", fn := fun _ => fun
  | [d] => { results := [.lit (.bool false)], args := [d] }
  | _ => none }
def FnExactOrderedVarsWrongFalsely : Prop := fnExactOrderedVarsRow.holds Try.pinned (OpenSpec.ofChange fnExactOrderedVarsWrong)

/-- 'laws.FnExactVarBound': WHATEVER THE INPUT: true; the input reads as it did. -/
def fnExactVarBoundSpec : ChangeSpec := { name := "fnExactVarBound", fn := fun _ => fun
  | [d] => { results := [.lit (.bool true)], args := [d] }
  | _ => none }
def fnExactVarBoundRow : OpenClaim := { program := "ytdgkhimledcfbaa", sum := "3995c8cf4f06b7b0a1f96b5b472322fec1854702ddbcacfe885bb066dcf5ec98", func := "loop.example/g03210/laws.FnExactVarBound", spec := "fnExactVarBound", unfollowed := true, recurses := true, loops := true, plainKeys := false, apart := false }
def FnExactVarBoundSaid : Prop := fnExactVarBoundRow.holds Try.pinned (OpenSpec.ofChange fnExactVarBoundSpec)

/-- ITS FALSE NEIGHBOUR: 'it returns false'. Refute it at one input. -/
def fnExactVarBoundWrong : ChangeSpec := { name := "fnExactVarBound", fn := fun _ => fun
  | [d] => { results := [.lit (.bool false)], args := [d] }
  | _ => none }
def FnExactVarBoundWrongFalsely : Prop := fnExactVarBoundRow.holds Try.pinned (OpenSpec.ofChange fnExactVarBoundWrong)

/-- 'laws.FnExactShiftTerm': WHATEVER THE INPUT: true; the input reads as it did. -/
def fnExactShiftTermSpec : ChangeSpec := { name := "fnExactShiftTerm", fn := fun _ => fun
  | [d1, d2] => { results := [.lit (.bool true)], args := [d1, d2] }
  | _ => none }
def fnExactShiftTermRow : OpenClaim := { program := "ytdgkhimledcfbaa", sum := "3995c8cf4f06b7b0a1f96b5b472322fec1854702ddbcacfe885bb066dcf5ec98", func := "loop.example/g03210/laws.FnExactShiftTerm", spec := "fnExactShiftTerm", unfollowed := true, recurses := true, loops := true, plainKeys := false, apart := false }
def FnExactShiftTermSaid : Prop := fnExactShiftTermRow.holds Try.pinned (OpenSpec.ofChange fnExactShiftTermSpec)

/-- ITS FALSE NEIGHBOUR: 'it returns false'. Refute it at one input. -/
def fnExactShiftTermWrong : ChangeSpec := { name := "fnExactShiftTerm", fn := fun _ => fun
  | [d1, d2] => { results := [.lit (.bool false)], args := [d1, d2] }
  | _ => none }
def FnExactShiftTermWrongFalsely : Prop := fnExactShiftTermRow.holds Try.pinned (OpenSpec.ofChange fnExactShiftTermWrong)

/-- 'laws.FnExactCanonical': WHATEVER THE INPUT: true; the input reads as it did. -/
def fnExactCanonicalSpec : ChangeSpec := { name := "fnExactCanonical", fn := fun _ => fun
  | [d] => { results := [.lit (.bool true)], args := [d] }
  | _ => none }
def fnExactCanonicalRow : OpenClaim := { program := "ytdgkhimledcfbaa", sum := "3995c8cf4f06b7b0a1f96b5b472322fec1854702ddbcacfe885bb066dcf5ec98", func := "loop.example/g03210/laws.FnExactCanonical", spec := "fnExactCanonical", unfollowed := true, recurses := true, loops := true, plainKeys := false, apart := false }
def FnExactCanonicalSaid : Prop := fnExactCanonicalRow.holds Try.pinned (OpenSpec.ofChange fnExactCanonicalSpec)

/-- ITS FALSE NEIGHBOUR: 'it returns false'. Refute it at one input. -/
def fnExactCanonicalWrong : ChangeSpec := { name := "fnExactCanonical", fn := fun _ => fun
  | [d] => { results := [.lit (.bool false)], args := [d] }
  | _ => none }
def FnExactCanonicalWrongFalsely : Prop := fnExactCanonicalRow.holds Try.pinned (OpenSpec.ofChange fnExactCanonicalWrong)

/-- 'laws.FnExactReify': WHATEVER THE INPUT: true; the input reads as it did. -/
def fnExactReifySpec : ChangeSpec := { name := "fnExactReify", fn := fun _ => fun
  | [d1, d2] => { results := [.lit (.bool true)], args := [d1, d2] }
  | _ => none }
def fnExactReifyRow : OpenClaim := { program := "ytdgkhimledcfbaa", sum := "3995c8cf4f06b7b0a1f96b5b472322fec1854702ddbcacfe885bb066dcf5ec98", func := "loop.example/g03210/laws.FnExactReify", spec := "fnExactReify", unfollowed := true, recurses := true, loops := true, plainKeys := false, apart := false }
def FnExactReifySaid : Prop := fnExactReifyRow.holds Try.pinned (OpenSpec.ofChange fnExactReifySpec)

/-- ITS FALSE NEIGHBOUR: 'it returns false'. Refute it at one input. -/
def fnExactReifyWrong : ChangeSpec := { name := "fnExactReify", fn := fun _ => fun
  | [d1, d2] => { results := [.lit (.bool false)], args := [d1, d2] }
  | _ => none }
def FnExactReifyWrongFalsely : Prop := fnExactReifyRow.holds Try.pinned (OpenSpec.ofChange fnExactReifyWrong)

/- THE SECOND FORM. 'bulk': how many values and letters a reading holds, each counted each time it is reached (what is shared counts as often as it is met; a slice's spare places count too). A statement '..UptoSaid' is the law's where the arguments, and the package variables that the reading takes, are together of bulk at most 1048576: NARROWER than '..Said'. Prove '..Said' where nothing that the law and all that it calls make is longer than what came in: it says more and counts as full. Else prove '..UptoSaid'. A law counts once. -/
mutual
def uptoBulk {H : Type} : DataW H → Nat
  | .lit (.string bytes) => bytes.length + 1
  | .lit _ => 1
  | .nil => 1
  | .ptr d => uptoBulk d + 1
  | .slice elems spare => uptoBulkAll elems + uptoBulkAll spare + 1
  | .agg parts => uptoBulkAll parts + 1
  | .iface _ d => uptoBulk d + 1
  | .map entries => uptoBulkEntries entries + 1
  | .held _ => 1
def uptoBulkAll {H : Type} : List (DataW H) → Nat
  | [] => 0
  | d :: r => uptoBulk d + uptoBulkAll r
def uptoBulkEntries {H : Type} : List (Lit × DataW H) → Nat
  | [] => 0
  | x :: r => uptoBulkEntry x + uptoBulkEntries r
def uptoBulkEntry {H : Type} : Lit × DataW H → Nat
  | (.string bytes, d) => bytes.length + uptoBulk d + 1
  | (_, d) => uptoBulk d + 1
 end
def uptoSmall : (H : Type) → List (DataW H) → Bool := fun _ ds => decide (uptoBulkAll ds ≤ 1048576)
def OpenSpec.upto (s : _root_.Go.ChangeSpec) : _root_.Go.OpenSpec := { _root_.Go.OpenSpec.ofChange s with cond := some uptoSmall }

/-- 'laws.FnGeneral', WHERE WHAT IT READS IS OF BULK AT MOST 1048576: true; the input reads as it did. -/
def fnGeneralUptoRow : OpenClaim := { program := "ytdgkhimledcfbaa", sum := "3995c8cf4f06b7b0a1f96b5b472322fec1854702ddbcacfe885bb066dcf5ec98", func := "loop.example/g03210/laws.FnGeneral", spec := "fnGeneral", unfollowed := true, recurses := true, plainKeys := false, apart := false, narrowed := true }
def FnGeneralUptoSaid : Prop := fnGeneralUptoRow.holds Try.pinned (OpenSpec.upto fnGeneralSpec)

/-- 'laws.FnCanonical', WHERE WHAT IT READS IS OF BULK AT MOST 1048576: true; the input reads as it did. -/
def fnCanonicalUptoRow : OpenClaim := { program := "ytdgkhimledcfbaa", sum := "3995c8cf4f06b7b0a1f96b5b472322fec1854702ddbcacfe885bb066dcf5ec98", func := "loop.example/g03210/laws.FnCanonical", spec := "fnCanonical", unfollowed := true, recurses := true, plainKeys := false, apart := false, narrowed := true }
def FnCanonicalUptoSaid : Prop := fnCanonicalUptoRow.holds Try.pinned (OpenSpec.upto fnCanonicalSpec)

/-- 'laws.FnExactOrderedVars', WHERE WHAT IT READS IS OF BULK AT MOST 1048576: true; the input reads as it did. -/
def fnExactOrderedVarsUptoRow : OpenClaim := { program := "ytdgkhimledcfbaa", sum := "3995c8cf4f06b7b0a1f96b5b472322fec1854702ddbcacfe885bb066dcf5ec98", func := "loop.example/g03210/laws.FnExactOrderedVars", spec := "fnExactOrderedVars", unfollowed := true, recurses := true, loops := true, plainKeys := false, apart := false, narrowed := true }
def FnExactOrderedVarsUptoSaid : Prop := fnExactOrderedVarsUptoRow.holds Try.pinned (OpenSpec.upto fnExactOrderedVarsSpec)

/-- 'laws.FnExactVarBound', WHERE WHAT IT READS IS OF BULK AT MOST 1048576: true; the input reads as it did. -/
def fnExactVarBoundUptoRow : OpenClaim := { program := "ytdgkhimledcfbaa", sum := "3995c8cf4f06b7b0a1f96b5b472322fec1854702ddbcacfe885bb066dcf5ec98", func := "loop.example/g03210/laws.FnExactVarBound", spec := "fnExactVarBound", unfollowed := true, recurses := true, loops := true, plainKeys := false, apart := false, narrowed := true }
def FnExactVarBoundUptoSaid : Prop := fnExactVarBoundUptoRow.holds Try.pinned (OpenSpec.upto fnExactVarBoundSpec)

/-- 'laws.FnExactShiftTerm', WHERE WHAT IT READS IS OF BULK AT MOST 1048576: true; the input reads as it did. -/
def fnExactShiftTermUptoRow : OpenClaim := { program := "ytdgkhimledcfbaa", sum := "3995c8cf4f06b7b0a1f96b5b472322fec1854702ddbcacfe885bb066dcf5ec98", func := "loop.example/g03210/laws.FnExactShiftTerm", spec := "fnExactShiftTerm", unfollowed := true, recurses := true, loops := true, plainKeys := false, apart := false, narrowed := true }
def FnExactShiftTermUptoSaid : Prop := fnExactShiftTermUptoRow.holds Try.pinned (OpenSpec.upto fnExactShiftTermSpec)

/-- 'laws.FnExactCanonical', WHERE WHAT IT READS IS OF BULK AT MOST 1048576: true; the input reads as it did. -/
def fnExactCanonicalUptoRow : OpenClaim := { program := "ytdgkhimledcfbaa", sum := "3995c8cf4f06b7b0a1f96b5b472322fec1854702ddbcacfe885bb066dcf5ec98", func := "loop.example/g03210/laws.FnExactCanonical", spec := "fnExactCanonical", unfollowed := true, recurses := true, loops := true, plainKeys := false, apart := false, narrowed := true }
def FnExactCanonicalUptoSaid : Prop := fnExactCanonicalUptoRow.holds Try.pinned (OpenSpec.upto fnExactCanonicalSpec)

/-- 'laws.FnExactReify', WHERE WHAT IT READS IS OF BULK AT MOST 1048576: true; the input reads as it did. -/
def fnExactReifyUptoRow : OpenClaim := { program := "ytdgkhimledcfbaa", sum := "3995c8cf4f06b7b0a1f96b5b472322fec1854702ddbcacfe885bb066dcf5ec98", func := "loop.example/g03210/laws.FnExactReify", spec := "fnExactReify", unfollowed := true, recurses := true, loops := true, plainKeys := false, apart := false, narrowed := true }
def FnExactReifyUptoSaid : Prop := fnExactReifyUptoRow.holds Try.pinned (OpenSpec.upto fnExactReifySpec)

end Rows
end Go.Proofs.Ytdgkhimledcfbaa
