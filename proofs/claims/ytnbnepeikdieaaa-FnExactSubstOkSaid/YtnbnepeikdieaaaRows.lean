/-
  NARROWER THAN 'FOR EVERY INPUT', by the rows' own cells (each row's printed sentence says how): FnExactSubstOk: loops · FnExactLookup: loops · FnExactApplySubst: loops · FnExactRestrictSubst: loops · FnExactComposeSubst: loops · FnExactMoreGeneral: loops · FnExactIsUnifier: loops.
  DERIVED. THE GIVEN ROWS OF THIS SEAT. 7 by the template 'for every input the law returns true; each argument reads behind the call as it read before'; 0 by the template 'total and deterministic' (their statements: YtnbnepeikdieaaaTotals.lean).
  GIVEN WITH THE SEED: the statements are not yours to turn. If you find one false, say at which input.
  Laid BY PROGRAM, IN A SANDBOX (cutbox-rows.mjs): the forced cells as the released guide's own fill.sh prints them over the translation d118f5de5cd1d187… (all of the seat's roots in one cut). By AI agents, Wed Nov 11 2026. No macro, syntax, notation, axiom, sorry.
-/
import Derived.Test.YtnbnepeikdieaaaChecked
import GoSem.Claim
import GoSem.ClaimJoined
import GoSem.ClaimMapViews
import Derived.JoinedTies
import Derived.KernelRfl
namespace Go.Proofs.Ytnbnepeikdieaaa
/- THE CELL 'sum', in the pinned program and in every row, IS THE sha256 OF THE DUMP (.gsa) THAT YtnbnepeikdieaaaProg.lean LOADS. Nothing in Lean hashes anything: it is a label: what it is worth is what the hold of that sum in a sandbox is worth. -/
noncomputable def Try.pinned : Pinned := { name := "ytnbnepeikdieaaa", sum := "d118f5de5cd1d1873e7cef6024658fda21300212270477d2b47af3aa27ef1af1", checked := Try.checked }
namespace Rows
def none {H : Type} : Left H := { results := [], args := [] }

/-- 'laws.FnExactSubstOk': WHATEVER THE INPUT: true; the input reads as it did. -/
def fnExactSubstOkSpec : ChangeSpec := { name := "fnExactSubstOk", fn := fun _ => fun
  | [d] => { results := [.lit (.bool true)], args := [d] }
  | _ => none }
def fnExactSubstOkRow : OpenClaim := { program := "ytnbnepeikdieaaa", sum := "d118f5de5cd1d1873e7cef6024658fda21300212270477d2b47af3aa27ef1af1", func := "loop.example/g03210/laws.FnExactSubstOk", spec := "fnExactSubstOk", unfollowed := true, recurses := true, loops := true, apart := false }
def FnExactSubstOkSaid : Prop := fnExactSubstOkRow.holds Try.pinned (OpenSpec.ofChange fnExactSubstOkSpec)

/-- ITS FALSE NEIGHBOUR: 'it returns false'. Refute it at one input. -/
def fnExactSubstOkWrong : ChangeSpec := { name := "fnExactSubstOk", fn := fun _ => fun
  | [d] => { results := [.lit (.bool false)], args := [d] }
  | _ => none }
def FnExactSubstOkWrongFalsely : Prop := fnExactSubstOkRow.holds Try.pinned (OpenSpec.ofChange fnExactSubstOkWrong)

/-- 'laws.FnExactLookup': WHATEVER THE INPUT: true; the input reads as it did. -/
def fnExactLookupSpec : ChangeSpec := { name := "fnExactLookup", fn := fun _ => fun
  | [d1, d2] => { results := [.lit (.bool true)], args := [d1, d2] }
  | _ => none }
def fnExactLookupRow : OpenClaim := { program := "ytnbnepeikdieaaa", sum := "d118f5de5cd1d1873e7cef6024658fda21300212270477d2b47af3aa27ef1af1", func := "loop.example/g03210/laws.FnExactLookup", spec := "fnExactLookup", unfollowed := true, recurses := true, loops := true, apart := false }
def FnExactLookupSaid : Prop := fnExactLookupRow.holds Try.pinned (OpenSpec.ofChange fnExactLookupSpec)

/-- ITS FALSE NEIGHBOUR: 'it returns false'. Refute it at one input. -/
def fnExactLookupWrong : ChangeSpec := { name := "fnExactLookup", fn := fun _ => fun
  | [d1, d2] => { results := [.lit (.bool false)], args := [d1, d2] }
  | _ => none }
def FnExactLookupWrongFalsely : Prop := fnExactLookupRow.holds Try.pinned (OpenSpec.ofChange fnExactLookupWrong)

/-- 'laws.FnExactApplySubst': WHATEVER THE INPUT: true; the input reads as it did. -/
def fnExactApplySubstSpec : ChangeSpec := { name := "fnExactApplySubst", fn := fun _ => fun
  | [d1, d2] => { results := [.lit (.bool true)], args := [d1, d2] }
  | _ => none }
def fnExactApplySubstRow : OpenClaim := { program := "ytnbnepeikdieaaa", sum := "d118f5de5cd1d1873e7cef6024658fda21300212270477d2b47af3aa27ef1af1", func := "loop.example/g03210/laws.FnExactApplySubst", spec := "fnExactApplySubst", unfollowed := true, recurses := true, loops := true, apart := false }
def FnExactApplySubstSaid : Prop := fnExactApplySubstRow.holds Try.pinned (OpenSpec.ofChange fnExactApplySubstSpec)

/-- ITS FALSE NEIGHBOUR: 'it returns false'. Refute it at one input. -/
def fnExactApplySubstWrong : ChangeSpec := { name := "fnExactApplySubst", fn := fun _ => fun
  | [d1, d2] => { results := [.lit (.bool false)], args := [d1, d2] }
  | _ => none }
def FnExactApplySubstWrongFalsely : Prop := fnExactApplySubstRow.holds Try.pinned (OpenSpec.ofChange fnExactApplySubstWrong)

/-- 'laws.FnExactRestrictSubst': WHATEVER THE INPUT: true; the input reads as it did. -/
def fnExactRestrictSubstSpec : ChangeSpec := { name := "fnExactRestrictSubst", fn := fun _ => fun
  | [d1, d2] => { results := [.lit (.bool true)], args := [d1, d2] }
  | _ => none }
def fnExactRestrictSubstRow : OpenClaim := { program := "ytnbnepeikdieaaa", sum := "d118f5de5cd1d1873e7cef6024658fda21300212270477d2b47af3aa27ef1af1", func := "loop.example/g03210/laws.FnExactRestrictSubst", spec := "fnExactRestrictSubst", unfollowed := true, recurses := true, loops := true, apart := false }
def FnExactRestrictSubstSaid : Prop := fnExactRestrictSubstRow.holds Try.pinned (OpenSpec.ofChange fnExactRestrictSubstSpec)

/-- ITS FALSE NEIGHBOUR: 'it returns false'. Refute it at one input. -/
def fnExactRestrictSubstWrong : ChangeSpec := { name := "fnExactRestrictSubst", fn := fun _ => fun
  | [d1, d2] => { results := [.lit (.bool false)], args := [d1, d2] }
  | _ => none }
def FnExactRestrictSubstWrongFalsely : Prop := fnExactRestrictSubstRow.holds Try.pinned (OpenSpec.ofChange fnExactRestrictSubstWrong)

/-- 'laws.FnExactComposeSubst': WHATEVER THE INPUT: true; the input reads as it did. -/
def fnExactComposeSubstSpec : ChangeSpec := { name := "fnExactComposeSubst", fn := fun _ => fun
  | [d1, d2] => { results := [.lit (.bool true)], args := [d1, d2] }
  | _ => none }
def fnExactComposeSubstRow : OpenClaim := { program := "ytnbnepeikdieaaa", sum := "d118f5de5cd1d1873e7cef6024658fda21300212270477d2b47af3aa27ef1af1", func := "loop.example/g03210/laws.FnExactComposeSubst", spec := "fnExactComposeSubst", unfollowed := true, recurses := true, loops := true, apart := false }
def FnExactComposeSubstSaid : Prop := fnExactComposeSubstRow.holds Try.pinned (OpenSpec.ofChange fnExactComposeSubstSpec)

/-- ITS FALSE NEIGHBOUR: 'it returns false'. Refute it at one input. -/
def fnExactComposeSubstWrong : ChangeSpec := { name := "fnExactComposeSubst", fn := fun _ => fun
  | [d1, d2] => { results := [.lit (.bool false)], args := [d1, d2] }
  | _ => none }
def FnExactComposeSubstWrongFalsely : Prop := fnExactComposeSubstRow.holds Try.pinned (OpenSpec.ofChange fnExactComposeSubstWrong)

/-- 'laws.FnExactMoreGeneral': WHATEVER THE INPUT: true; the input reads as it did. -/
def fnExactMoreGeneralSpec : ChangeSpec := { name := "fnExactMoreGeneral", fn := fun _ => fun
  | [d1, d2] => { results := [.lit (.bool true)], args := [d1, d2] }
  | _ => none }
def fnExactMoreGeneralRow : OpenClaim := { program := "ytnbnepeikdieaaa", sum := "d118f5de5cd1d1873e7cef6024658fda21300212270477d2b47af3aa27ef1af1", func := "loop.example/g03210/laws.FnExactMoreGeneral", spec := "fnExactMoreGeneral", unfollowed := true, recurses := true, loops := true, apart := false }
def FnExactMoreGeneralSaid : Prop := fnExactMoreGeneralRow.holds Try.pinned (OpenSpec.ofChange fnExactMoreGeneralSpec)

/-- ITS FALSE NEIGHBOUR: 'it returns false'. Refute it at one input. -/
def fnExactMoreGeneralWrong : ChangeSpec := { name := "fnExactMoreGeneral", fn := fun _ => fun
  | [d1, d2] => { results := [.lit (.bool false)], args := [d1, d2] }
  | _ => none }
def FnExactMoreGeneralWrongFalsely : Prop := fnExactMoreGeneralRow.holds Try.pinned (OpenSpec.ofChange fnExactMoreGeneralWrong)

/-- 'laws.FnExactIsUnifier': WHATEVER THE INPUT: true; the input reads as it did. -/
def fnExactIsUnifierSpec : ChangeSpec := { name := "fnExactIsUnifier", fn := fun _ => fun
  | [d1, d2, d3] => { results := [.lit (.bool true)], args := [d1, d2, d3] }
  | _ => none }
def fnExactIsUnifierRow : OpenClaim := { program := "ytnbnepeikdieaaa", sum := "d118f5de5cd1d1873e7cef6024658fda21300212270477d2b47af3aa27ef1af1", func := "loop.example/g03210/laws.FnExactIsUnifier", spec := "fnExactIsUnifier", unfollowed := true, recurses := true, loops := true, apart := false }
def FnExactIsUnifierSaid : Prop := fnExactIsUnifierRow.holds Try.pinned (OpenSpec.ofChange fnExactIsUnifierSpec)

/-- ITS FALSE NEIGHBOUR: 'it returns false'. Refute it at one input. -/
def fnExactIsUnifierWrong : ChangeSpec := { name := "fnExactIsUnifier", fn := fun _ => fun
  | [d1, d2, d3] => { results := [.lit (.bool false)], args := [d1, d2, d3] }
  | _ => none }
def FnExactIsUnifierWrongFalsely : Prop := fnExactIsUnifierRow.holds Try.pinned (OpenSpec.ofChange fnExactIsUnifierWrong)

/- THE SECOND FORM. 'bulk': how many values and letters a reading holds, each counted each time it is reached (what is shared counts as often as it is met; a slice's spare places count too). A statement '..UptoSaid' is the law's where the arguments, and the package variables that the reading takes, are together of bulk at most 1048576: NARROWER than '..Said'. Prove '..Said' where nothing that the law and all that it calls make is longer than what came in: it says more and counts as full. Else prove '..UptoSaid'. A law counts once. -/
mutual
def uptoBulk {H : Type} : DataW H → Nat
  | .lit (.string bytes) => bytes.length + 1
  | .lit _ => 1
  | .nil => 1
  | .ptr d => uptoBulk d + 1
  | .slice elems spare => uptoBulkAll elems + uptoBulkAll spare + 1
  | .agg parts => uptoBulkAll parts + 1
  | .iface _ d => uptoBulk d + 1
  | .map entries => uptoBulkEntries entries + 1
  | .held _ => 1
def uptoBulkAll {H : Type} : List (DataW H) → Nat
  | [] => 0
  | d :: r => uptoBulk d + uptoBulkAll r
def uptoBulkEntries {H : Type} : List (Lit × DataW H) → Nat
  | [] => 0
  | x :: r => uptoBulkEntry x + uptoBulkEntries r
def uptoBulkEntry {H : Type} : Lit × DataW H → Nat
  | (.string bytes, d) => bytes.length + uptoBulk d + 1
  | (_, d) => uptoBulk d + 1
 end
def uptoSmall : (H : Type) → List (DataW H) → Bool := fun _ ds => decide (uptoBulkAll ds ≤ 1048576)
def OpenSpec.upto (s : _root_.Go.ChangeSpec) : _root_.Go.OpenSpec := { _root_.Go.OpenSpec.ofChange s with cond := some uptoSmall }

/-- 'laws.FnExactSubstOk', WHERE WHAT IT READS IS OF BULK AT MOST 1048576: true; the input reads as it did. -/
def fnExactSubstOkUptoRow : OpenClaim := { program := "ytnbnepeikdieaaa", sum := "d118f5de5cd1d1873e7cef6024658fda21300212270477d2b47af3aa27ef1af1", func := "loop.example/g03210/laws.FnExactSubstOk", spec := "fnExactSubstOk", unfollowed := true, recurses := true, loops := true, apart := false, narrowed := true }
def FnExactSubstOkUptoSaid : Prop := fnExactSubstOkUptoRow.holds Try.pinned (OpenSpec.upto fnExactSubstOkSpec)

/-- 'laws.FnExactLookup', WHERE WHAT IT READS IS OF BULK AT MOST 1048576: true; the input reads as it did. -/
def fnExactLookupUptoRow : OpenClaim := { program := "ytnbnepeikdieaaa", sum := "d118f5de5cd1d1873e7cef6024658fda21300212270477d2b47af3aa27ef1af1", func := "loop.example/g03210/laws.FnExactLookup", spec := "fnExactLookup", unfollowed := true, recurses := true, loops := true, apart := false, narrowed := true }
def FnExactLookupUptoSaid : Prop := fnExactLookupUptoRow.holds Try.pinned (OpenSpec.upto fnExactLookupSpec)

/-- 'laws.FnExactApplySubst', WHERE WHAT IT READS IS OF BULK AT MOST 1048576: true; the input reads as it did. -/
def fnExactApplySubstUptoRow : OpenClaim := { program := "ytnbnepeikdieaaa", sum := "d118f5de5cd1d1873e7cef6024658fda21300212270477d2b47af3aa27ef1af1", func := "loop.example/g03210/laws.FnExactApplySubst", spec := "fnExactApplySubst", unfollowed := true, recurses := true, loops := true, apart := false, narrowed := true }
def FnExactApplySubstUptoSaid : Prop := fnExactApplySubstUptoRow.holds Try.pinned (OpenSpec.upto fnExactApplySubstSpec)

/-- 'laws.FnExactRestrictSubst', WHERE WHAT IT READS IS OF BULK AT MOST 1048576: true; the input reads as it did. -/
def fnExactRestrictSubstUptoRow : OpenClaim := { program := "ytnbnepeikdieaaa", sum := "d118f5de5cd1d1873e7cef6024658fda21300212270477d2b47af3aa27ef1af1", func := "loop.example/g03210/laws.FnExactRestrictSubst", spec := "fnExactRestrictSubst", unfollowed := true, recurses := true, loops := true, apart := false, narrowed := true }
def FnExactRestrictSubstUptoSaid : Prop := fnExactRestrictSubstUptoRow.holds Try.pinned (OpenSpec.upto fnExactRestrictSubstSpec)

/-- 'laws.FnExactComposeSubst', WHERE WHAT IT READS IS OF BULK AT MOST 1048576: true; the input reads as it did. -/
def fnExactComposeSubstUptoRow : OpenClaim := { program := "ytnbnepeikdieaaa", sum := "d118f5de5cd1d1873e7cef6024658fda21300212270477d2b47af3aa27ef1af1", func := "loop.example/g03210/laws.FnExactComposeSubst", spec := "fnExactComposeSubst", unfollowed := true, recurses := true, loops := true, apart := false, narrowed := true }
def FnExactComposeSubstUptoSaid : Prop := fnExactComposeSubstUptoRow.holds Try.pinned (OpenSpec.upto fnExactComposeSubstSpec)

/-- 'laws.FnExactMoreGeneral', WHERE WHAT IT READS IS OF BULK AT MOST 1048576: true; the input reads as it did. -/
def fnExactMoreGeneralUptoRow : OpenClaim := { program := "ytnbnepeikdieaaa", sum := "d118f5de5cd1d1873e7cef6024658fda21300212270477d2b47af3aa27ef1af1", func := "loop.example/g03210/laws.FnExactMoreGeneral", spec := "fnExactMoreGeneral", unfollowed := true, recurses := true, loops := true, apart := false, narrowed := true }
def FnExactMoreGeneralUptoSaid : Prop := fnExactMoreGeneralUptoRow.holds Try.pinned (OpenSpec.upto fnExactMoreGeneralSpec)

/-- 'laws.FnExactIsUnifier', WHERE WHAT IT READS IS OF BULK AT MOST 1048576: true; the input reads as it did. -/
def fnExactIsUnifierUptoRow : OpenClaim := { program := "ytnbnepeikdieaaa", sum := "d118f5de5cd1d1873e7cef6024658fda21300212270477d2b47af3aa27ef1af1", func := "loop.example/g03210/laws.FnExactIsUnifier", spec := "fnExactIsUnifier", unfollowed := true, recurses := true, loops := true, apart := false, narrowed := true }
def FnExactIsUnifierUptoSaid : Prop := fnExactIsUnifierUptoRow.holds Try.pinned (OpenSpec.upto fnExactIsUnifierSpec)

end Rows
end Go.Proofs.Ytnbnepeikdieaaa
