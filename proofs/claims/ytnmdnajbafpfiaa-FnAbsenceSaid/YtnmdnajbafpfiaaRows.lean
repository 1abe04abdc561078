/-
  NARROWER THAN 'FOR EVERY INPUT', by the rows' own cells (each row's printed sentence says how): FnExactContainsSymbol: loops.
  DERIVED. THE GIVEN ROWS OF THIS SEAT. 5 by the template 'for every input the law returns true; each argument reads behind the call as it read before'; 0 by the template 'total and deterministic' (their statements: YtnmdnajbafpfiaaTotals.lean).
  GIVEN WITH THE SEED: the statements are not yours to turn. If you find one false, say at which input.
  Laid BY PROGRAM, IN A SANDBOX (cutbox-rows.mjs): the forced cells as the released guide's own fill.sh prints them over the translation 50d5758db1587eca… (all of the seat's roots in one cut). By AI agents, Wed Nov 11 2026. No macro, syntax, notation, axiom, sorry.
-/
import Derived.Test.YtnmdnajbafpfiaaChecked
import GoSem.Claim
import GoSem.ClaimJoined
import GoSem.ClaimMapViews
import Derived.JoinedTies
import Derived.KernelRfl
namespace Go.Proofs.Ytnmdnajbafpfiaa
/- THE CELL 'sum', in the pinned program and in every row, IS THE sha256 OF THE DUMP (.gsa) THAT YtnmdnajbafpfiaaProg.lean LOADS. Nothing in Lean hashes anything: it is a label: what it is worth is what the hold of that sum in a sandbox is worth. -/
noncomputable def Try.pinned : Pinned := { name := "ytnmdnajbafpfiaa", sum := "50d5758db1587eca78ae3b9fe4a7cf42201557d5f8ccdaf6e96911aad725bd79", checked := Try.checked }
namespace Rows
def none {H : Type} : Left H := { results := [], args := [] }

/-- 'laws.FnKinds': WHATEVER THE INPUT: true; the input reads as it did. -/
def fnKindsSpec : ChangeSpec := { name := "fnKinds", fn := fun _ => fun
  | [d] => { results := [.lit (.bool true)], args := [d] }
  | _ => none }
def fnKindsRow : OpenClaim := { program := "ytnmdnajbafpfiaa", sum := "50d5758db1587eca78ae3b9fe4a7cf42201557d5f8ccdaf6e96911aad725bd79", func := "loop.example/g03210/laws.FnKinds", spec := "fnKinds", unfollowed := true, recurses := true, apart := false }
def FnKindsSaid : Prop := fnKindsRow.holds Try.pinned (OpenSpec.ofChange fnKindsSpec)

/-- ITS FALSE NEIGHBOUR: 'it returns false'. Refute it at one input. -/
def fnKindsWrong : ChangeSpec := { name := "fnKinds", fn := fun _ => fun
  | [d] => { results := [.lit (.bool false)], args := [d] }
  | _ => none }
def FnKindsWrongFalsely : Prop := fnKindsRow.holds Try.pinned (OpenSpec.ofChange fnKindsWrong)

/-- 'laws.FnAbsence': WHATEVER THE INPUT: true; the input reads as it did. -/
def fnAbsenceSpec : ChangeSpec := { name := "fnAbsence", fn := fun _ => fun
  | [d] => { results := [.lit (.bool true)], args := [d] }
  | _ => none }
def fnAbsenceRow : OpenClaim := { program := "ytnmdnajbafpfiaa", sum := "50d5758db1587eca78ae3b9fe4a7cf42201557d5f8ccdaf6e96911aad725bd79", func := "loop.example/g03210/laws.FnAbsence", spec := "fnAbsence", unfollowed := true, recurses := true, apart := false }
def FnAbsenceSaid : Prop := fnAbsenceRow.holds Try.pinned (OpenSpec.ofChange fnAbsenceSpec)

/-- ITS FALSE NEIGHBOUR: 'it returns false'. Refute it at one input. -/
def fnAbsenceWrong : ChangeSpec := { name := "fnAbsence", fn := fun _ => fun
  | [d] => { results := [.lit (.bool false)], args := [d] }
  | _ => none }
def FnAbsenceWrongFalsely : Prop := fnAbsenceRow.holds Try.pinned (OpenSpec.ofChange fnAbsenceWrong)

/-- 'laws.FnExactKindsOk': WHATEVER THE INPUT: true; the input reads as it did. -/
def fnExactKindsOkSpec : ChangeSpec := { name := "fnExactKindsOk", fn := fun _ => fun
  | [d] => { results := [.lit (.bool true)], args := [d] }
  | _ => none }
def fnExactKindsOkRow : OpenClaim := { program := "ytnmdnajbafpfiaa", sum := "50d5758db1587eca78ae3b9fe4a7cf42201557d5f8ccdaf6e96911aad725bd79", func := "loop.example/g03210/laws.FnExactKindsOk", spec := "fnExactKindsOk", unfollowed := true, recurses := true, apart := false }
def FnExactKindsOkSaid : Prop := fnExactKindsOkRow.holds Try.pinned (OpenSpec.ofChange fnExactKindsOkSpec)

/-- ITS FALSE NEIGHBOUR: 'it returns false'. Refute it at one input. -/
def fnExactKindsOkWrong : ChangeSpec := { name := "fnExactKindsOk", fn := fun _ => fun
  | [d] => { results := [.lit (.bool false)], args := [d] }
  | _ => none }
def FnExactKindsOkWrongFalsely : Prop := fnExactKindsOkRow.holds Try.pinned (OpenSpec.ofChange fnExactKindsOkWrong)

/-- 'laws.FnExactMarksOk': WHATEVER THE INPUT: true; the input reads as it did. -/
def fnExactMarksOkSpec : ChangeSpec := { name := "fnExactMarksOk", fn := fun _ => fun
  | [d] => { results := [.lit (.bool true)], args := [d] }
  | _ => none }
def fnExactMarksOkRow : OpenClaim := { program := "ytnmdnajbafpfiaa", sum := "50d5758db1587eca78ae3b9fe4a7cf42201557d5f8ccdaf6e96911aad725bd79", func := "loop.example/g03210/laws.FnExactMarksOk", spec := "fnExactMarksOk", unfollowed := true, recurses := true, apart := false }
def FnExactMarksOkSaid : Prop := fnExactMarksOkRow.holds Try.pinned (OpenSpec.ofChange fnExactMarksOkSpec)

/-- ITS FALSE NEIGHBOUR: 'it returns false'. Refute it at one input. -/
def fnExactMarksOkWrong : ChangeSpec := { name := "fnExactMarksOk", fn := fun _ => fun
  | [d] => { results := [.lit (.bool false)], args := [d] }
  | _ => none }
def FnExactMarksOkWrongFalsely : Prop := fnExactMarksOkRow.holds Try.pinned (OpenSpec.ofChange fnExactMarksOkWrong)

/-- 'laws.FnExactContainsSymbol': WHATEVER THE INPUT: true; the input reads as it did. -/
def fnExactContainsSymbolSpec : ChangeSpec := { name := "fnExactContainsSymbol", fn := fun _ => fun
  | [d1, d2] => { results := [.lit (.bool true)], args := [d1, d2] }
  | _ => none }
def fnExactContainsSymbolRow : OpenClaim := { program := "ytnmdnajbafpfiaa", sum := "50d5758db1587eca78ae3b9fe4a7cf42201557d5f8ccdaf6e96911aad725bd79", func := "loop.example/g03210/laws.FnExactContainsSymbol", spec := "fnExactContainsSymbol", recurses := true, loops := true, apart := false }
def FnExactContainsSymbolSaid : Prop := fnExactContainsSymbolRow.holds Try.pinned (OpenSpec.ofChange fnExactContainsSymbolSpec)

/-- ITS FALSE NEIGHBOUR: 'it returns false'. Refute it at one input. -/
def fnExactContainsSymbolWrong : ChangeSpec := { name := "fnExactContainsSymbol", fn := fun _ => fun
  | [d1, d2] => { results := [.lit (.bool false)], args := [d1, d2] }
  | _ => none }
def FnExactContainsSymbolWrongFalsely : Prop := fnExactContainsSymbolRow.holds Try.pinned (OpenSpec.ofChange fnExactContainsSymbolWrong)

/- THE SECOND FORM. 'bulk': how many values and letters a reading holds, each counted each time it is reached (what is shared counts as often as it is met; a slice's spare places count too). A statement '..UptoSaid' is the law's where the arguments, and the package variables that the reading takes, are together of bulk at most 1048576: NARROWER than '..Said'. Prove '..Said' where nothing that the law and all that it calls make is longer than what came in: it says more and counts as full. Else prove '..UptoSaid'. A law counts once. -/
mutual
def uptoBulk {H : Type} : DataW H → Nat
  | .lit (.string bytes) => bytes.length + 1
  | .lit _ => 1
  | .nil => 1
  | .ptr d => uptoBulk d + 1
  | .slice elems spare => uptoBulkAll elems + uptoBulkAll spare + 1
  | .agg parts => uptoBulkAll parts + 1
  | .iface _ d => uptoBulk d + 1
  | .map entries => uptoBulkEntries entries + 1
  | .held _ => 1
def uptoBulkAll {H : Type} : List (DataW H) → Nat
  | [] => 0
  | d :: r => uptoBulk d + uptoBulkAll r
def uptoBulkEntries {H : Type} : List (Lit × DataW H) → Nat
  | [] => 0
  | x :: r => uptoBulkEntry x + uptoBulkEntries r
def uptoBulkEntry {H : Type} : Lit × DataW H → Nat
  | (.string bytes, d) => bytes.length + uptoBulk d + 1
  | (_, d) => uptoBulk d + 1
 end
def uptoSmall : (H : Type) → List (DataW H) → Bool := fun _ ds => decide (uptoBulkAll ds ≤ 1048576)
def OpenSpec.upto (s : _root_.Go.ChangeSpec) : _root_.Go.OpenSpec := { _root_.Go.OpenSpec.ofChange s with cond := some uptoSmall }

/-- 'laws.FnKinds', WHERE WHAT IT READS IS OF BULK AT MOST 1048576: true; the input reads as it did. -/
def fnKindsUptoRow : OpenClaim := { program := "ytnmdnajbafpfiaa", sum := "50d5758db1587eca78ae3b9fe4a7cf42201557d5f8ccdaf6e96911aad725bd79", func := "loop.example/g03210/laws.FnKinds", spec := "fnKinds", unfollowed := true, recurses := true, apart := false, narrowed := true }
def FnKindsUptoSaid : Prop := fnKindsUptoRow.holds Try.pinned (OpenSpec.upto fnKindsSpec)

/-- 'laws.FnAbsence', WHERE WHAT IT READS IS OF BULK AT MOST 1048576: true; the input reads as it did. -/
def fnAbsenceUptoRow : OpenClaim := { program := "ytnmdnajbafpfiaa", sum := "50d5758db1587eca78ae3b9fe4a7cf42201557d5f8ccdaf6e96911aad725bd79", func := "loop.example/g03210/laws.FnAbsence", spec := "fnAbsence", unfollowed := true, recurses := true, apart := false, narrowed := true }
def FnAbsenceUptoSaid : Prop := fnAbsenceUptoRow.holds Try.pinned (OpenSpec.upto fnAbsenceSpec)

/-- 'laws.FnExactKindsOk', WHERE WHAT IT READS IS OF BULK AT MOST 1048576: true; the input reads as it did. -/
def fnExactKindsOkUptoRow : OpenClaim := { program := "ytnmdnajbafpfiaa", sum := "50d5758db1587eca78ae3b9fe4a7cf42201557d5f8ccdaf6e96911aad725bd79", func := "loop.example/g03210/laws.FnExactKindsOk", spec := "fnExactKindsOk", unfollowed := true, recurses := true, apart := false, narrowed := true }
def FnExactKindsOkUptoSaid : Prop := fnExactKindsOkUptoRow.holds Try.pinned (OpenSpec.upto fnExactKindsOkSpec)

/-- 'laws.FnExactMarksOk', WHERE WHAT IT READS IS OF BULK AT MOST 1048576: true; the input reads as it did. -/
def fnExactMarksOkUptoRow : OpenClaim := { program := "ytnmdnajbafpfiaa", sum := "50d5758db1587eca78ae3b9fe4a7cf42201557d5f8ccdaf6e96911aad725bd79", func := "loop.example/g03210/laws.FnExactMarksOk", spec := "fnExactMarksOk", unfollowed := true, recurses := true, apart := false, narrowed := true }
def FnExactMarksOkUptoSaid : Prop := fnExactMarksOkUptoRow.holds Try.pinned (OpenSpec.upto fnExactMarksOkSpec)

/-- 'laws.FnExactContainsSymbol', WHERE WHAT IT READS IS OF BULK AT MOST 1048576: true; the input reads as it did. -/
def fnExactContainsSymbolUptoRow : OpenClaim := { program := "ytnmdnajbafpfiaa", sum := "50d5758db1587eca78ae3b9fe4a7cf42201557d5f8ccdaf6e96911aad725bd79", func := "loop.example/g03210/laws.FnExactContainsSymbol", spec := "fnExactContainsSymbol", recurses := true, loops := true, apart := false, narrowed := true }
def FnExactContainsSymbolUptoSaid : Prop := fnExactContainsSymbolUptoRow.holds Try.pinned (OpenSpec.upto fnExactContainsSymbolSpec)

end Rows
end Go.Proofs.Ytnmdnajbafpfiaa
