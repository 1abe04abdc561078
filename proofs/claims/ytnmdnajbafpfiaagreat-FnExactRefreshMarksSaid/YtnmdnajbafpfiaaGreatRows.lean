/-
  NARROWER THAN 'FOR EVERY INPUT', by the rows' own cells (each row's printed sentence says how): FnExactAddKind: loops · FnExactRefreshKinds: loops · FnExactAddAbsence: loops · FnExactRefreshMarks: loops.
  DERIVED. THE GIVEN ROWS OF THIS SEAT. 4 by the template 'for every input the law returns true; each argument reads behind the call as it read before'; 0 by the template 'total and deterministic' (their statements: YtnmdnajbafpfiaaGreatTotals.lean).
  GIVEN WITH THE SEED: the statements are not yours to turn. If you find one false, say at which input.
  Laid BY PROGRAM, IN A SANDBOX (cutbox-rows.mjs): the forced cells as the released guide's own fill.sh prints them over the translation d2722549ef37b2b6… (all of the seat's roots in one cut). By AI agents, Wed Nov 11 2026. No macro, syntax, notation, axiom, sorry.
-/
import Derived.Test.YtnmdnajbafpfiaaGreatChecked
import GoSem.Claim
import GoSem.ClaimJoined
import GoSem.ClaimMapViews
import Derived.JoinedTies
import Derived.KernelRfl
namespace Go.Proofs.YtnmdnajbafpfiaaGreat
/- THE CELL 'sum', in the pinned program and in every row, IS THE sha256 OF THE DUMP (.gsa) THAT YtnmdnajbafpfiaaGreatProg.lean LOADS. Nothing in Lean hashes anything: it is a label: what it is worth is what the hold of that sum in a sandbox is worth. -/
noncomputable def Tryz.pinned : Pinned := { name := "ytnmdnajbafpfiaagreat", sum := "d2722549ef37b2b623e37845da73a13e224dc144b2cff3b9b55bd93cf7b29500", checked := Tryz.checked }
namespace Rows
def none {H : Type} : Left H := { results := [], args := [] }

/-- 'laws.FnExactAddKind': WHATEVER THE INPUT: true; the input reads as it did. -/
def fnExactAddKindSpec : ChangeSpec := { name := "fnExactAddKind", fn := fun _ => fun
  | [d1, d2, d3, d4] => { results := [.lit (.bool true)], args := [d1, d2, d3, d4] }
  | _ => none }
def fnExactAddKindRow : OpenClaim := { program := "ytnmdnajbafpfiaagreat", sum := "d2722549ef37b2b623e37845da73a13e224dc144b2cff3b9b55bd93cf7b29500", func := "loop.example/g03210/laws.FnExactAddKind", spec := "fnExactAddKind", unfollowed := true, recurses := true, loops := true, apart := false }
def FnExactAddKindSaid : Prop := fnExactAddKindRow.holds Tryz.pinned (OpenSpec.ofChange fnExactAddKindSpec)

/-- ITS FALSE NEIGHBOUR: 'it returns false'. Refute it at one input. -/
def fnExactAddKindWrong : ChangeSpec := { name := "fnExactAddKind", fn := fun _ => fun
  | [d1, d2, d3, d4] => { results := [.lit (.bool false)], args := [d1, d2, d3, d4] }
  | _ => none }
def FnExactAddKindWrongFalsely : Prop := fnExactAddKindRow.holds Tryz.pinned (OpenSpec.ofChange fnExactAddKindWrong)

/-- 'laws.FnExactRefreshKinds': WHATEVER THE INPUT: true; the input reads as it did. -/
def fnExactRefreshKindsSpec : ChangeSpec := { name := "fnExactRefreshKinds", fn := fun _ => fun
  | [d1, d2] => { results := [.lit (.bool true)], args := [d1, d2] }
  | _ => none }
def fnExactRefreshKindsRow : OpenClaim := { program := "ytnmdnajbafpfiaagreat", sum := "d2722549ef37b2b623e37845da73a13e224dc144b2cff3b9b55bd93cf7b29500", func := "loop.example/g03210/laws.FnExactRefreshKinds", spec := "fnExactRefreshKinds", unfollowed := true, recurses := true, loops := true, apart := false }
def FnExactRefreshKindsSaid : Prop := fnExactRefreshKindsRow.holds Tryz.pinned (OpenSpec.ofChange fnExactRefreshKindsSpec)

/-- ITS FALSE NEIGHBOUR: 'it returns false'. Refute it at one input. -/
def fnExactRefreshKindsWrong : ChangeSpec := { name := "fnExactRefreshKinds", fn := fun _ => fun
  | [d1, d2] => { results := [.lit (.bool false)], args := [d1, d2] }
  | _ => none }
def FnExactRefreshKindsWrongFalsely : Prop := fnExactRefreshKindsRow.holds Tryz.pinned (OpenSpec.ofChange fnExactRefreshKindsWrong)

/-- 'laws.FnExactAddAbsence': WHATEVER THE INPUT: true; the input reads as it did. -/
def fnExactAddAbsenceSpec : ChangeSpec := { name := "fnExactAddAbsence", fn := fun _ => fun
  | [d1, d2, d3, d4] => { results := [.lit (.bool true)], args := [d1, d2, d3, d4] }
  | _ => none }
def fnExactAddAbsenceRow : OpenClaim := { program := "ytnmdnajbafpfiaagreat", sum := "d2722549ef37b2b623e37845da73a13e224dc144b2cff3b9b55bd93cf7b29500", func := "loop.example/g03210/laws.FnExactAddAbsence", spec := "fnExactAddAbsence", unfollowed := true, recurses := true, loops := true, apart := false }
def FnExactAddAbsenceSaid : Prop := fnExactAddAbsenceRow.holds Tryz.pinned (OpenSpec.ofChange fnExactAddAbsenceSpec)

/-- ITS FALSE NEIGHBOUR: 'it returns false'. Refute it at one input. -/
def fnExactAddAbsenceWrong : ChangeSpec := { name := "fnExactAddAbsence", fn := fun _ => fun
  | [d1, d2, d3, d4] => { results := [.lit (.bool false)], args := [d1, d2, d3, d4] }
  | _ => none }
def FnExactAddAbsenceWrongFalsely : Prop := fnExactAddAbsenceRow.holds Tryz.pinned (OpenSpec.ofChange fnExactAddAbsenceWrong)

/-- 'laws.FnExactRefreshMarks': WHATEVER THE INPUT: true; the input reads as it did. -/
def fnExactRefreshMarksSpec : ChangeSpec := { name := "fnExactRefreshMarks", fn := fun _ => fun
  | [d1, d2] => { results := [.lit (.bool true)], args := [d1, d2] }
  | _ => none }
def fnExactRefreshMarksRow : OpenClaim := { program := "ytnmdnajbafpfiaagreat", sum := "d2722549ef37b2b623e37845da73a13e224dc144b2cff3b9b55bd93cf7b29500", func := "loop.example/g03210/laws.FnExactRefreshMarks", spec := "fnExactRefreshMarks", unfollowed := true, recurses := true, loops := true, apart := false }
def FnExactRefreshMarksSaid : Prop := fnExactRefreshMarksRow.holds Tryz.pinned (OpenSpec.ofChange fnExactRefreshMarksSpec)

/-- ITS FALSE NEIGHBOUR: 'it returns false'. Refute it at one input. -/
def fnExactRefreshMarksWrong : ChangeSpec := { name := "fnExactRefreshMarks", fn := fun _ => fun
  | [d1, d2] => { results := [.lit (.bool false)], args := [d1, d2] }
  | _ => none }
def FnExactRefreshMarksWrongFalsely : Prop := fnExactRefreshMarksRow.holds Tryz.pinned (OpenSpec.ofChange fnExactRefreshMarksWrong)

/- THE SECOND FORM. 'bulk': how many values and letters a reading holds, each counted each time it is reached (what is shared counts as often as it is met; a slice's spare places count too). A statement '..UptoSaid' is the law's where the arguments, and the package variables that the reading takes, are together of bulk at most 1048576: NARROWER than '..Said'. Prove '..Said' where nothing that the law and all that it calls make is longer than what came in: it says more and counts as full. Else prove '..UptoSaid'. A law counts once. -/
mutual
def uptoBulk {H : Type} : DataW H → Nat
  | .lit (.string bytes) => bytes.length + 1
  | .lit _ => 1
  | .nil => 1
  | .ptr d => uptoBulk d + 1
  | .slice elems spare => uptoBulkAll elems + uptoBulkAll spare + 1
  | .agg parts => uptoBulkAll parts + 1
  | .iface _ d => uptoBulk d + 1
  | .map entries => uptoBulkEntries entries + 1
  | .held _ => 1
def uptoBulkAll {H : Type} : List (DataW H) → Nat
  | [] => 0
  | d :: r => uptoBulk d + uptoBulkAll r
def uptoBulkEntries {H : Type} : List (Lit × DataW H) → Nat
  | [] => 0
  | x :: r => uptoBulkEntry x + uptoBulkEntries r
def uptoBulkEntry {H : Type} : Lit × DataW H → Nat
  | (.string bytes, d) => bytes.length + uptoBulk d + 1
  | (_, d) => uptoBulk d + 1
 end
def uptoSmall : (H : Type) → List (DataW H) → Bool := fun _ ds => decide (uptoBulkAll ds ≤ 1048576)
def OpenSpec.upto (s : _root_.Go.ChangeSpec) : _root_.Go.OpenSpec := { _root_.Go.OpenSpec.ofChange s with cond := some uptoSmall }

/-- 'laws.FnExactAddKind', WHERE WHAT IT READS IS OF BULK AT MOST 1048576: true; the input reads as it did. -/
def fnExactAddKindUptoRow : OpenClaim := { program := "ytnmdnajbafpfiaagreat", sum := "d2722549ef37b2b623e37845da73a13e224dc144b2cff3b9b55bd93cf7b29500", func := "loop.example/g03210/laws.FnExactAddKind", spec := "fnExactAddKind", unfollowed := true, recurses := true, loops := true, apart := false, narrowed := true }
def FnExactAddKindUptoSaid : Prop := fnExactAddKindUptoRow.holds Tryz.pinned (OpenSpec.upto fnExactAddKindSpec)

/-- 'laws.FnExactRefreshKinds', WHERE WHAT IT READS IS OF BULK AT MOST 1048576: true; the input reads as it did. -/
def fnExactRefreshKindsUptoRow : OpenClaim := { program := "ytnmdnajbafpfiaagreat", sum := "d2722549ef37b2b623e37845da73a13e224dc144b2cff3b9b55bd93cf7b29500", func := "loop.example/g03210/laws.FnExactRefreshKinds", spec := "fnExactRefreshKinds", unfollowed := true, recurses := true, loops := true, apart := false, narrowed := true }
def FnExactRefreshKindsUptoSaid : Prop := fnExactRefreshKindsUptoRow.holds Tryz.pinned (OpenSpec.upto fnExactRefreshKindsSpec)

/-- 'laws.FnExactAddAbsence', WHERE WHAT IT READS IS OF BULK AT MOST 1048576: true; the input reads as it did. -/
def fnExactAddAbsenceUptoRow : OpenClaim := { program := "ytnmdnajbafpfiaagreat", sum := "d2722549ef37b2b623e37845da73a13e224dc144b2cff3b9b55bd93cf7b29500", func := "loop.example/g03210/laws.FnExactAddAbsence", spec := "fnExactAddAbsence", unfollowed := true, recurses := true, loops := true, apart := false, narrowed := true }
def FnExactAddAbsenceUptoSaid : Prop := fnExactAddAbsenceUptoRow.holds Tryz.pinned (OpenSpec.upto fnExactAddAbsenceSpec)

/-- 'laws.FnExactRefreshMarks', WHERE WHAT IT READS IS OF BULK AT MOST 1048576: true; the input reads as it did. -/
def fnExactRefreshMarksUptoRow : OpenClaim := { program := "ytnmdnajbafpfiaagreat", sum := "d2722549ef37b2b623e37845da73a13e224dc144b2cff3b9b55bd93cf7b29500", func := "loop.example/g03210/laws.FnExactRefreshMarks", spec := "fnExactRefreshMarks", unfollowed := true, recurses := true, loops := true, apart := false, narrowed := true }
def FnExactRefreshMarksUptoSaid : Prop := fnExactRefreshMarksUptoRow.holds Tryz.pinned (OpenSpec.upto fnExactRefreshMarksSpec)

end Rows
end Go.Proofs.YtnmdnajbafpfiaaGreat
