/-
  NARROWER THAN 'FOR EVERY INPUT', by the rows' own cells (each row's printed sentence says how): FnExactSubtermsOf: loops · FnExactGroundInstances: loops · FnExactCompareDisequalities: loops · FnExactDisequalityHolds: loops.
  DERIVED. THE GIVEN ROWS OF THIS SEAT. 5 by the template 'for every input the law returns true; each argument reads behind the call as it read before'; 0 by the template 'total and deterministic' (their statements: YtjpkkhhcpcokaaaTotals.lean).
  GIVEN WITH THE SEED: the statements are not yours to turn. If you find one false, say at which input.
  Laid BY PROGRAM, IN A SANDBOX (cutbox-rows.mjs): the forced cells as the released guide's own fill.sh prints them over the translation 06425fcc588dbaf5… (all of the seat's roots in one cut). By AI agents, Wed Nov 11 2026. No macro, syntax, notation, axiom, sorry.
-/
import Derived.Test.YtjpkkhhcpcokaaaChecked
import GoSem.Claim
import GoSem.ClaimJoined
import GoSem.ClaimMapViews
import Derived.JoinedTies
import Derived.KernelRfl
namespace Go.Proofs.Ytjpkkhhcpcokaaa
/- THE CELL 'sum', in the pinned program and in every row, IS THE sha256 OF THE DUMP (.gsa) THAT YtjpkkhhcpcokaaaProg.lean LOADS. Nothing in Lean hashes anything: it is a label: what it is worth is what the hold of that sum in a sandbox is worth. -/
noncomputable def Try.pinned : Pinned := { name := "ytjpkkhhcpcokaaa", sum := "06425fcc588dbaf55ad6dac50fc181df86116116a7eabbe89c45cf4de9d73316", checked := Try.checked }
namespace Rows
def none {H : Type} : Left H := { results := [], args := [] }

/-- 'laws.FnMinimal': WHATEVER THE INPUT: true; the input reads as it did. -/
def fnMinimalSpec : ChangeSpec := { name := "fnMinimal", fn := fun _ => fun
  | [d] => { results := [.lit (.bool true)], args := [d] }
  | _ => none }
def fnMinimalRow : OpenClaim := { program := "ytjpkkhhcpcokaaa", sum := "06425fcc588dbaf55ad6dac50fc181df86116116a7eabbe89c45cf4de9d73316", func := "loop.example/g03210/laws.FnMinimal", spec := "fnMinimal", unfollowed := true, recurses := true, plainKeys := false, apart := false }
def FnMinimalSaid : Prop := fnMinimalRow.holds Try.pinned (OpenSpec.ofChange fnMinimalSpec)

/-- ITS FALSE NEIGHBOUR: 'it returns false'. Refute it at one input. -/
def fnMinimalWrong : ChangeSpec := { name := "fnMinimal", fn := fun _ => fun
  | [d] => { results := [.lit (.bool false)], args := [d] }
  | _ => none }
def FnMinimalWrongFalsely : Prop := fnMinimalRow.holds Try.pinned (OpenSpec.ofChange fnMinimalWrong)

/-- 'laws.FnExactSubtermsOf': WHATEVER THE INPUT: true; the input reads as it did. -/
def fnExactSubtermsOfSpec : ChangeSpec := { name := "fnExactSubtermsOf", fn := fun _ => fun
  | [d] => { results := [.lit (.bool true)], args := [d] }
  | _ => none }
def fnExactSubtermsOfRow : OpenClaim := { program := "ytjpkkhhcpcokaaa", sum := "06425fcc588dbaf55ad6dac50fc181df86116116a7eabbe89c45cf4de9d73316", func := "loop.example/g03210/laws.FnExactSubtermsOf", spec := "fnExactSubtermsOf", unfollowed := true, recurses := true, loops := true, plainKeys := false, apart := false }
def FnExactSubtermsOfSaid : Prop := fnExactSubtermsOfRow.holds Try.pinned (OpenSpec.ofChange fnExactSubtermsOfSpec)

/-- ITS FALSE NEIGHBOUR: 'it returns false'. Refute it at one input. -/
def fnExactSubtermsOfWrong : ChangeSpec := { name := "fnExactSubtermsOf", fn := fun _ => fun
  | [d] => { results := [.lit (.bool false)], args := [d] }
  | _ => none }
def FnExactSubtermsOfWrongFalsely : Prop := fnExactSubtermsOfRow.holds Try.pinned (OpenSpec.ofChange fnExactSubtermsOfWrong)

/-- 'laws.FnExactGroundInstances': WHATEVER THE INPUT: true; the input reads as it did. -/
def fnExactGroundInstancesSpec : ChangeSpec := { name := "fnExactGroundInstances", fn := fun _ => fun
  | [d1, d2] => { results := [.lit (.bool true)], args := [d1, d2] }
  | _ => none }
def fnExactGroundInstancesRow : OpenClaim := { program := "ytjpkkhhcpcokaaa", sum := "06425fcc588dbaf55ad6dac50fc181df86116116a7eabbe89c45cf4de9d73316", func := "loop.example/g03210/laws.FnExactGroundInstances", spec := "fnExactGroundInstances", unfollowed := true, recurses := true, loops := true, plainKeys := false, apart := false }
def FnExactGroundInstancesSaid : Prop := fnExactGroundInstancesRow.holds Try.pinned (OpenSpec.ofChange fnExactGroundInstancesSpec)

/-- ITS FALSE NEIGHBOUR: 'it returns false'. Refute it at one input. -/
def fnExactGroundInstancesWrong : ChangeSpec := { name := "fnExactGroundInstances", fn := fun _ => fun
  | [d1, d2] => { results := [.lit (.bool false)], args := [d1, d2] }
  | _ => none }
def FnExactGroundInstancesWrongFalsely : Prop := fnExactGroundInstancesRow.holds Try.pinned (OpenSpec.ofChange fnExactGroundInstancesWrong)

/-- 'laws.FnExactCompareDisequalities': WHATEVER THE INPUT: true; the input reads as it did. -/
def fnExactCompareDisequalitiesSpec : ChangeSpec := { name := "fnExactCompareDisequalities", fn := fun _ => fun
  | [d1, d2] => { results := [.lit (.bool true)], args := [d1, d2] }
  | _ => none }
def fnExactCompareDisequalitiesRow : OpenClaim := { program := "ytjpkkhhcpcokaaa", sum := "06425fcc588dbaf55ad6dac50fc181df86116116a7eabbe89c45cf4de9d73316", func := "loop.example/g03210/laws.FnExactCompareDisequalities", spec := "fnExactCompareDisequalities", unfollowed := true, recurses := true, loops := true, plainKeys := false, apart := false }
def FnExactCompareDisequalitiesSaid : Prop := fnExactCompareDisequalitiesRow.holds Try.pinned (OpenSpec.ofChange fnExactCompareDisequalitiesSpec)

/-- ITS FALSE NEIGHBOUR: 'it returns false'. Refute it at one input. -/
def fnExactCompareDisequalitiesWrong : ChangeSpec := { name := "fnExactCompareDisequalities", fn := fun _ => fun
  | [d1, d2] => { results := [.lit (.bool false)], args := [d1, d2] }
  | _ => none }
def FnExactCompareDisequalitiesWrongFalsely : Prop := fnExactCompareDisequalitiesRow.holds Try.pinned (OpenSpec.ofChange fnExactCompareDisequalitiesWrong)

/-- 'laws.FnExactDisequalityHolds': WHATEVER THE INPUT: true; the input reads as it did. -/
def fnExactDisequalityHoldsSpec : ChangeSpec := { name := "fnExactDisequalityHolds", fn := fun _ => fun
  | [d1, d2] => { results := [.lit (.bool true)], args := [d1, d2] }
  | _ => none }
def fnExactDisequalityHoldsRow : OpenClaim := { program := "ytjpkkhhcpcokaaa", sum := "06425fcc588dbaf55ad6dac50fc181df86116116a7eabbe89c45cf4de9d73316", func := "loop.example/g03210/laws.FnExactDisequalityHolds", spec := "fnExactDisequalityHolds", unfollowed := true, recurses := true, loops := true, plainKeys := false, apart := false }
def FnExactDisequalityHoldsSaid : Prop := fnExactDisequalityHoldsRow.holds Try.pinned (OpenSpec.ofChange fnExactDisequalityHoldsSpec)

/-- ITS FALSE NEIGHBOUR: 'it returns false'. Refute it at one input. -/
def fnExactDisequalityHoldsWrong : ChangeSpec := { name := "fnExactDisequalityHolds", fn := fun _ => fun
  | [d1, d2] => { results := [.lit (.bool false)], args := [d1, d2] }
  | _ => none }
def FnExactDisequalityHoldsWrongFalsely : Prop := fnExactDisequalityHoldsRow.holds Try.pinned (OpenSpec.ofChange fnExactDisequalityHoldsWrong)

/- THE SECOND FORM. 'bulk': how many values and letters a reading holds, each counted each time it is reached (what is shared counts as often as it is met; a slice's spare places count too). A statement '..UptoSaid' is the law's where the arguments, and the package variables that the reading takes, are together of bulk at most 1048576: NARROWER than '..Said'. Prove '..Said' where nothing that the law and all that it calls make is longer than what came in: it says more and counts as full. Else prove '..UptoSaid'. A law counts once. -/
mutual
def uptoBulk {H : Type} : DataW H → Nat
  | .lit (.string bytes) => bytes.length + 1
  | .lit _ => 1
  | .nil => 1
  | .ptr d => uptoBulk d + 1
  | .slice elems spare => uptoBulkAll elems + uptoBulkAll spare + 1
  | .agg parts => uptoBulkAll parts + 1
  | .iface _ d => uptoBulk d + 1
  | .map entries => uptoBulkEntries entries + 1
  | .held _ => 1
def uptoBulkAll {H : Type} : List (DataW H) → Nat
  | [] => 0
  | d :: r => uptoBulk d + uptoBulkAll r
def uptoBulkEntries {H : Type} : List (Lit × DataW H) → Nat
  | [] => 0
  | x :: r => uptoBulkEntry x + uptoBulkEntries r
def uptoBulkEntry {H : Type} : Lit × DataW H → Nat
  | (.string bytes, d) => bytes.length + uptoBulk d + 1
  | (_, d) => uptoBulk d + 1
 end
def uptoSmall : (H : Type) → List (DataW H) → Bool := fun _ ds => decide (uptoBulkAll ds ≤ 1048576)
def OpenSpec.upto (s : _root_.Go.ChangeSpec) : _root_.Go.OpenSpec := { _root_.Go.OpenSpec.ofChange s with cond := some uptoSmall }

/-- 'laws.FnMinimal', WHERE WHAT IT READS IS OF BULK AT MOST 1048576: true; the input reads as it did. -/
def fnMinimalUptoRow : OpenClaim := { program := "ytjpkkhhcpcokaaa", sum := "06425fcc588dbaf55ad6dac50fc181df86116116a7eabbe89c45cf4de9d73316", func := "loop.example/g03210/laws.FnMinimal", spec := "fnMinimal", unfollowed := true, recurses := true, plainKeys := false, apart := false, narrowed := true }
def FnMinimalUptoSaid : Prop := fnMinimalUptoRow.holds Try.pinned (OpenSpec.upto fnMinimalSpec)

/-- 'laws.FnExactSubtermsOf', WHERE WHAT IT READS IS OF BULK AT MOST 1048576: true; the input reads as it did. -/
def fnExactSubtermsOfUptoRow : OpenClaim := { program := "ytjpkkhhcpcokaaa", sum := "06425fcc588dbaf55ad6dac50fc181df86116116a7eabbe89c45cf4de9d73316", func := "loop.example/g03210/laws.FnExactSubtermsOf", spec := "fnExactSubtermsOf", unfollowed := true, recurses := true, loops := true, plainKeys := false, apart := false, narrowed := true }
def FnExactSubtermsOfUptoSaid : Prop := fnExactSubtermsOfUptoRow.holds Try.pinned (OpenSpec.upto fnExactSubtermsOfSpec)

/-- 'laws.FnExactGroundInstances', WHERE WHAT IT READS IS OF BULK AT MOST 1048576: true; the input reads as it did. -/
def fnExactGroundInstancesUptoRow : OpenClaim := { program := "ytjpkkhhcpcokaaa", sum := "06425fcc588dbaf55ad6dac50fc181df86116116a7eabbe89c45cf4de9d73316", func := "loop.example/g03210/laws.FnExactGroundInstances", spec := "fnExactGroundInstances", unfollowed := true, recurses := true, loops := true, plainKeys := false, apart := false, narrowed := true }
def FnExactGroundInstancesUptoSaid : Prop := fnExactGroundInstancesUptoRow.holds Try.pinned (OpenSpec.upto fnExactGroundInstancesSpec)

/-- 'laws.FnExactCompareDisequalities', WHERE WHAT IT READS IS OF BULK AT MOST 1048576: true; the input reads as it did. -/
def fnExactCompareDisequalitiesUptoRow : OpenClaim := { program := "ytjpkkhhcpcokaaa", sum := "06425fcc588dbaf55ad6dac50fc181df86116116a7eabbe89c45cf4de9d73316", func := "loop.example/g03210/laws.FnExactCompareDisequalities", spec := "fnExactCompareDisequalities", unfollowed := true, recurses := true, loops := true, plainKeys := false, apart := false, narrowed := true }
def FnExactCompareDisequalitiesUptoSaid : Prop := fnExactCompareDisequalitiesUptoRow.holds Try.pinned (OpenSpec.upto fnExactCompareDisequalitiesSpec)

/-- 'laws.FnExactDisequalityHolds', WHERE WHAT IT READS IS OF BULK AT MOST 1048576: true; the input reads as it did. -/
def fnExactDisequalityHoldsUptoRow : OpenClaim := { program := "ytjpkkhhcpcokaaa", sum := "06425fcc588dbaf55ad6dac50fc181df86116116a7eabbe89c45cf4de9d73316", func := "loop.example/g03210/laws.FnExactDisequalityHolds", spec := "fnExactDisequalityHolds", unfollowed := true, recurses := true, loops := true, plainKeys := false, apart := false, narrowed := true }
def FnExactDisequalityHoldsUptoSaid : Prop := fnExactDisequalityHoldsUptoRow.holds Try.pinned (OpenSpec.upto fnExactDisequalityHoldsSpec)

end Rows
end Go.Proofs.Ytjpkkhhcpcokaaa
