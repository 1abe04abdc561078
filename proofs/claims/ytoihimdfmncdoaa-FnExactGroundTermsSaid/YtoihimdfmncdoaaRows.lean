/-
  NARROWER THAN 'FOR EVERY INPUT', by the rows' own cells (each row's printed sentence says how): FnExactGeneralize: loops · FnExactIsGround: loops · FnExactUniverseOk: loops · FnExactSubtermsOf: loops · FnExactGroundTerms: loops · FnExactGroundInstances: loops.
  DERIVED. THE GIVEN ROWS OF THIS SEAT. 7 by the template 'for every input the law returns true; each argument reads behind the call as it read before'; 0 by the template 'total and deterministic' (their statements: YtoihimdfmncdoaaTotals.lean).
  GIVEN WITH THE SEED: the statements are not yours to turn. If you find one false, say at which input.
  Laid BY PROGRAM, IN A SANDBOX (cutbox-rows.mjs): the forced cells as the released guide's own fill.sh prints them over the translation eedd4dde74ee9488… (all of the seat's roots in one cut). By AI agents, Wed Nov 11 2026. No macro, syntax, notation, axiom, sorry.
-/
import Derived.Test.YtoihimdfmncdoaaChecked
import GoSem.Claim
import GoSem.ClaimJoined
import GoSem.ClaimMapViews
import Derived.JoinedTies
import Derived.KernelRfl
namespace Go.Proofs.Ytoihimdfmncdoaa
/- THE CELL 'sum', in the pinned program and in every row, IS THE sha256 OF THE DUMP (.gsa) THAT YtoihimdfmncdoaaProg.lean LOADS. Nothing in Lean hashes anything: it is a label: what it is worth is what the hold of that sum in a sandbox is worth. -/
noncomputable def Try.pinned : Pinned := { name := "ytoihimdfmncdoaa", sum := "eedd4dde74ee94887c077ed93f1c42247e0af55d3cfb3264d64f155d2a09a0e7", checked := Try.checked }
namespace Rows
def none {H : Type} : Left H := { results := [], args := [] }

/-- 'laws.FnGeneral': WHATEVER THE INPUT: true; the input reads as it did. -/
def fnGeneralSpec : ChangeSpec := { name := "fnGeneral", fn := fun _ => fun
  | [d] => { results := [.lit (.bool true)], args := [d] }
  | _ => none }
def fnGeneralRow : OpenClaim := { program := "ytoihimdfmncdoaa", sum := "eedd4dde74ee94887c077ed93f1c42247e0af55d3cfb3264d64f155d2a09a0e7", func := "loop.example/g03210/laws.FnGeneral", spec := "fnGeneral", unfollowed := true, recurses := true, plainKeys := false, apart := false }
def FnGeneralSaid : Prop := fnGeneralRow.holds Try.pinned (OpenSpec.ofChange fnGeneralSpec)

/-- ITS FALSE NEIGHBOUR: 'it returns false'. Refute it at one input. -/
def fnGeneralWrong : ChangeSpec := { name := "fnGeneral", fn := fun _ => fun
  | [d] => { results := [.lit (.bool false)], args := [d] }
  | _ => none }
def FnGeneralWrongFalsely : Prop := fnGeneralRow.holds Try.pinned (OpenSpec.ofChange fnGeneralWrong)

/-- 'laws.FnExactGeneralize': WHATEVER THE INPUT: true; the input reads as it did. -/
def fnExactGeneralizeSpec : ChangeSpec := { name := "fnExactGeneralize", fn := fun _ => fun
  | [d] => { results := [.lit (.bool true)], args := [d] }
  | _ => none }
def fnExactGeneralizeRow : OpenClaim := { program := "ytoihimdfmncdoaa", sum := "eedd4dde74ee94887c077ed93f1c42247e0af55d3cfb3264d64f155d2a09a0e7", func := "loop.example/g03210/laws.FnExactGeneralize", spec := "fnExactGeneralize", unfollowed := true, recurses := true, loops := true, plainKeys := false, apart := false }
def FnExactGeneralizeSaid : Prop := fnExactGeneralizeRow.holds Try.pinned (OpenSpec.ofChange fnExactGeneralizeSpec)

/-- ITS FALSE NEIGHBOUR: 'it returns false'. Refute it at one input. -/
def fnExactGeneralizeWrong : ChangeSpec := { name := "fnExactGeneralize", fn := fun _ => fun
  | [d] => { results := [.lit (.bool false)], args := [d] }
  | _ => none }
def FnExactGeneralizeWrongFalsely : Prop := fnExactGeneralizeRow.holds Try.pinned (OpenSpec.ofChange fnExactGeneralizeWrong)

/-- 'laws.FnExactIsGround': WHATEVER THE INPUT: true; the input reads as it did. -/
def fnExactIsGroundSpec : ChangeSpec := { name := "fnExactIsGround", fn := fun _ => fun
  | [d] => { results := [.lit (.bool true)], args := [d] }
  | _ => none }
def fnExactIsGroundRow : OpenClaim := { program := "ytoihimdfmncdoaa", sum := "eedd4dde74ee94887c077ed93f1c42247e0af55d3cfb3264d64f155d2a09a0e7", func := "loop.example/g03210/laws.FnExactIsGround", spec := "fnExactIsGround", recurses := true, loops := true, plainKeys := false, apart := false }
def FnExactIsGroundSaid : Prop := fnExactIsGroundRow.holds Try.pinned (OpenSpec.ofChange fnExactIsGroundSpec)

/-- ITS FALSE NEIGHBOUR: 'it returns false'. Refute it at one input. -/
def fnExactIsGroundWrong : ChangeSpec := { name := "fnExactIsGround", fn := fun _ => fun
  | [d] => { results := [.lit (.bool false)], args := [d] }
  | _ => none }
def FnExactIsGroundWrongFalsely : Prop := fnExactIsGroundRow.holds Try.pinned (OpenSpec.ofChange fnExactIsGroundWrong)

/-- 'laws.FnExactUniverseOk': WHATEVER THE INPUT: true; the input reads as it did. -/
def fnExactUniverseOkSpec : ChangeSpec := { name := "fnExactUniverseOk", fn := fun _ => fun
  | [d] => { results := [.lit (.bool true)], args := [d] }
  | _ => none }
def fnExactUniverseOkRow : OpenClaim := { program := "ytoihimdfmncdoaa", sum := "eedd4dde74ee94887c077ed93f1c42247e0af55d3cfb3264d64f155d2a09a0e7", func := "loop.example/g03210/laws.FnExactUniverseOk", spec := "fnExactUniverseOk", recurses := true, loops := true, plainKeys := false, apart := false }
def FnExactUniverseOkSaid : Prop := fnExactUniverseOkRow.holds Try.pinned (OpenSpec.ofChange fnExactUniverseOkSpec)

/-- ITS FALSE NEIGHBOUR: 'it returns false'. Refute it at one input. -/
def fnExactUniverseOkWrong : ChangeSpec := { name := "fnExactUniverseOk", fn := fun _ => fun
  | [d] => { results := [.lit (.bool false)], args := [d] }
  | _ => none }
def FnExactUniverseOkWrongFalsely : Prop := fnExactUniverseOkRow.holds Try.pinned (OpenSpec.ofChange fnExactUniverseOkWrong)

/-- 'laws.FnExactSubtermsOf': WHATEVER THE INPUT: true; the input reads as it did. -/
def fnExactSubtermsOfSpec : ChangeSpec := { name := "fnExactSubtermsOf", fn := fun _ => fun
  | [d] => { results := [.lit (.bool true)], args := [d] }
  | _ => none }
def fnExactSubtermsOfRow : OpenClaim := { program := "ytoihimdfmncdoaa", sum := "eedd4dde74ee94887c077ed93f1c42247e0af55d3cfb3264d64f155d2a09a0e7", func := "loop.example/g03210/laws.FnExactSubtermsOf", spec := "fnExactSubtermsOf", unfollowed := true, recurses := true, loops := true, plainKeys := false, apart := false }
def FnExactSubtermsOfSaid : Prop := fnExactSubtermsOfRow.holds Try.pinned (OpenSpec.ofChange fnExactSubtermsOfSpec)

/-- ITS FALSE NEIGHBOUR: 'it returns false'. Refute it at one input. -/
def fnExactSubtermsOfWrong : ChangeSpec := { name := "fnExactSubtermsOf", fn := fun _ => fun
  | [d] => { results := [.lit (.bool false)], args := [d] }
  | _ => none }
def FnExactSubtermsOfWrongFalsely : Prop := fnExactSubtermsOfRow.holds Try.pinned (OpenSpec.ofChange fnExactSubtermsOfWrong)

/-- 'laws.FnExactGroundTerms': WHATEVER THE INPUT: true; the input reads as it did. -/
def fnExactGroundTermsSpec : ChangeSpec := { name := "fnExactGroundTerms", fn := fun _ => fun
  | [d1, d2] => { results := [.lit (.bool true)], args := [d1, d2] }
  | _ => none }
def fnExactGroundTermsRow : OpenClaim := { program := "ytoihimdfmncdoaa", sum := "eedd4dde74ee94887c077ed93f1c42247e0af55d3cfb3264d64f155d2a09a0e7", func := "loop.example/g03210/laws.FnExactGroundTerms", spec := "fnExactGroundTerms", inPlace := ["slices.overlaps[loop.example/g03210/impl.Term]"], unfollowed := true, recurses := true, loops := true, plainKeys := false, apart := false }
def FnExactGroundTermsSaid : Prop := fnExactGroundTermsRow.holds Try.pinned (OpenSpec.ofChange fnExactGroundTermsSpec)

/-- ITS FALSE NEIGHBOUR: 'it returns false'. Refute it at one input. -/
def fnExactGroundTermsWrong : ChangeSpec := { name := "fnExactGroundTerms", fn := fun _ => fun
  | [d1, d2] => { results := [.lit (.bool false)], args := [d1, d2] }
  | _ => none }
def FnExactGroundTermsWrongFalsely : Prop := fnExactGroundTermsRow.holds Try.pinned (OpenSpec.ofChange fnExactGroundTermsWrong)

/-- 'laws.FnExactGroundInstances': WHATEVER THE INPUT: true; the input reads as it did. -/
def fnExactGroundInstancesSpec : ChangeSpec := { name := "fnExactGroundInstances", fn := fun _ => fun
  | [d1, d2] => { results := [.lit (.bool true)], args := [d1, d2] }
  | _ => none }
def fnExactGroundInstancesRow : OpenClaim := { program := "ytoihimdfmncdoaa", sum := "eedd4dde74ee94887c077ed93f1c42247e0af55d3cfb3264d64f155d2a09a0e7", func := "loop.example/g03210/laws.FnExactGroundInstances", spec := "fnExactGroundInstances", unfollowed := true, recurses := true, loops := true, plainKeys := false, apart := false }
def FnExactGroundInstancesSaid : Prop := fnExactGroundInstancesRow.holds Try.pinned (OpenSpec.ofChange fnExactGroundInstancesSpec)

/-- ITS FALSE NEIGHBOUR: 'it returns false'. Refute it at one input. -/
def fnExactGroundInstancesWrong : ChangeSpec := { name := "fnExactGroundInstances", fn := fun _ => fun
  | [d1, d2] => { results := [.lit (.bool false)], args := [d1, d2] }
  | _ => none }
def FnExactGroundInstancesWrongFalsely : Prop := fnExactGroundInstancesRow.holds Try.pinned (OpenSpec.ofChange fnExactGroundInstancesWrong)

/- THE SECOND FORM. 'bulk': how many values and letters a reading holds, each counted each time it is reached (what is shared counts as often as it is met; a slice's spare places count too). A statement '..UptoSaid' is the law's where the arguments, and the package variables that the reading takes, are together of bulk at most 1048576: NARROWER than '..Said'. Prove '..Said' where nothing that the law and all that it calls make is longer than what came in: it says more and counts as full. Else prove '..UptoSaid'. A law counts once. -/
mutual
def uptoBulk {H : Type} : DataW H → Nat
  | .lit (.string bytes) => bytes.length + 1
  | .lit _ => 1
  | .nil => 1
  | .ptr d => uptoBulk d + 1
  | .slice elems spare => uptoBulkAll elems + uptoBulkAll spare + 1
  | .agg parts => uptoBulkAll parts + 1
  | .iface _ d => uptoBulk d + 1
  | .map entries => uptoBulkEntries entries + 1
  | .held _ => 1
def uptoBulkAll {H : Type} : List (DataW H) → Nat
  | [] => 0
  | d :: r => uptoBulk d + uptoBulkAll r
def uptoBulkEntries {H : Type} : List (Lit × DataW H) → Nat
  | [] => 0
  | x :: r => uptoBulkEntry x + uptoBulkEntries r
def uptoBulkEntry {H : Type} : Lit × DataW H → Nat
  | (.string bytes, d) => bytes.length + uptoBulk d + 1
  | (_, d) => uptoBulk d + 1
 end
def uptoSmall : (H : Type) → List (DataW H) → Bool := fun _ ds => decide (uptoBulkAll ds ≤ 1048576)
def OpenSpec.upto (s : _root_.Go.ChangeSpec) : _root_.Go.OpenSpec := { _root_.Go.OpenSpec.ofChange s with cond := some uptoSmall }

/-- 'laws.FnGeneral', WHERE WHAT IT READS IS OF BULK AT MOST 1048576: true; the input reads as it did. -/
def fnGeneralUptoRow : OpenClaim := { program := "ytoihimdfmncdoaa", sum := "eedd4dde74ee94887c077ed93f1c42247e0af55d3cfb3264d64f155d2a09a0e7", func := "loop.example/g03210/laws.FnGeneral", spec := "fnGeneral", unfollowed := true, recurses := true, plainKeys := false, apart := false, narrowed := true }
def FnGeneralUptoSaid : Prop := fnGeneralUptoRow.holds Try.pinned (OpenSpec.upto fnGeneralSpec)

/-- 'laws.FnExactGeneralize', WHERE WHAT IT READS IS OF BULK AT MOST 1048576: true; the input reads as it did. -/
def fnExactGeneralizeUptoRow : OpenClaim := { program := "ytoihimdfmncdoaa", sum := "eedd4dde74ee94887c077ed93f1c42247e0af55d3cfb3264d64f155d2a09a0e7", func := "loop.example/g03210/laws.FnExactGeneralize", spec := "fnExactGeneralize", unfollowed := true, recurses := true, loops := true, plainKeys := false, apart := false, narrowed := true }
def FnExactGeneralizeUptoSaid : Prop := fnExactGeneralizeUptoRow.holds Try.pinned (OpenSpec.upto fnExactGeneralizeSpec)

/-- 'laws.FnExactIsGround', WHERE WHAT IT READS IS OF BULK AT MOST 1048576: true; the input reads as it did. -/
def fnExactIsGroundUptoRow : OpenClaim := { program := "ytoihimdfmncdoaa", sum := "eedd4dde74ee94887c077ed93f1c42247e0af55d3cfb3264d64f155d2a09a0e7", func := "loop.example/g03210/laws.FnExactIsGround", spec := "fnExactIsGround", recurses := true, loops := true, plainKeys := false, apart := false, narrowed := true }
def FnExactIsGroundUptoSaid : Prop := fnExactIsGroundUptoRow.holds Try.pinned (OpenSpec.upto fnExactIsGroundSpec)

/-- 'laws.FnExactUniverseOk', WHERE WHAT IT READS IS OF BULK AT MOST 1048576: true; the input reads as it did. -/
def fnExactUniverseOkUptoRow : OpenClaim := { program := "ytoihimdfmncdoaa", sum := "eedd4dde74ee94887c077ed93f1c42247e0af55d3cfb3264d64f155d2a09a0e7", func := "loop.example/g03210/laws.FnExactUniverseOk", spec := "fnExactUniverseOk", recurses := true, loops := true, plainKeys := false, apart := false, narrowed := true }
def FnExactUniverseOkUptoSaid : Prop := fnExactUniverseOkUptoRow.holds Try.pinned (OpenSpec.upto fnExactUniverseOkSpec)

/-- 'laws.FnExactSubtermsOf', WHERE WHAT IT READS IS OF BULK AT MOST 1048576: true; the input reads as it did. -/
def fnExactSubtermsOfUptoRow : OpenClaim := { program := "ytoihimdfmncdoaa", sum := "eedd4dde74ee94887c077ed93f1c42247e0af55d3cfb3264d64f155d2a09a0e7", func := "loop.example/g03210/laws.FnExactSubtermsOf", spec := "fnExactSubtermsOf", unfollowed := true, recurses := true, loops := true, plainKeys := false, apart := false, narrowed := true }
def FnExactSubtermsOfUptoSaid : Prop := fnExactSubtermsOfUptoRow.holds Try.pinned (OpenSpec.upto fnExactSubtermsOfSpec)

/-- 'laws.FnExactGroundTerms', WHERE WHAT IT READS IS OF BULK AT MOST 1048576: true; the input reads as it did. -/
def fnExactGroundTermsUptoRow : OpenClaim := { program := "ytoihimdfmncdoaa", sum := "eedd4dde74ee94887c077ed93f1c42247e0af55d3cfb3264d64f155d2a09a0e7", func := "loop.example/g03210/laws.FnExactGroundTerms", spec := "fnExactGroundTerms", inPlace := ["slices.overlaps[loop.example/g03210/impl.Term]"], unfollowed := true, recurses := true, loops := true, plainKeys := false, apart := false, narrowed := true }
def FnExactGroundTermsUptoSaid : Prop := fnExactGroundTermsUptoRow.holds Try.pinned (OpenSpec.upto fnExactGroundTermsSpec)

/-- 'laws.FnExactGroundInstances', WHERE WHAT IT READS IS OF BULK AT MOST 1048576: true; the input reads as it did. -/
def fnExactGroundInstancesUptoRow : OpenClaim := { program := "ytoihimdfmncdoaa", sum := "eedd4dde74ee94887c077ed93f1c42247e0af55d3cfb3264d64f155d2a09a0e7", func := "loop.example/g03210/laws.FnExactGroundInstances", spec := "fnExactGroundInstances", unfollowed := true, recurses := true, loops := true, plainKeys := false, apart := false, narrowed := true }
def FnExactGroundInstancesUptoSaid : Prop := fnExactGroundInstancesUptoRow.holds Try.pinned (OpenSpec.upto fnExactGroundInstancesSpec)

end Rows
end Go.Proofs.Ytoihimdfmncdoaa
