/-
  DERIVED. GIVEN WITH THE SEED: THE CARDS: each row of YtnbnepeikdieaaaDoorRows.lean that lists a variable, with what it lists TIED to the program's text (the seventh form; the later family's looks); each row that meets fmt, with fmt's text TOLD by the authors' own Lean function (tested against real Go, not proved from fmt's source: count such statements apart). THE CARD IS WHAT COUNTS. Prove the row's statement (the work); the ties are given (YtnbnepeikdieaaaDoorTie.lean); close each card by the builder's one call (the guide's Derived/Test/ToyasCard.lean, 'card_holds'). Laid BY PROGRAM, IN A SANDBOX (cutbox-door.mjs). By AI agents, Wed Nov 11 2026. No macro, syntax, notation, axiom, sorry.
-/
import Derived.Test.YtnbnepeikdieaaaDoorRows
import GoSem.ClaimSeven
namespace Go.Proofs.YtnbnepeikdieaaaDoor
namespace Rows

/-- THE TIED CARD OF 'laws.FnExactFormatSubst'. -/
def fnExactFormatSubstCard : Claim7 := { stood := { row := fnExactFormatSubstRow, standIns := [], harness := (true, "b915ed773f2afb9ca3688d50eb37801e7fd423fdda93d53cc4e6aa8c09020325"), looks := true }, kinds := [], alts := [], laidByText := true, laidKinds := [.data, .data, .data], laidTests := true, laidLooks := .later }
def FnExactFormatSubstCardSaid : Prop := Claim7.holds Tryd.pinned (.plain (OpenSpec.ofChange fnExactFormatSubstSpec)) fnExactFormatSubstCard

/-- THE TIED CARD OF 'laws.FnExactParseSubst'. -/
def fnExactParseSubstCard : Claim7 := { stood := { row := fnExactParseSubstRow, standIns := [], harness := (true, "b915ed773f2afb9ca3688d50eb37801e7fd423fdda93d53cc4e6aa8c09020325"), looks := true }, kinds := [], alts := [], laidByText := true, laidKinds := [.data, .data, .data, .sentinel, .sentinel], laidTests := true, laidLooks := .later }
def FnExactParseSubstCardSaid : Prop := Claim7.holds Tryd.pinned (.plain (OpenSpec.ofChange fnExactParseSubstSpec)) fnExactParseSubstCard

/-- THE SECOND FORM's CARD OF 'laws.FnExactFormatSubst'. -/
def fnExactFormatSubstUptoCard : Claim7 := { stood := { row := fnExactFormatSubstUptoRow, standIns := [], harness := (true, "b915ed773f2afb9ca3688d50eb37801e7fd423fdda93d53cc4e6aa8c09020325"), looks := true }, kinds := [], alts := [], laidByText := true, laidKinds := [.data, .data, .data], laidTests := true, laidLooks := .later }
def FnExactFormatSubstUptoCardSaid : Prop := Claim7.holds Tryd.pinned (.plain (OpenSpec.upto fnExactFormatSubstSpec)) fnExactFormatSubstUptoCard

/-- THE SECOND FORM's CARD OF 'laws.FnExactParseSubst'. -/
def fnExactParseSubstUptoCard : Claim7 := { stood := { row := fnExactParseSubstUptoRow, standIns := [], harness := (true, "b915ed773f2afb9ca3688d50eb37801e7fd423fdda93d53cc4e6aa8c09020325"), looks := true }, kinds := [], alts := [], laidByText := true, laidKinds := [.data, .data, .data, .sentinel, .sentinel], laidTests := true, laidLooks := .later }
def FnExactParseSubstUptoCardSaid : Prop := Claim7.holds Tryd.pinned (.plain (OpenSpec.upto fnExactParseSubstSpec)) fnExactParseSubstUptoCard
end Rows
end Go.Proofs.YtnbnepeikdieaaaDoor
