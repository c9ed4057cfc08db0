/-
  DERIVED. GIVEN WITH THE SEED: THE CARDS: each row of YtolhhfmahbpkiaaDoorRows.lean that lists a variable, with what it lists TIED to the program's text (the seventh form; the later family's looks); each row that meets fmt, with fmt's text TOLD by the authors' own Lean function (tested against real Go, not proved from fmt's source: count such statements apart). THE CARD IS WHAT COUNTS. Prove the row's statement (the work); the ties are given (YtolhhfmahbpkiaaDoorTie.lean); close each card by the builder's one call (the guide's Derived/Test/ToyasCard.lean, 'card_holds'). Laid BY PROGRAM, IN A SANDBOX (cutbox-door.mjs). By AI agents, Wed Nov 11 2026. No macro, syntax, notation, axiom, sorry.
-/
import Derived.Test.YtolhhfmahbpkiaaDoorRows
import GoSem.ClaimSeven
namespace Go.Proofs.YtolhhfmahbpkiaaDoor
namespace Rows

/-- THE TIED CARD OF 'laws.FnExactSealMake'. -/
def fnExactSealMakeCard : Claim7 := { stood := { row := fnExactSealMakeRow, standIns := [], harness := (true, "d1bb436618d63ab8e8f3c674812ea5b2f5efd68be161efbf8e1d47bb03013610"), looks := true }, kinds := [], alts := [], laidByText := true, laidKinds := [.data, .data, .data], laidTests := true, laidLooks := .later }
def FnExactSealMakeCardSaid : Prop := Claim7.holds Tryd.pinned (.plain (OpenSpec.ofChange fnExactSealMakeSpec)) fnExactSealMakeCard

/-- THE TIED CARD OF 'laws.FnExactSealCheck'. -/
def fnExactSealCheckCard : Claim7 := { stood := { row := fnExactSealCheckRow, standIns := [], harness := (true, "d1bb436618d63ab8e8f3c674812ea5b2f5efd68be161efbf8e1d47bb03013610"), looks := true }, kinds := [], alts := [], laidByText := true, laidKinds := [.data, .data, .data], laidTests := true, laidLooks := .later }
def FnExactSealCheckCardSaid : Prop := Claim7.holds Tryd.pinned (.plain (OpenSpec.ofChange fnExactSealCheckSpec)) fnExactSealCheckCard

/-- THE TIED CARD OF 'laws.FnExactSealText'. -/
def fnExactSealTextCard : Claim7 := { stood := { row := fnExactSealTextRow, standIns := [], harness := (true, "d1bb436618d63ab8e8f3c674812ea5b2f5efd68be161efbf8e1d47bb03013610"), looks := true }, kinds := [], alts := [], laidByText := true, laidKinds := [.data, .data, .data], laidTests := true, laidLooks := .later }
def FnExactSealTextCardSaid : Prop := Claim7.holds Tryd.pinned (.plain (OpenSpec.ofChange fnExactSealTextSpec)) fnExactSealTextCard

/-- THE TIED CARD OF 'laws.FnExactSealRead'. -/
def fnExactSealReadCard : Claim7 := { stood := { row := fnExactSealReadRow, standIns := [], harness := (true, "d1bb436618d63ab8e8f3c674812ea5b2f5efd68be161efbf8e1d47bb03013610"), looks := true }, kinds := [], alts := [], laidByText := true, laidKinds := [.data, .data, .data, .data, .sentinel, .sentinel, .pinned], laidTests := true, laidLooks := .later }
def FnExactSealReadCardSaid : Prop := Claim7.holds Tryd.pinned (.plain (OpenSpec.ofChange fnExactSealReadSpec)) fnExactSealReadCard

/-- THE SECOND FORM's CARD OF 'laws.FnExactSealMake'. -/
def fnExactSealMakeUptoCard : Claim7 := { stood := { row := fnExactSealMakeUptoRow, standIns := [], harness := (true, "d1bb436618d63ab8e8f3c674812ea5b2f5efd68be161efbf8e1d47bb03013610"), looks := true }, kinds := [], alts := [], laidByText := true, laidKinds := [.data, .data, .data], laidTests := true, laidLooks := .later }
def FnExactSealMakeUptoCardSaid : Prop := Claim7.holds Tryd.pinned (.plain (OpenSpec.upto fnExactSealMakeSpec)) fnExactSealMakeUptoCard

/-- THE SECOND FORM's CARD OF 'laws.FnExactSealCheck'. -/
def fnExactSealCheckUptoCard : Claim7 := { stood := { row := fnExactSealCheckUptoRow, standIns := [], harness := (true, "d1bb436618d63ab8e8f3c674812ea5b2f5efd68be161efbf8e1d47bb03013610"), looks := true }, kinds := [], alts := [], laidByText := true, laidKinds := [.data, .data, .data], laidTests := true, laidLooks := .later }
def FnExactSealCheckUptoCardSaid : Prop := Claim7.holds Tryd.pinned (.plain (OpenSpec.upto fnExactSealCheckSpec)) fnExactSealCheckUptoCard

/-- THE SECOND FORM's CARD OF 'laws.FnExactSealText'. -/
def fnExactSealTextUptoCard : Claim7 := { stood := { row := fnExactSealTextUptoRow, standIns := [], harness := (true, "d1bb436618d63ab8e8f3c674812ea5b2f5efd68be161efbf8e1d47bb03013610"), looks := true }, kinds := [], alts := [], laidByText := true, laidKinds := [.data, .data, .data], laidTests := true, laidLooks := .later }
def FnExactSealTextUptoCardSaid : Prop := Claim7.holds Tryd.pinned (.plain (OpenSpec.upto fnExactSealTextSpec)) fnExactSealTextUptoCard

/-- THE SECOND FORM's CARD OF 'laws.FnExactSealRead'. -/
def fnExactSealReadUptoCard : Claim7 := { stood := { row := fnExactSealReadUptoRow, standIns := [], harness := (true, "d1bb436618d63ab8e8f3c674812ea5b2f5efd68be161efbf8e1d47bb03013610"), looks := true }, kinds := [], alts := [], laidByText := true, laidKinds := [.data, .data, .data, .data, .sentinel, .sentinel, .pinned], laidTests := true, laidLooks := .later }
def FnExactSealReadUptoCardSaid : Prop := Claim7.holds Tryd.pinned (.plain (OpenSpec.upto fnExactSealReadSpec)) fnExactSealReadUptoCard
end Rows
end Go.Proofs.YtolhhfmahbpkiaaDoor
