/-
  DERIVED. GIVEN WITH THE SEED: THE CARDS: each row of YtnchgeiinkaefaaGreatDoorRows.lean that lists a variable, with what it lists TIED to the program's text (the seventh form; the later family's looks); each row that meets fmt, with fmt's text TOLD by the authors' own Lean function (tested against real Go, not proved from fmt's source: count such statements apart). THE CARD IS WHAT COUNTS. Prove the row's statement (the work); the ties are given (YtnchgeiinkaefaaGreatDoorTie.lean); close each card by the builder's one call (the guide's Derived/Test/ToyasCard.lean, 'card_holds'). Laid BY PROGRAM, IN A SANDBOX (cutbox-door.mjs). By AI agents, Wed Nov 11 2026. No macro, syntax, notation, axiom, sorry.
-/
import Derived.Test.YtnchgeiinkaefaaGreatDoorRows
import GoSem.ClaimSeven
namespace Go.Proofs.YtnchgeiinkaefaaGreatDoor
namespace Rows

/-- THE TIED CARD OF 'laws.FnExactBillRate'. -/
def fnExactBillRateCard : Claim7 := { stood := { row := fnExactBillRateRow, standIns := [], harness := (true, "ec44f66753c45177373e76b43c524182833c141d602802bd892cca1c767cbc11"), looks := true }, kinds := [], alts := [], laidByText := true, laidKinds := [.data, .data, .data, .handle, .sentinel, .sentinel, .listed, .data], laidTests := true, laidLooks := .later }
def FnExactBillRateCardSaid : Prop := Claim7.holds Tryz.pinned (.plain (OpenSpec.ofChange fnExactBillRateSpec)) fnExactBillRateCard

/-- THE SECOND FORM's CARD OF 'laws.FnExactBillRate'. -/
def fnExactBillRateUptoCard : Claim7 := { stood := { row := fnExactBillRateUptoRow, standIns := [], harness := (true, "ec44f66753c45177373e76b43c524182833c141d602802bd892cca1c767cbc11"), looks := true }, kinds := [], alts := [], laidByText := true, laidKinds := [.data, .data, .data, .handle, .sentinel, .sentinel, .listed, .data], laidTests := true, laidLooks := .later }
def FnExactBillRateUptoCardSaid : Prop := Claim7.holds Tryz.pinned (.plain (OpenSpec.upto fnExactBillRateSpec)) fnExactBillRateUptoCard
end Rows
end Go.Proofs.YtnchgeiinkaefaaGreatDoor
