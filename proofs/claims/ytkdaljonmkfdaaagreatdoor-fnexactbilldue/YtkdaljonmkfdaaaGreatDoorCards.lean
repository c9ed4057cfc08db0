/-
  DERIVED. GIVEN WITH THE SEED: THE CARDS: each row of YtkdaljonmkfdaaaGreatDoorRows.lean that lists a variable, with what it lists TIED to the program's text (the seventh form; the later family's looks); each row that meets fmt, with fmt's text TOLD by the authors' own Lean function (tested against real Go, not proved from fmt's source: count such statements apart). THE CARD IS WHAT COUNTS. Prove the row's statement (the work); the ties are given (YtkdaljonmkfdaaaGreatDoorTie.lean); close each card by the builder's one call (the guide's Derived/Test/ToyasCard.lean, 'card_holds'). Laid BY PROGRAM, IN A SANDBOX (cutbox-door.mjs). By AI agents, Wed Nov 11 2026. No macro, syntax, notation, axiom, sorry.
-/
import Derived.Test.YtkdaljonmkfdaaaGreatDoorRows
import GoSem.ClaimSeven
namespace Go.Proofs.YtkdaljonmkfdaaaGreatDoor
namespace Rows

/-- THE TIED CARD OF 'laws.FnExactRuleRead'. -/
def fnExactRuleReadCard : Claim7 := { stood := { row := fnExactRuleReadRow, standIns := [], harness := (true, "e90d5feea185112c27be9ee4696635515d7ea461c72f91010521dab42c145297"), looks := true }, kinds := [], alts := [], laidByText := true, laidKinds := [.data, .data, .data, .sentinel, .sentinel, .listed, .data], laidTests := true, laidLooks := .later }
def FnExactRuleReadCardSaid : Prop := Claim7.holds Tryz.pinned (.plain (OpenSpec.ofChange fnExactRuleReadSpec)) fnExactRuleReadCard

/-- THE TIED CARD OF 'laws.FnExactBillOk'. -/
def fnExactBillOkCard : Claim7 := { stood := { row := fnExactBillOkRow, standIns := [], harness := (true, "e90d5feea185112c27be9ee4696635515d7ea461c72f91010521dab42c145297"), looks := true }, kinds := [], alts := [], laidByText := true, laidKinds := [.data, .data, .data, .sentinel, .sentinel, .listed, .data], laidTests := true, laidLooks := .later }
def FnExactBillOkCardSaid : Prop := Claim7.holds Tryz.pinned (.plain (OpenSpec.ofChange fnExactBillOkSpec)) fnExactBillOkCard

/-- THE TIED CARD OF 'laws.FnExactBillDue'. -/
def fnExactBillDueCard : Claim7 := { stood := { row := fnExactBillDueRow, standIns := [], harness := (true, "e90d5feea185112c27be9ee4696635515d7ea461c72f91010521dab42c145297"), looks := true }, kinds := [], alts := [], laidByText := true, laidKinds := [.data, .data, .data, .sentinel, .sentinel, .listed, .data], laidTests := true, laidLooks := .later }
def FnExactBillDueCardSaid : Prop := Claim7.holds Tryz.pinned (.plain (OpenSpec.ofChange fnExactBillDueSpec)) fnExactBillDueCard

/-- THE SECOND FORM's CARD OF 'laws.FnExactRuleRead'. -/
def fnExactRuleReadUptoCard : Claim7 := { stood := { row := fnExactRuleReadUptoRow, standIns := [], harness := (true, "e90d5feea185112c27be9ee4696635515d7ea461c72f91010521dab42c145297"), looks := true }, kinds := [], alts := [], laidByText := true, laidKinds := [.data, .data, .data, .sentinel, .sentinel, .listed, .data], laidTests := true, laidLooks := .later }
def FnExactRuleReadUptoCardSaid : Prop := Claim7.holds Tryz.pinned (.plain (OpenSpec.upto fnExactRuleReadSpec)) fnExactRuleReadUptoCard

/-- THE SECOND FORM's CARD OF 'laws.FnExactBillOk'. -/
def fnExactBillOkUptoCard : Claim7 := { stood := { row := fnExactBillOkUptoRow, standIns := [], harness := (true, "e90d5feea185112c27be9ee4696635515d7ea461c72f91010521dab42c145297"), looks := true }, kinds := [], alts := [], laidByText := true, laidKinds := [.data, .data, .data, .sentinel, .sentinel, .listed, .data], laidTests := true, laidLooks := .later }
def FnExactBillOkUptoCardSaid : Prop := Claim7.holds Tryz.pinned (.plain (OpenSpec.upto fnExactBillOkSpec)) fnExactBillOkUptoCard

/-- THE SECOND FORM's CARD OF 'laws.FnExactBillDue'. -/
def fnExactBillDueUptoCard : Claim7 := { stood := { row := fnExactBillDueUptoRow, standIns := [], harness := (true, "e90d5feea185112c27be9ee4696635515d7ea461c72f91010521dab42c145297"), looks := true }, kinds := [], alts := [], laidByText := true, laidKinds := [.data, .data, .data, .sentinel, .sentinel, .listed, .data], laidTests := true, laidLooks := .later }
def FnExactBillDueUptoCardSaid : Prop := Claim7.holds Tryz.pinned (.plain (OpenSpec.upto fnExactBillDueSpec)) fnExactBillDueUptoCard
end Rows
end Go.Proofs.YtkdaljonmkfdaaaGreatDoor
