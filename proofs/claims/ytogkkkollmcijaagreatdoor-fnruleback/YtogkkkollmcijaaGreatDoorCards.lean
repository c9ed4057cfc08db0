/-
  DERIVED. GIVEN WITH THE SEED: THE CARDS: each row of YtogkkkollmcijaaGreatDoorRows.lean that lists a variable, with what it lists TIED to the program's text (the seventh form; the later family's looks); each row that meets fmt, with fmt's text TOLD by the authors' own Lean function (tested against real Go, not proved from fmt's source: count such statements apart). THE CARD IS WHAT COUNTS. Prove the row's statement (the work); the ties are given (YtogkkkollmcijaaGreatDoorTie.lean); close each card by the builder's one call (the guide's Derived/Test/ToyasCard.lean, 'card_holds'). Laid BY PROGRAM, IN A SANDBOX (cutbox-door.mjs). By AI agents, Wed Nov 11 2026. No macro, syntax, notation, axiom, sorry.
-/
import Derived.Test.YtogkkkollmcijaaGreatDoorRows
import GoSem.ClaimSeven
namespace Go.Proofs.YtogkkkollmcijaaGreatDoor
namespace Rows

/-- THE TIED CARD OF 'laws.FnRuleBack'. -/
def fnRuleBackCard : Claim7 := { stood := { row := fnRuleBackRow, standIns := [], harness := (true, "b53e50127dc404af5f955ee0b23e3c99c00257462391cb80e0d0f28e060ecd9f"), looks := true }, kinds := [], alts := [], laidByText := true, laidKinds := [.data, .data, .data, .sentinel, .sentinel, .listed, .data], laidTests := true, laidLooks := .later }
def FnRuleBackCardSaid : Prop := Claim7.holds Tryz.pinned (.plain (OpenSpec.ofChange fnRuleBackSpec)) fnRuleBackCard

/-- THE SECOND FORM's CARD OF 'laws.FnRuleBack'. -/
def fnRuleBackUptoCard : Claim7 := { stood := { row := fnRuleBackUptoRow, standIns := [], harness := (true, "b53e50127dc404af5f955ee0b23e3c99c00257462391cb80e0d0f28e060ecd9f"), looks := true }, kinds := [], alts := [], laidByText := true, laidKinds := [.data, .data, .data, .sentinel, .sentinel, .listed, .data], laidTests := true, laidLooks := .later }
def FnRuleBackUptoCardSaid : Prop := Claim7.holds Tryz.pinned (.plain (OpenSpec.upto fnRuleBackSpec)) fnRuleBackUptoCard
end Rows
end Go.Proofs.YtogkkkollmcijaaGreatDoor
