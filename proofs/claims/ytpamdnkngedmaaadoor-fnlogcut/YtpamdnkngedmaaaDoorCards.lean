/-
  DERIVED. GIVEN WITH THE SEED: THE CARDS: each row of YtpamdnkngedmaaaDoorRows.lean that lists a variable, with what it lists TIED to the program's text (the seventh form; the later family's looks); each row that meets fmt, with fmt's text TOLD by the authors' own Lean function (tested against real Go, not proved from fmt's source: count such statements apart). THE CARD IS WHAT COUNTS. Prove the row's statement (the work); the ties are given (YtpamdnkngedmaaaDoorTie.lean); close each card by the builder's one call (the guide's Derived/Test/ToyasCard.lean, 'card_holds'). Laid BY PROGRAM, IN A SANDBOX (cutbox-door.mjs). By AI agents, Wed Nov 11 2026. No macro, syntax, notation, axiom, sorry.
-/
import Derived.Test.YtpamdnkngedmaaaDoorRows
import GoSem.ClaimSeven
namespace Go.Proofs.YtpamdnkngedmaaaDoor
namespace Rows

/-- THE TIED CARD OF 'laws.FnLogCut'. -/
def fnLogCutCard : Claim7 := { stood := { row := fnLogCutRow, standIns := [], harness := (true, "0ac6cab4fbbb2159a6a0289b459ecab2f30c171bf0a62f9b43101b7671b75394"), looks := true }, kinds := [], alts := [], laidByText := true, laidKinds := [.data, .data, .data, .sentinel, .sentinel, .sentinel], laidTests := true, laidLooks := .later }
def FnLogCutCardSaid : Prop := Claim7.holds Tryd.pinned (.plain (OpenSpec.ofChange fnLogCutSpec)) fnLogCutCard

/-- THE TIED CARD OF 'laws.FnLogRead'. -/
def fnLogReadCard : Claim7 := { stood := { row := fnLogReadRow, standIns := [], harness := (true, "0ac6cab4fbbb2159a6a0289b459ecab2f30c171bf0a62f9b43101b7671b75394"), looks := true }, kinds := [], alts := [], laidByText := true, laidKinds := [.data, .data, .data, .sentinel, .sentinel, .sentinel], laidTests := true, laidLooks := .later }
def FnLogReadCardSaid : Prop := Claim7.holds Tryd.pinned (.plain (OpenSpec.ofChange fnLogReadSpec)) fnLogReadCard

/-- THE TIED CARD OF 'laws.FnExactLogFrame'. -/
def fnExactLogFrameCard : Claim7 := { stood := { row := fnExactLogFrameRow, standIns := [], harness := (true, "0ac6cab4fbbb2159a6a0289b459ecab2f30c171bf0a62f9b43101b7671b75394"), looks := true }, kinds := [], alts := [], laidByText := true, laidKinds := [.data, .data, .data], laidTests := true, laidLooks := .later }
def FnExactLogFrameCardSaid : Prop := Claim7.holds Tryd.pinned (.plain (OpenSpec.ofChange fnExactLogFrameSpec)) fnExactLogFrameCard

/-- THE TIED CARD OF 'laws.FnExactLogRead'. -/
def fnExactLogReadCard : Claim7 := { stood := { row := fnExactLogReadRow, standIns := [], harness := (true, "0ac6cab4fbbb2159a6a0289b459ecab2f30c171bf0a62f9b43101b7671b75394"), looks := true }, kinds := [], alts := [], laidByText := true, laidKinds := [.data, .data, .data, .sentinel, .sentinel, .sentinel], laidTests := true, laidLooks := .later }
def FnExactLogReadCardSaid : Prop := Claim7.holds Tryd.pinned (.plain (OpenSpec.ofChange fnExactLogReadSpec)) fnExactLogReadCard

/-- THE SECOND FORM's CARD OF 'laws.FnLogCut'. -/
def fnLogCutUptoCard : Claim7 := { stood := { row := fnLogCutUptoRow, standIns := [], harness := (true, "0ac6cab4fbbb2159a6a0289b459ecab2f30c171bf0a62f9b43101b7671b75394"), looks := true }, kinds := [], alts := [], laidByText := true, laidKinds := [.data, .data, .data, .sentinel, .sentinel, .sentinel], laidTests := true, laidLooks := .later }
def FnLogCutUptoCardSaid : Prop := Claim7.holds Tryd.pinned (.plain (OpenSpec.upto fnLogCutSpec)) fnLogCutUptoCard

/-- THE SECOND FORM's CARD OF 'laws.FnLogRead'. -/
def fnLogReadUptoCard : Claim7 := { stood := { row := fnLogReadUptoRow, standIns := [], harness := (true, "0ac6cab4fbbb2159a6a0289b459ecab2f30c171bf0a62f9b43101b7671b75394"), looks := true }, kinds := [], alts := [], laidByText := true, laidKinds := [.data, .data, .data, .sentinel, .sentinel, .sentinel], laidTests := true, laidLooks := .later }
def FnLogReadUptoCardSaid : Prop := Claim7.holds Tryd.pinned (.plain (OpenSpec.upto fnLogReadSpec)) fnLogReadUptoCard

/-- THE SECOND FORM's CARD OF 'laws.FnExactLogFrame'. -/
def fnExactLogFrameUptoCard : Claim7 := { stood := { row := fnExactLogFrameUptoRow, standIns := [], harness := (true, "0ac6cab4fbbb2159a6a0289b459ecab2f30c171bf0a62f9b43101b7671b75394"), looks := true }, kinds := [], alts := [], laidByText := true, laidKinds := [.data, .data, .data], laidTests := true, laidLooks := .later }
def FnExactLogFrameUptoCardSaid : Prop := Claim7.holds Tryd.pinned (.plain (OpenSpec.upto fnExactLogFrameSpec)) fnExactLogFrameUptoCard

/-- THE SECOND FORM's CARD OF 'laws.FnExactLogRead'. -/
def fnExactLogReadUptoCard : Claim7 := { stood := { row := fnExactLogReadUptoRow, standIns := [], harness := (true, "0ac6cab4fbbb2159a6a0289b459ecab2f30c171bf0a62f9b43101b7671b75394"), looks := true }, kinds := [], alts := [], laidByText := true, laidKinds := [.data, .data, .data, .sentinel, .sentinel, .sentinel], laidTests := true, laidLooks := .later }
def FnExactLogReadUptoCardSaid : Prop := Claim7.holds Tryd.pinned (.plain (OpenSpec.upto fnExactLogReadSpec)) fnExactLogReadUptoCard
end Rows
end Go.Proofs.YtpamdnkngedmaaaDoor
