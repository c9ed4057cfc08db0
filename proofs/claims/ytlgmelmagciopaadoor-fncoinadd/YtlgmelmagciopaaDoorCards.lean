/-
  DERIVED. GIVEN WITH THE SEED: THE CARDS: each row of YtlgmelmagciopaaDoorRows.lean that lists a variable, with what it lists TIED to the program's text (the seventh form; the later family's looks); each row that meets fmt, with fmt's text TOLD by the authors' own Lean function (tested against real Go, not proved from fmt's source: count such statements apart). THE CARD IS WHAT COUNTS. Prove the row's statement (the work); the ties are given (YtlgmelmagciopaaDoorTie.lean); close each card by the builder's one call (the guide's Derived/Test/ToyasCard.lean, 'card_holds'). Laid BY PROGRAM, IN A SANDBOX (cutbox-door.mjs). By AI agents, Wed Nov 11 2026. No macro, syntax, notation, axiom, sorry.
-/
import Derived.Test.YtlgmelmagciopaaDoorRows
import GoSem.ClaimSeven
namespace Go.Proofs.YtlgmelmagciopaaDoor
namespace Rows

/-- THE TIED CARD OF 'laws.FnCoinAdd'. -/
def fnCoinAddCard : Claim7 := { stood := { row := fnCoinAddRow, standIns := [], harness := (true, "84f29c6ad1856fc71dd24bfdbf13f777b999d584653bd4dd5bfa3dc3d99c898e"), looks := true }, kinds := [], alts := [], laidByText := true, laidKinds := [.data, .data, .data, .sentinel, .sentinel], laidTests := true, laidLooks := .later }
def FnCoinAddCardSaid : Prop := Claim7.holds Tryd.pinned (.plain (OpenSpec.ofChange fnCoinAddSpec)) fnCoinAddCard

/-- THE TIED CARD OF 'laws.FnExactCoinText'. -/
def fnExactCoinTextCard : Claim7 := { stood := { row := fnExactCoinTextRow, standIns := [], harness := (true, "84f29c6ad1856fc71dd24bfdbf13f777b999d584653bd4dd5bfa3dc3d99c898e"), looks := true }, kinds := [], alts := [], laidByText := true, laidKinds := [.data, .data, .data], laidTests := true, laidLooks := .later }
def FnExactCoinTextCardSaid : Prop := Claim7.holds Tryd.pinned (.plain (OpenSpec.ofChange fnExactCoinTextSpec)) fnExactCoinTextCard

/-- THE TIED CARD OF 'laws.FnExactCoinRead'. -/
def fnExactCoinReadCard : Claim7 := { stood := { row := fnExactCoinReadRow, standIns := [], harness := (true, "84f29c6ad1856fc71dd24bfdbf13f777b999d584653bd4dd5bfa3dc3d99c898e"), looks := true }, kinds := [], alts := [], laidByText := true, laidKinds := [.data, .data, .data, .sentinel, .sentinel], laidTests := true, laidLooks := .later }
def FnExactCoinReadCardSaid : Prop := Claim7.holds Tryd.pinned (.plain (OpenSpec.ofChange fnExactCoinReadSpec)) fnExactCoinReadCard

/-- THE SECOND FORM's CARD OF 'laws.FnCoinAdd'. -/
def fnCoinAddUptoCard : Claim7 := { stood := { row := fnCoinAddUptoRow, standIns := [], harness := (true, "84f29c6ad1856fc71dd24bfdbf13f777b999d584653bd4dd5bfa3dc3d99c898e"), looks := true }, kinds := [], alts := [], laidByText := true, laidKinds := [.data, .data, .data, .sentinel, .sentinel], laidTests := true, laidLooks := .later }
def FnCoinAddUptoCardSaid : Prop := Claim7.holds Tryd.pinned (.plain (OpenSpec.upto fnCoinAddSpec)) fnCoinAddUptoCard

/-- THE SECOND FORM's CARD OF 'laws.FnExactCoinText'. -/
def fnExactCoinTextUptoCard : Claim7 := { stood := { row := fnExactCoinTextUptoRow, standIns := [], harness := (true, "84f29c6ad1856fc71dd24bfdbf13f777b999d584653bd4dd5bfa3dc3d99c898e"), looks := true }, kinds := [], alts := [], laidByText := true, laidKinds := [.data, .data, .data], laidTests := true, laidLooks := .later }
def FnExactCoinTextUptoCardSaid : Prop := Claim7.holds Tryd.pinned (.plain (OpenSpec.upto fnExactCoinTextSpec)) fnExactCoinTextUptoCard

/-- THE SECOND FORM's CARD OF 'laws.FnExactCoinRead'. -/
def fnExactCoinReadUptoCard : Claim7 := { stood := { row := fnExactCoinReadUptoRow, standIns := [], harness := (true, "84f29c6ad1856fc71dd24bfdbf13f777b999d584653bd4dd5bfa3dc3d99c898e"), looks := true }, kinds := [], alts := [], laidByText := true, laidKinds := [.data, .data, .data, .sentinel, .sentinel], laidTests := true, laidLooks := .later }
def FnExactCoinReadUptoCardSaid : Prop := Claim7.holds Tryd.pinned (.plain (OpenSpec.upto fnExactCoinReadSpec)) fnExactCoinReadUptoCard
end Rows
end Go.Proofs.YtlgmelmagciopaaDoor
