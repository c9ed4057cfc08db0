/-
  DERIVED. GIVEN WITH THE SEED: THE CARDS: each row of YtlmdpfhabiakmaaDoorRows.lean that lists a variable, with what it lists TIED to the program's text (the seventh form; the later family's looks); each row that meets fmt, with fmt's text TOLD by the authors' own Lean function (tested against real Go, not proved from fmt's source: count such statements apart). THE CARD IS WHAT COUNTS. Prove the row's statement (the work); the ties are given (YtlmdpfhabiakmaaDoorTie.lean); close each card by the builder's one call (the guide's Derived/Test/ToyasCard.lean, 'card_holds'). Laid BY PROGRAM, IN A SANDBOX (cutbox-door.mjs). By AI agents, Wed Nov 11 2026. No macro, syntax, notation, axiom, sorry.
-/
import Derived.Test.YtlmdpfhabiakmaaDoorRows
import GoSem.ClaimSeven
namespace Go.Proofs.YtlmdpfhabiakmaaDoor
namespace Rows

/-- THE TIED CARD OF 'laws.FnSealOther'. -/
def fnSealOtherCard : Claim7 := { stood := { row := fnSealOtherRow, standIns := [], harness := (true, "be1d75317b5b65c60679063c70407461997cd57b423d125226d78b5374a566d2"), looks := false }, kinds := [], alts := [], laidByText := true, laidKinds := [.data, .data, .data], laidTests := true, laidLooks := .later }
def FnSealOtherCardSaid : Prop := Claim7.holds Tryd.pinned (.plain (OpenSpec.ofChange fnSealOtherSpec)) fnSealOtherCard

/-- THE SECOND FORM's CARD OF 'laws.FnSealOther'. -/
def fnSealOtherUptoCard : Claim7 := { stood := { row := fnSealOtherUptoRow, standIns := [], harness := (true, "be1d75317b5b65c60679063c70407461997cd57b423d125226d78b5374a566d2"), looks := false }, kinds := [], alts := [], laidByText := true, laidKinds := [.data, .data, .data], laidTests := true, laidLooks := .later }
def FnSealOtherUptoCardSaid : Prop := Claim7.holds Tryd.pinned (.plain (OpenSpec.upto fnSealOtherSpec)) fnSealOtherUptoCard
end Rows
end Go.Proofs.YtlmdpfhabiakmaaDoor
