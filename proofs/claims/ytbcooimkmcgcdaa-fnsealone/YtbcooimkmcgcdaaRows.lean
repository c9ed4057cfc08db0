/-
  No cell of these rows narrows 'for every input' (looked for: loops, veiled, ifaces, maps, wideKeys, modest, calm, conditions, laid).
  DERIVED. THE GIVEN ROWS OF THIS SEAT. 2 by the template 'for every input the law returns true; each argument reads behind the call as it read before'; 0 by the template 'total and deterministic' (their statements: YtbcooimkmcgcdaaTotals.lean).
  GIVEN WITH THE SEED: the statements are not yours to turn. If you find one false, say at which input.
  Laid BY PROGRAM, IN A SANDBOX (cutbox-rows.mjs): the forced cells as the released guide's own fill.sh prints them over the translation d883bdef6ed42aaa… (all of the seat's roots in one cut). By AI agents, Wed Nov 11 2026. No macro, syntax, notation, axiom, sorry.
-/
import Derived.Test.YtbcooimkmcgcdaaChecked
import GoSem.Claim
import GoSem.ClaimJoined
import GoSem.ClaimMapViews
import Derived.JoinedTies
import Derived.KernelRfl
namespace Go.Proofs.Ytbcooimkmcgcdaa
/- THE CELL 'sum', in the pinned program and in every row, IS THE sha256 OF THE DUMP (.gsa) THAT YtbcooimkmcgcdaaProg.lean LOADS. Nothing in Lean hashes anything: it is a label: what it is worth is what the hold of that sum in a sandbox is worth. -/
noncomputable def Try.pinned : Pinned := { name := "ytbcooimkmcgcdaa", sum := "d883bdef6ed42aaa1fcbe2cbf2d9f8ddf9acfa33bca469e77dc746d8714ede98", checked := Try.checked }
namespace Rows
def none {H : Type} : Left H := { results := [], args := [] }

/-- 'laws.FnExactSealMac': WHATEVER THE INPUT: true; the input reads as it did. -/
def fnExactSealMacSpec : ChangeSpec := { name := "fnExactSealMac", fn := fun _ => fun
  | [d1, d2] => { results := [.lit (.bool true)], args := [d1, d2] }
  | _ => none }
def fnExactSealMacRow : OpenClaim := { program := "ytbcooimkmcgcdaa", sum := "d883bdef6ed42aaa1fcbe2cbf2d9f8ddf9acfa33bca469e77dc746d8714ede98", func := "loop.example/scot/laws.FnExactSealMac", spec := "fnExactSealMac", apart := false }
def FnExactSealMacSaid : Prop := fnExactSealMacRow.holds Try.pinned (OpenSpec.ofChange fnExactSealMacSpec)

/-- ITS FALSE NEIGHBOUR: 'it returns false'. Refute it at one input. -/
def fnExactSealMacWrong : ChangeSpec := { name := "fnExactSealMac", fn := fun _ => fun
  | [d1, d2] => { results := [.lit (.bool false)], args := [d1, d2] }
  | _ => none }
def FnExactSealMacWrongFalsely : Prop := fnExactSealMacRow.holds Try.pinned (OpenSpec.ofChange fnExactSealMacWrong)

/-- 'laws.FnSealOne': WHATEVER THE INPUT: true; the input reads as it did. -/
def fnSealOneSpec : ChangeSpec := { name := "fnSealOne", fn := fun _ => fun
  | [d1, d2] => { results := [.lit (.bool true)], args := [d1, d2] }
  | _ => none }
def fnSealOneRow : OpenClaim := { program := "ytbcooimkmcgcdaa", sum := "d883bdef6ed42aaa1fcbe2cbf2d9f8ddf9acfa33bca469e77dc746d8714ede98", func := "loop.example/scot/laws.FnSealOne", spec := "fnSealOne", apart := false }
def FnSealOneSaid : Prop := fnSealOneRow.holds Try.pinned (OpenSpec.ofChange fnSealOneSpec)

/-- ITS FALSE NEIGHBOUR: 'it returns false'. Refute it at one input. -/
def fnSealOneWrong : ChangeSpec := { name := "fnSealOne", fn := fun _ => fun
  | [d1, d2] => { results := [.lit (.bool false)], args := [d1, d2] }
  | _ => none }
def FnSealOneWrongFalsely : Prop := fnSealOneRow.holds Try.pinned (OpenSpec.ofChange fnSealOneWrong)

/- THE SECOND FORM. 'bulk': how many values and letters a reading holds, each counted each time it is reached (what is shared counts as often as it is met; a slice's spare places count too). A statement '..UptoSaid' is the law's where the arguments, and the package variables that the reading takes, are together of bulk at most 1048576: NARROWER than '..Said'. Prove '..Said' where nothing that the law and all that it calls make is longer than what came in: it says more and counts as full. Else prove '..UptoSaid'. A law counts once. -/
mutual
def uptoBulk {H : Type} : DataW H → Nat
  | .lit (.string bytes) => bytes.length + 1
  | .lit _ => 1
  | .nil => 1
  | .ptr d => uptoBulk d + 1
  | .slice elems spare => uptoBulkAll elems + uptoBulkAll spare + 1
  | .agg parts => uptoBulkAll parts + 1
  | .iface _ d => uptoBulk d + 1
  | .map entries => uptoBulkEntries entries + 1
  | .held _ => 1
def uptoBulkAll {H : Type} : List (DataW H) → Nat
  | [] => 0
  | d :: r => uptoBulk d + uptoBulkAll r
def uptoBulkEntries {H : Type} : List (Lit × DataW H) → Nat
  | [] => 0
  | x :: r => uptoBulkEntry x + uptoBulkEntries r
def uptoBulkEntry {H : Type} : Lit × DataW H → Nat
  | (.string bytes, d) => bytes.length + uptoBulk d + 1
  | (_, d) => uptoBulk d + 1
 end
def uptoSmall : (H : Type) → List (DataW H) → Bool := fun _ ds => decide (uptoBulkAll ds ≤ 1048576)
def OpenSpec.upto (s : _root_.Go.ChangeSpec) : _root_.Go.OpenSpec := { _root_.Go.OpenSpec.ofChange s with cond := some uptoSmall }

/-- 'laws.FnExactSealMac', WHERE WHAT IT READS IS OF BULK AT MOST 1048576: true; the input reads as it did. -/
def fnExactSealMacUptoRow : OpenClaim := { program := "ytbcooimkmcgcdaa", sum := "d883bdef6ed42aaa1fcbe2cbf2d9f8ddf9acfa33bca469e77dc746d8714ede98", func := "loop.example/scot/laws.FnExactSealMac", spec := "fnExactSealMac", apart := false, narrowed := true }
def FnExactSealMacUptoSaid : Prop := fnExactSealMacUptoRow.holds Try.pinned (OpenSpec.upto fnExactSealMacSpec)

/-- 'laws.FnSealOne', WHERE WHAT IT READS IS OF BULK AT MOST 1048576: true; the input reads as it did. -/
def fnSealOneUptoRow : OpenClaim := { program := "ytbcooimkmcgcdaa", sum := "d883bdef6ed42aaa1fcbe2cbf2d9f8ddf9acfa33bca469e77dc746d8714ede98", func := "loop.example/scot/laws.FnSealOne", spec := "fnSealOne", apart := false, narrowed := true }
def FnSealOneUptoSaid : Prop := fnSealOneUptoRow.holds Try.pinned (OpenSpec.upto fnSealOneSpec)

end Rows
end Go.Proofs.Ytbcooimkmcgcdaa
