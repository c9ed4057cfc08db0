/-
  No cell of these rows narrows 'for every input' (looked for: loops, veiled, ifaces, maps, wideKeys, modest, calm, conditions, laid).
  DERIVED. THE GIVEN ROWS OF THIS SEAT. 8 by the template 'for every input the law returns true; each argument reads behind the call as it read before'; 0 by the template 'total and deterministic' (their statements: YtgaflnkefjmblaaTotals.lean).
  GIVEN WITH THE SEED: the statements are not yours to turn. If you find one false, say at which input.
  Laid BY PROGRAM, IN A SANDBOX (cutbox-rows.mjs): the forced cells as the released guide's own fill.sh prints them over the translation 4a612e26394c2534… (all of the seat's roots in one cut). By AI agents, Wed Nov 11 2026. No macro, syntax, notation, axiom, sorry.
-/
import Derived.Test.YtgaflnkefjmblaaChecked
import GoSem.Claim
import GoSem.ClaimJoined
import GoSem.ClaimMapViews
import Derived.JoinedTies
import Derived.KernelRfl
namespace Go.Proofs.Ytgaflnkefjmblaa
/- THE CELL 'sum', in the pinned program and in every row, IS THE sha256 OF THE DUMP (.gsa) THAT YtgaflnkefjmblaaProg.lean LOADS. Nothing in Lean hashes anything: it is a label: what it is worth is what the hold of that sum in a sandbox is worth. -/
noncomputable def Try.pinned : Pinned := { name := "ytgaflnkefjmblaa", sum := "4a612e26394c25347b452519622c31603d3d86c64deca1e22cc673d80db4e8db", checked := Try.checked }
namespace Rows
def none {H : Type} : Left H := { results := [], args := [] }

/-- 'laws.FnChainClash': WHATEVER THE INPUT: true; the input reads as it did. -/
def fnChainClashSpec : ChangeSpec := { name := "fnChainClash", fn := fun _ => fun
  | [d] => { results := [.lit (.bool true)], args := [d] }
  | _ => none }
def fnChainClashRow : OpenClaim := { program := "ytgaflnkefjmblaa", sum := "4a612e26394c25347b452519622c31603d3d86c64deca1e22cc673d80db4e8db", func := "loop.example/scot/laws.FnChainClash", spec := "fnChainClash", unfollowed := true, recurses := true, apart := false }
def FnChainClashSaid : Prop := fnChainClashRow.holds Try.pinned (OpenSpec.ofChange fnChainClashSpec)

/-- ITS FALSE NEIGHBOUR: 'it returns false'. Refute it at one input. -/
def fnChainClashWrong : ChangeSpec := { name := "fnChainClash", fn := fun _ => fun
  | [d] => { results := [.lit (.bool false)], args := [d] }
  | _ => none }
def FnChainClashWrongFalsely : Prop := fnChainClashRow.holds Try.pinned (OpenSpec.ofChange fnChainClashWrong)

/-- 'laws.FnChainOne': WHATEVER THE INPUT: true; the input reads as it did. -/
def fnChainOneSpec : ChangeSpec := { name := "fnChainOne", fn := fun _ => fun
  | [d1, d2] => { results := [.lit (.bool true)], args := [d1, d2] }
  | _ => none }
def fnChainOneRow : OpenClaim := { program := "ytgaflnkefjmblaa", sum := "4a612e26394c25347b452519622c31603d3d86c64deca1e22cc673d80db4e8db", func := "loop.example/scot/laws.FnChainOne", spec := "fnChainOne", apart := false }
def FnChainOneSaid : Prop := fnChainOneRow.holds Try.pinned (OpenSpec.ofChange fnChainOneSpec)

/-- ITS FALSE NEIGHBOUR: 'it returns false'. Refute it at one input. -/
def fnChainOneWrong : ChangeSpec := { name := "fnChainOne", fn := fun _ => fun
  | [d1, d2] => { results := [.lit (.bool false)], args := [d1, d2] }
  | _ => none }
def FnChainOneWrongFalsely : Prop := fnChainOneRow.holds Try.pinned (OpenSpec.ofChange fnChainOneWrong)

/-- 'laws.FnChainTail': WHATEVER THE INPUT: true; the input reads as it did. -/
def fnChainTailSpec : ChangeSpec := { name := "fnChainTail", fn := fun _ => fun
  | [d1, d2] => { results := [.lit (.bool true)], args := [d1, d2] }
  | _ => none }
def fnChainTailRow : OpenClaim := { program := "ytgaflnkefjmblaa", sum := "4a612e26394c25347b452519622c31603d3d86c64deca1e22cc673d80db4e8db", func := "loop.example/scot/laws.FnChainTail", spec := "fnChainTail", unfollowed := true, recurses := true, apart := false }
def FnChainTailSaid : Prop := fnChainTailRow.holds Try.pinned (OpenSpec.ofChange fnChainTailSpec)

/-- ITS FALSE NEIGHBOUR: 'it returns false'. Refute it at one input. -/
def fnChainTailWrong : ChangeSpec := { name := "fnChainTail", fn := fun _ => fun
  | [d1, d2] => { results := [.lit (.bool false)], args := [d1, d2] }
  | _ => none }
def FnChainTailWrongFalsely : Prop := fnChainTailRow.holds Try.pinned (OpenSpec.ofChange fnChainTailWrong)

/-- 'laws.FnExactChainMix': WHATEVER THE INPUT: true; the input reads as it did. -/
def fnExactChainMixSpec : ChangeSpec := { name := "fnExactChainMix", fn := fun _ => fun
  | [d1, d2] => { results := [.lit (.bool true)], args := [d1, d2] }
  | _ => none }
def fnExactChainMixRow : OpenClaim := { program := "ytgaflnkefjmblaa", sum := "4a612e26394c25347b452519622c31603d3d86c64deca1e22cc673d80db4e8db", func := "loop.example/scot/laws.FnExactChainMix", spec := "fnExactChainMix", apart := false }
def FnExactChainMixSaid : Prop := fnExactChainMixRow.holds Try.pinned (OpenSpec.ofChange fnExactChainMixSpec)

/-- ITS FALSE NEIGHBOUR: 'it returns false'. Refute it at one input. -/
def fnExactChainMixWrong : ChangeSpec := { name := "fnExactChainMix", fn := fun _ => fun
  | [d1, d2] => { results := [.lit (.bool false)], args := [d1, d2] }
  | _ => none }
def FnExactChainMixWrongFalsely : Prop := fnExactChainMixRow.holds Try.pinned (OpenSpec.ofChange fnExactChainMixWrong)

/-- 'laws.FnExactChainHead': WHATEVER THE INPUT: true; the input reads as it did. -/
def fnExactChainHeadSpec : ChangeSpec := { name := "fnExactChainHead", fn := fun _ => fun
  | [d] => { results := [.lit (.bool true)], args := [d] }
  | _ => none }
def fnExactChainHeadRow : OpenClaim := { program := "ytgaflnkefjmblaa", sum := "4a612e26394c25347b452519622c31603d3d86c64deca1e22cc673d80db4e8db", func := "loop.example/scot/laws.FnExactChainHead", spec := "fnExactChainHead", unfollowed := true, recurses := true, apart := false }
def FnExactChainHeadSaid : Prop := fnExactChainHeadRow.holds Try.pinned (OpenSpec.ofChange fnExactChainHeadSpec)

/-- ITS FALSE NEIGHBOUR: 'it returns false'. Refute it at one input. -/
def fnExactChainHeadWrong : ChangeSpec := { name := "fnExactChainHead", fn := fun _ => fun
  | [d] => { results := [.lit (.bool false)], args := [d] }
  | _ => none }
def FnExactChainHeadWrongFalsely : Prop := fnExactChainHeadRow.holds Try.pinned (OpenSpec.ofChange fnExactChainHeadWrong)

/-- 'laws.FnExactChainHeads': WHATEVER THE INPUT: true; the input reads as it did. -/
def fnExactChainHeadsSpec : ChangeSpec := { name := "fnExactChainHeads", fn := fun _ => fun
  | [d] => { results := [.lit (.bool true)], args := [d] }
  | _ => none }
def fnExactChainHeadsRow : OpenClaim := { program := "ytgaflnkefjmblaa", sum := "4a612e26394c25347b452519622c31603d3d86c64deca1e22cc673d80db4e8db", func := "loop.example/scot/laws.FnExactChainHeads", spec := "fnExactChainHeads", unfollowed := true, recurses := true, apart := false }
def FnExactChainHeadsSaid : Prop := fnExactChainHeadsRow.holds Try.pinned (OpenSpec.ofChange fnExactChainHeadsSpec)

/-- ITS FALSE NEIGHBOUR: 'it returns false'. Refute it at one input. -/
def fnExactChainHeadsWrong : ChangeSpec := { name := "fnExactChainHeads", fn := fun _ => fun
  | [d] => { results := [.lit (.bool false)], args := [d] }
  | _ => none }
def FnExactChainHeadsWrongFalsely : Prop := fnExactChainHeadsRow.holds Try.pinned (OpenSpec.ofChange fnExactChainHeadsWrong)

/-- 'laws.FnExactChainCheck': WHATEVER THE INPUT: true; the input reads as it did. -/
def fnExactChainCheckSpec : ChangeSpec := { name := "fnExactChainCheck", fn := fun _ => fun
  | [d1, d2] => { results := [.lit (.bool true)], args := [d1, d2] }
  | _ => none }
def fnExactChainCheckRow : OpenClaim := { program := "ytgaflnkefjmblaa", sum := "4a612e26394c25347b452519622c31603d3d86c64deca1e22cc673d80db4e8db", func := "loop.example/scot/laws.FnExactChainCheck", spec := "fnExactChainCheck", unfollowed := true, recurses := true, apart := false }
def FnExactChainCheckSaid : Prop := fnExactChainCheckRow.holds Try.pinned (OpenSpec.ofChange fnExactChainCheckSpec)

/-- ITS FALSE NEIGHBOUR: 'it returns false'. Refute it at one input. -/
def fnExactChainCheckWrong : ChangeSpec := { name := "fnExactChainCheck", fn := fun _ => fun
  | [d1, d2] => { results := [.lit (.bool false)], args := [d1, d2] }
  | _ => none }
def FnExactChainCheckWrongFalsely : Prop := fnExactChainCheckRow.holds Try.pinned (OpenSpec.ofChange fnExactChainCheckWrong)

/-- 'laws.FnExactChainClash': WHATEVER THE INPUT: true; the input reads as it did. -/
def fnExactChainClashSpec : ChangeSpec := { name := "fnExactChainClash", fn := fun _ => fun
  | [d1, d2] => { results := [.lit (.bool true)], args := [d1, d2] }
  | _ => none }
def fnExactChainClashRow : OpenClaim := { program := "ytgaflnkefjmblaa", sum := "4a612e26394c25347b452519622c31603d3d86c64deca1e22cc673d80db4e8db", func := "loop.example/scot/laws.FnExactChainClash", spec := "fnExactChainClash", unfollowed := true, recurses := true, apart := false }
def FnExactChainClashSaid : Prop := fnExactChainClashRow.holds Try.pinned (OpenSpec.ofChange fnExactChainClashSpec)

/-- ITS FALSE NEIGHBOUR: 'it returns false'. Refute it at one input. -/
def fnExactChainClashWrong : ChangeSpec := { name := "fnExactChainClash", fn := fun _ => fun
  | [d1, d2] => { results := [.lit (.bool false)], args := [d1, d2] }
  | _ => none }
def FnExactChainClashWrongFalsely : Prop := fnExactChainClashRow.holds Try.pinned (OpenSpec.ofChange fnExactChainClashWrong)

/- THE SECOND FORM. 'bulk': how many values and letters a reading holds, each counted each time it is reached (what is shared counts as often as it is met; a slice's spare places count too). A statement '..UptoSaid' is the law's where the arguments, and the package variables that the reading takes, are together of bulk at most 1048576: NARROWER than '..Said'. Prove '..Said' where nothing that the law and all that it calls make is longer than what came in: it says more and counts as full. Else prove '..UptoSaid'. A law counts once. -/
mutual
def uptoBulk {H : Type} : DataW H → Nat
  | .lit (.string bytes) => bytes.length + 1
  | .lit _ => 1
  | .nil => 1
  | .ptr d => uptoBulk d + 1
  | .slice elems spare => uptoBulkAll elems + uptoBulkAll spare + 1
  | .agg parts => uptoBulkAll parts + 1
  | .iface _ d => uptoBulk d + 1
  | .map entries => uptoBulkEntries entries + 1
  | .held _ => 1
def uptoBulkAll {H : Type} : List (DataW H) → Nat
  | [] => 0
  | d :: r => uptoBulk d + uptoBulkAll r
def uptoBulkEntries {H : Type} : List (Lit × DataW H) → Nat
  | [] => 0
  | x :: r => uptoBulkEntry x + uptoBulkEntries r
def uptoBulkEntry {H : Type} : Lit × DataW H → Nat
  | (.string bytes, d) => bytes.length + uptoBulk d + 1
  | (_, d) => uptoBulk d + 1
 end
def uptoSmall : (H : Type) → List (DataW H) → Bool := fun _ ds => decide (uptoBulkAll ds ≤ 1048576)
def OpenSpec.upto (s : _root_.Go.ChangeSpec) : _root_.Go.OpenSpec := { _root_.Go.OpenSpec.ofChange s with cond := some uptoSmall }

/-- 'laws.FnChainClash', WHERE WHAT IT READS IS OF BULK AT MOST 1048576: true; the input reads as it did. -/
def fnChainClashUptoRow : OpenClaim := { program := "ytgaflnkefjmblaa", sum := "4a612e26394c25347b452519622c31603d3d86c64deca1e22cc673d80db4e8db", func := "loop.example/scot/laws.FnChainClash", spec := "fnChainClash", unfollowed := true, recurses := true, apart := false, narrowed := true }
def FnChainClashUptoSaid : Prop := fnChainClashUptoRow.holds Try.pinned (OpenSpec.upto fnChainClashSpec)

/-- 'laws.FnChainOne', WHERE WHAT IT READS IS OF BULK AT MOST 1048576: true; the input reads as it did. -/
def fnChainOneUptoRow : OpenClaim := { program := "ytgaflnkefjmblaa", sum := "4a612e26394c25347b452519622c31603d3d86c64deca1e22cc673d80db4e8db", func := "loop.example/scot/laws.FnChainOne", spec := "fnChainOne", apart := false, narrowed := true }
def FnChainOneUptoSaid : Prop := fnChainOneUptoRow.holds Try.pinned (OpenSpec.upto fnChainOneSpec)

/-- 'laws.FnChainTail', WHERE WHAT IT READS IS OF BULK AT MOST 1048576: true; the input reads as it did. -/
def fnChainTailUptoRow : OpenClaim := { program := "ytgaflnkefjmblaa", sum := "4a612e26394c25347b452519622c31603d3d86c64deca1e22cc673d80db4e8db", func := "loop.example/scot/laws.FnChainTail", spec := "fnChainTail", unfollowed := true, recurses := true, apart := false, narrowed := true }
def FnChainTailUptoSaid : Prop := fnChainTailUptoRow.holds Try.pinned (OpenSpec.upto fnChainTailSpec)

/-- 'laws.FnExactChainMix', WHERE WHAT IT READS IS OF BULK AT MOST 1048576: true; the input reads as it did. -/
def fnExactChainMixUptoRow : OpenClaim := { program := "ytgaflnkefjmblaa", sum := "4a612e26394c25347b452519622c31603d3d86c64deca1e22cc673d80db4e8db", func := "loop.example/scot/laws.FnExactChainMix", spec := "fnExactChainMix", apart := false, narrowed := true }
def FnExactChainMixUptoSaid : Prop := fnExactChainMixUptoRow.holds Try.pinned (OpenSpec.upto fnExactChainMixSpec)

/-- 'laws.FnExactChainHead', WHERE WHAT IT READS IS OF BULK AT MOST 1048576: true; the input reads as it did. -/
def fnExactChainHeadUptoRow : OpenClaim := { program := "ytgaflnkefjmblaa", sum := "4a612e26394c25347b452519622c31603d3d86c64deca1e22cc673d80db4e8db", func := "loop.example/scot/laws.FnExactChainHead", spec := "fnExactChainHead", unfollowed := true, recurses := true, apart := false, narrowed := true }
def FnExactChainHeadUptoSaid : Prop := fnExactChainHeadUptoRow.holds Try.pinned (OpenSpec.upto fnExactChainHeadSpec)

/-- 'laws.FnExactChainHeads', WHERE WHAT IT READS IS OF BULK AT MOST 1048576: true; the input reads as it did. -/
def fnExactChainHeadsUptoRow : OpenClaim := { program := "ytgaflnkefjmblaa", sum := "4a612e26394c25347b452519622c31603d3d86c64deca1e22cc673d80db4e8db", func := "loop.example/scot/laws.FnExactChainHeads", spec := "fnExactChainHeads", unfollowed := true, recurses := true, apart := false, narrowed := true }
def FnExactChainHeadsUptoSaid : Prop := fnExactChainHeadsUptoRow.holds Try.pinned (OpenSpec.upto fnExactChainHeadsSpec)

/-- 'laws.FnExactChainCheck', WHERE WHAT IT READS IS OF BULK AT MOST 1048576: true; the input reads as it did. -/
def fnExactChainCheckUptoRow : OpenClaim := { program := "ytgaflnkefjmblaa", sum := "4a612e26394c25347b452519622c31603d3d86c64deca1e22cc673d80db4e8db", func := "loop.example/scot/laws.FnExactChainCheck", spec := "fnExactChainCheck", unfollowed := true, recurses := true, apart := false, narrowed := true }
def FnExactChainCheckUptoSaid : Prop := fnExactChainCheckUptoRow.holds Try.pinned (OpenSpec.upto fnExactChainCheckSpec)

/-- 'laws.FnExactChainClash', WHERE WHAT IT READS IS OF BULK AT MOST 1048576: true; the input reads as it did. -/
def fnExactChainClashUptoRow : OpenClaim := { program := "ytgaflnkefjmblaa", sum := "4a612e26394c25347b452519622c31603d3d86c64deca1e22cc673d80db4e8db", func := "loop.example/scot/laws.FnExactChainClash", spec := "fnExactChainClash", unfollowed := true, recurses := true, apart := false, narrowed := true }
def FnExactChainClashUptoSaid : Prop := fnExactChainClashUptoRow.holds Try.pinned (OpenSpec.upto fnExactChainClashSpec)

end Rows
end Go.Proofs.Ytgaflnkefjmblaa
