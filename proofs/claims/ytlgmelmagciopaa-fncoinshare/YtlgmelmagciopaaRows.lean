/-
  No cell of these rows narrows 'for every input' (looked for: loops, veiled, ifaces, maps, wideKeys, modest, calm, conditions, laid).
  DERIVED. THE GIVEN ROWS OF THIS SEAT. 8 by the template 'for every input the law returns true; each argument reads behind the call as it read before'; 0 by the template 'total and deterministic' (their statements: YtlgmelmagciopaaTotals.lean).
  GIVEN WITH THE SEED: the statements are not yours to turn. If you find one false, say at which input.
  Laid BY PROGRAM, IN A SANDBOX (cutbox-rows.mjs): the forced cells as the released guide's own fill.sh prints them over the translation 862ec22a17157397… (all of the seat's roots in one cut). By AI agents, Wed Nov 11 2026. No macro, syntax, notation, axiom, sorry.
-/
import Derived.Test.YtlgmelmagciopaaChecked
import GoSem.Claim
import GoSem.ClaimJoined
import GoSem.ClaimMapViews
import Derived.JoinedTies
import Derived.KernelRfl
namespace Go.Proofs.Ytlgmelmagciopaa
/- THE CELL 'sum', in the pinned program and in every row, IS THE sha256 OF THE DUMP (.gsa) THAT YtlgmelmagciopaaProg.lean LOADS. Nothing in Lean hashes anything: it is a label: what it is worth is what the hold of that sum in a sandbox is worth. -/
noncomputable def Try.pinned : Pinned := { name := "ytlgmelmagciopaa", sum := "862ec22a1715739752856d139dac49abc07232857dbb4f5cb8588f35710a17e5", checked := Try.checked }
namespace Rows
def none {H : Type} : Left H := { results := [], args := [] }

/-- 'laws.FnCoinPart': WHATEVER THE INPUT: true; the input reads as it did. -/
def fnCoinPartSpec : ChangeSpec := { name := "fnCoinPart", fn := fun _ => fun
  | [d] => { results := [.lit (.bool true)], args := [d] }
  | _ => none }
def fnCoinPartRow : OpenClaim := { program := "ytlgmelmagciopaa", sum := "862ec22a1715739752856d139dac49abc07232857dbb4f5cb8588f35710a17e5", func := "loop.example/scot/laws.FnCoinPart", spec := "fnCoinPart", unfollowed := true, recurses := true, apart := false }
def FnCoinPartSaid : Prop := fnCoinPartRow.holds Try.pinned (OpenSpec.ofChange fnCoinPartSpec)

/-- ITS FALSE NEIGHBOUR: 'it returns false'. Refute it at one input. -/
def fnCoinPartWrong : ChangeSpec := { name := "fnCoinPart", fn := fun _ => fun
  | [d] => { results := [.lit (.bool false)], args := [d] }
  | _ => none }
def FnCoinPartWrongFalsely : Prop := fnCoinPartRow.holds Try.pinned (OpenSpec.ofChange fnCoinPartWrong)

/-- 'laws.FnCoinShare': WHATEVER THE INPUT: true; the input reads as it did. -/
def fnCoinShareSpec : ChangeSpec := { name := "fnCoinShare", fn := fun _ => fun
  | [d] => { results := [.lit (.bool true)], args := [d] }
  | _ => none }
def fnCoinShareRow : OpenClaim := { program := "ytlgmelmagciopaa", sum := "862ec22a1715739752856d139dac49abc07232857dbb4f5cb8588f35710a17e5", func := "loop.example/scot/laws.FnCoinShare", spec := "fnCoinShare", unfollowed := true, recurses := true, apart := false }
def FnCoinShareSaid : Prop := fnCoinShareRow.holds Try.pinned (OpenSpec.ofChange fnCoinShareSpec)

/-- ITS FALSE NEIGHBOUR: 'it returns false'. Refute it at one input. -/
def fnCoinShareWrong : ChangeSpec := { name := "fnCoinShare", fn := fun _ => fun
  | [d] => { results := [.lit (.bool false)], args := [d] }
  | _ => none }
def FnCoinShareWrongFalsely : Prop := fnCoinShareRow.holds Try.pinned (OpenSpec.ofChange fnCoinShareWrong)

/-- 'laws.FnCoinSum': WHATEVER THE INPUT: true; the input reads as it did. -/
def fnCoinSumSpec : ChangeSpec := { name := "fnCoinSum", fn := fun _ => fun
  | [d1, d2] => { results := [.lit (.bool true)], args := [d1, d2] }
  | _ => none }
def fnCoinSumRow : OpenClaim := { program := "ytlgmelmagciopaa", sum := "862ec22a1715739752856d139dac49abc07232857dbb4f5cb8588f35710a17e5", func := "loop.example/scot/laws.FnCoinSum", spec := "fnCoinSum", unfollowed := true, recurses := true, apart := false }
def FnCoinSumSaid : Prop := fnCoinSumRow.holds Try.pinned (OpenSpec.ofChange fnCoinSumSpec)

/-- ITS FALSE NEIGHBOUR: 'it returns false'. Refute it at one input. -/
def fnCoinSumWrong : ChangeSpec := { name := "fnCoinSum", fn := fun _ => fun
  | [d1, d2] => { results := [.lit (.bool false)], args := [d1, d2] }
  | _ => none }
def FnCoinSumWrongFalsely : Prop := fnCoinSumRow.holds Try.pinned (OpenSpec.ofChange fnCoinSumWrong)

/-- 'laws.FnExactCoinOk': WHATEVER THE INPUT: true; the input reads as it did. -/
def fnExactCoinOkSpec : ChangeSpec := { name := "fnExactCoinOk", fn := fun _ => fun
  | [d] => { results := [.lit (.bool true)], args := [d] }
  | _ => none }
def fnExactCoinOkRow : OpenClaim := { program := "ytlgmelmagciopaa", sum := "862ec22a1715739752856d139dac49abc07232857dbb4f5cb8588f35710a17e5", func := "loop.example/scot/laws.FnExactCoinOk", spec := "fnExactCoinOk", apart := false }
def FnExactCoinOkSaid : Prop := fnExactCoinOkRow.holds Try.pinned (OpenSpec.ofChange fnExactCoinOkSpec)

/-- ITS FALSE NEIGHBOUR: 'it returns false'. Refute it at one input. -/
def fnExactCoinOkWrong : ChangeSpec := { name := "fnExactCoinOk", fn := fun _ => fun
  | [d] => { results := [.lit (.bool false)], args := [d] }
  | _ => none }
def FnExactCoinOkWrongFalsely : Prop := fnExactCoinOkRow.holds Try.pinned (OpenSpec.ofChange fnExactCoinOkWrong)

/-- 'laws.FnExactCoinAdd': WHATEVER THE INPUT: true; the input reads as it did. -/
def fnExactCoinAddSpec : ChangeSpec := { name := "fnExactCoinAdd", fn := fun _ => fun
  | [d1, d2] => { results := [.lit (.bool true)], args := [d1, d2] }
  | _ => none }
def fnExactCoinAddRow : OpenClaim := { program := "ytlgmelmagciopaa", sum := "862ec22a1715739752856d139dac49abc07232857dbb4f5cb8588f35710a17e5", func := "loop.example/scot/laws.FnExactCoinAdd", spec := "fnExactCoinAdd", apart := false }
def FnExactCoinAddSaid : Prop := fnExactCoinAddRow.holds Try.pinned (OpenSpec.ofChange fnExactCoinAddSpec)

/-- ITS FALSE NEIGHBOUR: 'it returns false'. Refute it at one input. -/
def fnExactCoinAddWrong : ChangeSpec := { name := "fnExactCoinAdd", fn := fun _ => fun
  | [d1, d2] => { results := [.lit (.bool false)], args := [d1, d2] }
  | _ => none }
def FnExactCoinAddWrongFalsely : Prop := fnExactCoinAddRow.holds Try.pinned (OpenSpec.ofChange fnExactCoinAddWrong)

/-- 'laws.FnExactCoinTimes': WHATEVER THE INPUT: true; the input reads as it did. -/
def fnExactCoinTimesSpec : ChangeSpec := { name := "fnExactCoinTimes", fn := fun _ => fun
  | [d1, d2] => { results := [.lit (.bool true)], args := [d1, d2] }
  | _ => none }
def fnExactCoinTimesRow : OpenClaim := { program := "ytlgmelmagciopaa", sum := "862ec22a1715739752856d139dac49abc07232857dbb4f5cb8588f35710a17e5", func := "loop.example/scot/laws.FnExactCoinTimes", spec := "fnExactCoinTimes", apart := false }
def FnExactCoinTimesSaid : Prop := fnExactCoinTimesRow.holds Try.pinned (OpenSpec.ofChange fnExactCoinTimesSpec)

/-- ITS FALSE NEIGHBOUR: 'it returns false'. Refute it at one input. -/
def fnExactCoinTimesWrong : ChangeSpec := { name := "fnExactCoinTimes", fn := fun _ => fun
  | [d1, d2] => { results := [.lit (.bool false)], args := [d1, d2] }
  | _ => none }
def FnExactCoinTimesWrongFalsely : Prop := fnExactCoinTimesRow.holds Try.pinned (OpenSpec.ofChange fnExactCoinTimesWrong)

/-- 'laws.FnExactCoinPart': WHATEVER THE INPUT: true; the input reads as it did. -/
def fnExactCoinPartSpec : ChangeSpec := { name := "fnExactCoinPart", fn := fun _ => fun
  | [d1, d2, d3] => { results := [.lit (.bool true)], args := [d1, d2, d3] }
  | _ => none }
def fnExactCoinPartRow : OpenClaim := { program := "ytlgmelmagciopaa", sum := "862ec22a1715739752856d139dac49abc07232857dbb4f5cb8588f35710a17e5", func := "loop.example/scot/laws.FnExactCoinPart", spec := "fnExactCoinPart", unfollowed := true, recurses := true, apart := false }
def FnExactCoinPartSaid : Prop := fnExactCoinPartRow.holds Try.pinned (OpenSpec.ofChange fnExactCoinPartSpec)

/-- ITS FALSE NEIGHBOUR: 'it returns false'. Refute it at one input. -/
def fnExactCoinPartWrong : ChangeSpec := { name := "fnExactCoinPart", fn := fun _ => fun
  | [d1, d2, d3] => { results := [.lit (.bool false)], args := [d1, d2, d3] }
  | _ => none }
def FnExactCoinPartWrongFalsely : Prop := fnExactCoinPartRow.holds Try.pinned (OpenSpec.ofChange fnExactCoinPartWrong)

/-- 'laws.FnExactCoinShare': WHATEVER THE INPUT: true; the input reads as it did. -/
def fnExactCoinShareSpec : ChangeSpec := { name := "fnExactCoinShare", fn := fun _ => fun
  | [d1, d2] => { results := [.lit (.bool true)], args := [d1, d2] }
  | _ => none }
def fnExactCoinShareRow : OpenClaim := { program := "ytlgmelmagciopaa", sum := "862ec22a1715739752856d139dac49abc07232857dbb4f5cb8588f35710a17e5", func := "loop.example/scot/laws.FnExactCoinShare", spec := "fnExactCoinShare", unfollowed := true, recurses := true, apart := false }
def FnExactCoinShareSaid : Prop := fnExactCoinShareRow.holds Try.pinned (OpenSpec.ofChange fnExactCoinShareSpec)

/-- ITS FALSE NEIGHBOUR: 'it returns false'. Refute it at one input. -/
def fnExactCoinShareWrong : ChangeSpec := { name := "fnExactCoinShare", fn := fun _ => fun
  | [d1, d2] => { results := [.lit (.bool false)], args := [d1, d2] }
  | _ => none }
def FnExactCoinShareWrongFalsely : Prop := fnExactCoinShareRow.holds Try.pinned (OpenSpec.ofChange fnExactCoinShareWrong)

/- THE SECOND FORM. 'bulk': how many values and letters a reading holds, each counted each time it is reached (what is shared counts as often as it is met; a slice's spare places count too). A statement '..UptoSaid' is the law's where the arguments, and the package variables that the reading takes, are together of bulk at most 1048576: NARROWER than '..Said'. Prove '..Said' where nothing that the law and all that it calls make is longer than what came in: it says more and counts as full. Else prove '..UptoSaid'. A law counts once. -/
mutual
def uptoBulk {H : Type} : DataW H → Nat
  | .lit (.string bytes) => bytes.length + 1
  | .lit _ => 1
  | .nil => 1
  | .ptr d => uptoBulk d + 1
  | .slice elems spare => uptoBulkAll elems + uptoBulkAll spare + 1
  | .agg parts => uptoBulkAll parts + 1
  | .iface _ d => uptoBulk d + 1
  | .map entries => uptoBulkEntries entries + 1
  | .held _ => 1
def uptoBulkAll {H : Type} : List (DataW H) → Nat
  | [] => 0
  | d :: r => uptoBulk d + uptoBulkAll r
def uptoBulkEntries {H : Type} : List (Lit × DataW H) → Nat
  | [] => 0
  | x :: r => uptoBulkEntry x + uptoBulkEntries r
def uptoBulkEntry {H : Type} : Lit × DataW H → Nat
  | (.string bytes, d) => bytes.length + uptoBulk d + 1
  | (_, d) => uptoBulk d + 1
 end
def uptoSmall : (H : Type) → List (DataW H) → Bool := fun _ ds => decide (uptoBulkAll ds ≤ 1048576)
def OpenSpec.upto (s : _root_.Go.ChangeSpec) : _root_.Go.OpenSpec := { _root_.Go.OpenSpec.ofChange s with cond := some uptoSmall }

/-- 'laws.FnCoinPart', WHERE WHAT IT READS IS OF BULK AT MOST 1048576: true; the input reads as it did. -/
def fnCoinPartUptoRow : OpenClaim := { program := "ytlgmelmagciopaa", sum := "862ec22a1715739752856d139dac49abc07232857dbb4f5cb8588f35710a17e5", func := "loop.example/scot/laws.FnCoinPart", spec := "fnCoinPart", unfollowed := true, recurses := true, apart := false, narrowed := true }
def FnCoinPartUptoSaid : Prop := fnCoinPartUptoRow.holds Try.pinned (OpenSpec.upto fnCoinPartSpec)

/-- 'laws.FnCoinShare', WHERE WHAT IT READS IS OF BULK AT MOST 1048576: true; the input reads as it did. -/
def fnCoinShareUptoRow : OpenClaim := { program := "ytlgmelmagciopaa", sum := "862ec22a1715739752856d139dac49abc07232857dbb4f5cb8588f35710a17e5", func := "loop.example/scot/laws.FnCoinShare", spec := "fnCoinShare", unfollowed := true, recurses := true, apart := false, narrowed := true }
def FnCoinShareUptoSaid : Prop := fnCoinShareUptoRow.holds Try.pinned (OpenSpec.upto fnCoinShareSpec)

/-- 'laws.FnCoinSum', WHERE WHAT IT READS IS OF BULK AT MOST 1048576: true; the input reads as it did. -/
def fnCoinSumUptoRow : OpenClaim := { program := "ytlgmelmagciopaa", sum := "862ec22a1715739752856d139dac49abc07232857dbb4f5cb8588f35710a17e5", func := "loop.example/scot/laws.FnCoinSum", spec := "fnCoinSum", unfollowed := true, recurses := true, apart := false, narrowed := true }
def FnCoinSumUptoSaid : Prop := fnCoinSumUptoRow.holds Try.pinned (OpenSpec.upto fnCoinSumSpec)

/-- 'laws.FnExactCoinOk', WHERE WHAT IT READS IS OF BULK AT MOST 1048576: true; the input reads as it did. -/
def fnExactCoinOkUptoRow : OpenClaim := { program := "ytlgmelmagciopaa", sum := "862ec22a1715739752856d139dac49abc07232857dbb4f5cb8588f35710a17e5", func := "loop.example/scot/laws.FnExactCoinOk", spec := "fnExactCoinOk", apart := false, narrowed := true }
def FnExactCoinOkUptoSaid : Prop := fnExactCoinOkUptoRow.holds Try.pinned (OpenSpec.upto fnExactCoinOkSpec)

/-- 'laws.FnExactCoinAdd', WHERE WHAT IT READS IS OF BULK AT MOST 1048576: true; the input reads as it did. -/
def fnExactCoinAddUptoRow : OpenClaim := { program := "ytlgmelmagciopaa", sum := "862ec22a1715739752856d139dac49abc07232857dbb4f5cb8588f35710a17e5", func := "loop.example/scot/laws.FnExactCoinAdd", spec := "fnExactCoinAdd", apart := false, narrowed := true }
def FnExactCoinAddUptoSaid : Prop := fnExactCoinAddUptoRow.holds Try.pinned (OpenSpec.upto fnExactCoinAddSpec)

/-- 'laws.FnExactCoinTimes', WHERE WHAT IT READS IS OF BULK AT MOST 1048576: true; the input reads as it did. -/
def fnExactCoinTimesUptoRow : OpenClaim := { program := "ytlgmelmagciopaa", sum := "862ec22a1715739752856d139dac49abc07232857dbb4f5cb8588f35710a17e5", func := "loop.example/scot/laws.FnExactCoinTimes", spec := "fnExactCoinTimes", apart := false, narrowed := true }
def FnExactCoinTimesUptoSaid : Prop := fnExactCoinTimesUptoRow.holds Try.pinned (OpenSpec.upto fnExactCoinTimesSpec)

/-- 'laws.FnExactCoinPart', WHERE WHAT IT READS IS OF BULK AT MOST 1048576: true; the input reads as it did. -/
def fnExactCoinPartUptoRow : OpenClaim := { program := "ytlgmelmagciopaa", sum := "862ec22a1715739752856d139dac49abc07232857dbb4f5cb8588f35710a17e5", func := "loop.example/scot/laws.FnExactCoinPart", spec := "fnExactCoinPart", unfollowed := true, recurses := true, apart := false, narrowed := true }
def FnExactCoinPartUptoSaid : Prop := fnExactCoinPartUptoRow.holds Try.pinned (OpenSpec.upto fnExactCoinPartSpec)

/-- 'laws.FnExactCoinShare', WHERE WHAT IT READS IS OF BULK AT MOST 1048576: true; the input reads as it did. -/
def fnExactCoinShareUptoRow : OpenClaim := { program := "ytlgmelmagciopaa", sum := "862ec22a1715739752856d139dac49abc07232857dbb4f5cb8588f35710a17e5", func := "loop.example/scot/laws.FnExactCoinShare", spec := "fnExactCoinShare", unfollowed := true, recurses := true, apart := false, narrowed := true }
def FnExactCoinShareUptoSaid : Prop := fnExactCoinShareUptoRow.holds Try.pinned (OpenSpec.upto fnExactCoinShareSpec)

end Rows
end Go.Proofs.Ytlgmelmagciopaa
