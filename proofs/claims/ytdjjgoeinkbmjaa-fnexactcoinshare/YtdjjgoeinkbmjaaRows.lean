/-
  NARROWER THAN 'FOR EVERY INPUT', by the rows' own cells (each row's printed sentence says how): FnExactRuleText: loops.
  DERIVED. THE GIVEN ROWS OF THIS SEAT. 7 by the template 'for every input the law returns true; each argument reads behind the call as it read before'; 0 by the template 'total and deterministic' (their statements: YtdjjgoeinkbmjaaTotals.lean).
  GIVEN WITH THE SEED: the statements are not yours to turn. If you find one false, say at which input.
  Laid BY PROGRAM, IN A SANDBOX (cutbox-rows.mjs): the forced cells as the released guide's own fill.sh prints them over the translation 2c1a1468ddf19e2b… (all of the seat's roots in one cut). By AI agents, Wed Nov 11 2026. No macro, syntax, notation, axiom, sorry.
-/
import Derived.Test.YtdjjgoeinkbmjaaChecked
import GoSem.Claim
import GoSem.ClaimJoined
import GoSem.ClaimMapViews
import Derived.JoinedTies
import Derived.KernelRfl
namespace Go.Proofs.Ytdjjgoeinkbmjaa
/- THE CELL 'sum', in the pinned program and in every row, IS THE sha256 OF THE DUMP (.gsa) THAT YtdjjgoeinkbmjaaProg.lean LOADS. Nothing in Lean hashes anything: it is a label: what it is worth is what the hold of that sum in a sandbox is worth. -/
noncomputable def Try.pinned : Pinned := { name := "ytdjjgoeinkbmjaa", sum := "2c1a1468ddf19e2ba5cd0da1d3815ca6346eb106d3ed3591324fce47ae8748fe", checked := Try.checked }
namespace Rows
def none {H : Type} : Left H := { results := [], args := [] }

/-- 'laws.FnExactCoinShare': WHATEVER THE INPUT: true; the input reads as it did. -/
def fnExactCoinShareSpec : ChangeSpec := { name := "fnExactCoinShare", fn := fun _ => fun
  | [d1, d2] => { results := [.lit (.bool true)], args := [d1, d2] }
  | _ => none }
def fnExactCoinShareRow : OpenClaim := { program := "ytdjjgoeinkbmjaa", sum := "2c1a1468ddf19e2ba5cd0da1d3815ca6346eb106d3ed3591324fce47ae8748fe", func := "loop.example/scot/laws.FnExactCoinShare", spec := "fnExactCoinShare", unfollowed := true, recurses := true, apart := false }
def FnExactCoinShareSaid : Prop := fnExactCoinShareRow.holds Try.pinned (OpenSpec.ofChange fnExactCoinShareSpec)

/-- ITS FALSE NEIGHBOUR: 'it returns false'. Refute it at one input. -/
def fnExactCoinShareWrong : ChangeSpec := { name := "fnExactCoinShare", fn := fun _ => fun
  | [d1, d2] => { results := [.lit (.bool false)], args := [d1, d2] }
  | _ => none }
def FnExactCoinShareWrongFalsely : Prop := fnExactCoinShareRow.holds Try.pinned (OpenSpec.ofChange fnExactCoinShareWrong)

/-- 'laws.FnExactRuleText': WHATEVER THE INPUT: true; the input reads as it did. -/
def fnExactRuleTextSpec : ChangeSpec := { name := "fnExactRuleText", fn := fun _ => fun
  | [d] => { results := [.lit (.bool true)], args := [d] }
  | _ => none }
def fnExactRuleTextRow : OpenClaim := { program := "ytdjjgoeinkbmjaa", sum := "2c1a1468ddf19e2ba5cd0da1d3815ca6346eb106d3ed3591324fce47ae8748fe", func := "loop.example/scot/laws.FnExactRuleText", spec := "fnExactRuleText", inPlace := ["internal/abi.NoEscape", "internal/bytealg.MakeNoZero"], unfollowed := true, recurses := true, loops := true, apart := false }
def FnExactRuleTextSaid : Prop := fnExactRuleTextRow.holds Try.pinned (OpenSpec.ofChange fnExactRuleTextSpec)

/-- ITS FALSE NEIGHBOUR: 'it returns false'. Refute it at one input. -/
def fnExactRuleTextWrong : ChangeSpec := { name := "fnExactRuleText", fn := fun _ => fun
  | [d] => { results := [.lit (.bool false)], args := [d] }
  | _ => none }
def FnExactRuleTextWrongFalsely : Prop := fnExactRuleTextRow.holds Try.pinned (OpenSpec.ofChange fnExactRuleTextWrong)

/-- 'laws.FnExactUseOk': WHATEVER THE INPUT: true; the input reads as it did. -/
def fnExactUseOkSpec : ChangeSpec := { name := "fnExactUseOk", fn := fun _ => fun
  | [d] => { results := [.lit (.bool true)], args := [d] }
  | _ => none }
def fnExactUseOkRow : OpenClaim := { program := "ytdjjgoeinkbmjaa", sum := "2c1a1468ddf19e2ba5cd0da1d3815ca6346eb106d3ed3591324fce47ae8748fe", func := "loop.example/scot/laws.FnExactUseOk", spec := "fnExactUseOk", unfollowed := true, recurses := true, apart := false }
def FnExactUseOkSaid : Prop := fnExactUseOkRow.holds Try.pinned (OpenSpec.ofChange fnExactUseOkSpec)

/-- ITS FALSE NEIGHBOUR: 'it returns false'. Refute it at one input. -/
def fnExactUseOkWrong : ChangeSpec := { name := "fnExactUseOk", fn := fun _ => fun
  | [d] => { results := [.lit (.bool false)], args := [d] }
  | _ => none }
def FnExactUseOkWrongFalsely : Prop := fnExactUseOkRow.holds Try.pinned (OpenSpec.ofChange fnExactUseOkWrong)

/-- 'laws.FnExactUsePut': WHATEVER THE INPUT: true; the input reads as it did. -/
def fnExactUsePutSpec : ChangeSpec := { name := "fnExactUsePut", fn := fun _ => fun
  | [d1, d2] => { results := [.lit (.bool true)], args := [d1, d2] }
  | _ => none }
def fnExactUsePutRow : OpenClaim := { program := "ytdjjgoeinkbmjaa", sum := "2c1a1468ddf19e2ba5cd0da1d3815ca6346eb106d3ed3591324fce47ae8748fe", func := "loop.example/scot/laws.FnExactUsePut", spec := "fnExactUsePut", unfollowed := true, recurses := true, apart := false }
def FnExactUsePutSaid : Prop := fnExactUsePutRow.holds Try.pinned (OpenSpec.ofChange fnExactUsePutSpec)

/-- ITS FALSE NEIGHBOUR: 'it returns false'. Refute it at one input. -/
def fnExactUsePutWrong : ChangeSpec := { name := "fnExactUsePut", fn := fun _ => fun
  | [d1, d2] => { results := [.lit (.bool false)], args := [d1, d2] }
  | _ => none }
def FnExactUsePutWrongFalsely : Prop := fnExactUsePutRow.holds Try.pinned (OpenSpec.ofChange fnExactUsePutWrong)

/-- 'laws.FnExactUseFix': WHATEVER THE INPUT: true; the input reads as it did. -/
def fnExactUseFixSpec : ChangeSpec := { name := "fnExactUseFix", fn := fun _ => fun
  | [d1, d2, d3] => { results := [.lit (.bool true)], args := [d1, d2, d3] }
  | _ => none }
def fnExactUseFixRow : OpenClaim := { program := "ytdjjgoeinkbmjaa", sum := "2c1a1468ddf19e2ba5cd0da1d3815ca6346eb106d3ed3591324fce47ae8748fe", func := "loop.example/scot/laws.FnExactUseFix", spec := "fnExactUseFix", unfollowed := true, recurses := true, apart := false }
def FnExactUseFixSaid : Prop := fnExactUseFixRow.holds Try.pinned (OpenSpec.ofChange fnExactUseFixSpec)

/-- ITS FALSE NEIGHBOUR: 'it returns false'. Refute it at one input. -/
def fnExactUseFixWrong : ChangeSpec := { name := "fnExactUseFix", fn := fun _ => fun
  | [d1, d2, d3] => { results := [.lit (.bool false)], args := [d1, d2, d3] }
  | _ => none }
def FnExactUseFixWrongFalsely : Prop := fnExactUseFixRow.holds Try.pinned (OpenSpec.ofChange fnExactUseFixWrong)

/-- 'laws.FnExactUseSums': WHATEVER THE INPUT: true; the input reads as it did. -/
def fnExactUseSumsSpec : ChangeSpec := { name := "fnExactUseSums", fn := fun _ => fun
  | [d] => { results := [.lit (.bool true)], args := [d] }
  | _ => none }
def fnExactUseSumsRow : OpenClaim := { program := "ytdjjgoeinkbmjaa", sum := "2c1a1468ddf19e2ba5cd0da1d3815ca6346eb106d3ed3591324fce47ae8748fe", func := "loop.example/scot/laws.FnExactUseSums", spec := "fnExactUseSums", unfollowed := true, recurses := true, apart := false }
def FnExactUseSumsSaid : Prop := fnExactUseSumsRow.holds Try.pinned (OpenSpec.ofChange fnExactUseSumsSpec)

/-- ITS FALSE NEIGHBOUR: 'it returns false'. Refute it at one input. -/
def fnExactUseSumsWrong : ChangeSpec := { name := "fnExactUseSums", fn := fun _ => fun
  | [d] => { results := [.lit (.bool false)], args := [d] }
  | _ => none }
def FnExactUseSumsWrongFalsely : Prop := fnExactUseSumsRow.holds Try.pinned (OpenSpec.ofChange fnExactUseSumsWrong)

/-- 'laws.FnExactBillSame': WHATEVER THE INPUT: true; the input reads as it did. -/
def fnExactBillSameSpec : ChangeSpec := { name := "fnExactBillSame", fn := fun _ => fun
  | [d1, d2] => { results := [.lit (.bool true)], args := [d1, d2] }
  | _ => none }
def fnExactBillSameRow : OpenClaim := { program := "ytdjjgoeinkbmjaa", sum := "2c1a1468ddf19e2ba5cd0da1d3815ca6346eb106d3ed3591324fce47ae8748fe", func := "loop.example/scot/laws.FnExactBillSame", spec := "fnExactBillSame", unfollowed := true, recurses := true, apart := false }
def FnExactBillSameSaid : Prop := fnExactBillSameRow.holds Try.pinned (OpenSpec.ofChange fnExactBillSameSpec)

/-- ITS FALSE NEIGHBOUR: 'it returns false'. Refute it at one input. -/
def fnExactBillSameWrong : ChangeSpec := { name := "fnExactBillSame", fn := fun _ => fun
  | [d1, d2] => { results := [.lit (.bool false)], args := [d1, d2] }
  | _ => none }
def FnExactBillSameWrongFalsely : Prop := fnExactBillSameRow.holds Try.pinned (OpenSpec.ofChange fnExactBillSameWrong)

/- THE SECOND FORM. 'bulk': how many values and letters a reading holds, each counted each time it is reached (what is shared counts as often as it is met; a slice's spare places count too). A statement '..UptoSaid' is the law's where the arguments, and the package variables that the reading takes, are together of bulk at most 1048576: NARROWER than '..Said'. Prove '..Said' where nothing that the law and all that it calls make is longer than what came in: it says more and counts as full. Else prove '..UptoSaid'. A law counts once. -/
mutual
def uptoBulk {H : Type} : DataW H → Nat
  | .lit (.string bytes) => bytes.length + 1
  | .lit _ => 1
  | .nil => 1
  | .ptr d => uptoBulk d + 1
  | .slice elems spare => uptoBulkAll elems + uptoBulkAll spare + 1
  | .agg parts => uptoBulkAll parts + 1
  | .iface _ d => uptoBulk d + 1
  | .map entries => uptoBulkEntries entries + 1
  | .held _ => 1
def uptoBulkAll {H : Type} : List (DataW H) → Nat
  | [] => 0
  | d :: r => uptoBulk d + uptoBulkAll r
def uptoBulkEntries {H : Type} : List (Lit × DataW H) → Nat
  | [] => 0
  | x :: r => uptoBulkEntry x + uptoBulkEntries r
def uptoBulkEntry {H : Type} : Lit × DataW H → Nat
  | (.string bytes, d) => bytes.length + uptoBulk d + 1
  | (_, d) => uptoBulk d + 1
 end
def uptoSmall : (H : Type) → List (DataW H) → Bool := fun _ ds => decide (uptoBulkAll ds ≤ 1048576)
def OpenSpec.upto (s : _root_.Go.ChangeSpec) : _root_.Go.OpenSpec := { _root_.Go.OpenSpec.ofChange s with cond := some uptoSmall }

/-- 'laws.FnExactCoinShare', WHERE WHAT IT READS IS OF BULK AT MOST 1048576: true; the input reads as it did. -/
def fnExactCoinShareUptoRow : OpenClaim := { program := "ytdjjgoeinkbmjaa", sum := "2c1a1468ddf19e2ba5cd0da1d3815ca6346eb106d3ed3591324fce47ae8748fe", func := "loop.example/scot/laws.FnExactCoinShare", spec := "fnExactCoinShare", unfollowed := true, recurses := true, apart := false, narrowed := true }
def FnExactCoinShareUptoSaid : Prop := fnExactCoinShareUptoRow.holds Try.pinned (OpenSpec.upto fnExactCoinShareSpec)

/-- 'laws.FnExactRuleText', WHERE WHAT IT READS IS OF BULK AT MOST 1048576: true; the input reads as it did. -/
def fnExactRuleTextUptoRow : OpenClaim := { program := "ytdjjgoeinkbmjaa", sum := "2c1a1468ddf19e2ba5cd0da1d3815ca6346eb106d3ed3591324fce47ae8748fe", func := "loop.example/scot/laws.FnExactRuleText", spec := "fnExactRuleText", inPlace := ["internal/abi.NoEscape", "internal/bytealg.MakeNoZero"], unfollowed := true, recurses := true, loops := true, apart := false, narrowed := true }
def FnExactRuleTextUptoSaid : Prop := fnExactRuleTextUptoRow.holds Try.pinned (OpenSpec.upto fnExactRuleTextSpec)

/-- 'laws.FnExactUseOk', WHERE WHAT IT READS IS OF BULK AT MOST 1048576: true; the input reads as it did. -/
def fnExactUseOkUptoRow : OpenClaim := { program := "ytdjjgoeinkbmjaa", sum := "2c1a1468ddf19e2ba5cd0da1d3815ca6346eb106d3ed3591324fce47ae8748fe", func := "loop.example/scot/laws.FnExactUseOk", spec := "fnExactUseOk", unfollowed := true, recurses := true, apart := false, narrowed := true }
def FnExactUseOkUptoSaid : Prop := fnExactUseOkUptoRow.holds Try.pinned (OpenSpec.upto fnExactUseOkSpec)

/-- 'laws.FnExactUsePut', WHERE WHAT IT READS IS OF BULK AT MOST 1048576: true; the input reads as it did. -/
def fnExactUsePutUptoRow : OpenClaim := { program := "ytdjjgoeinkbmjaa", sum := "2c1a1468ddf19e2ba5cd0da1d3815ca6346eb106d3ed3591324fce47ae8748fe", func := "loop.example/scot/laws.FnExactUsePut", spec := "fnExactUsePut", unfollowed := true, recurses := true, apart := false, narrowed := true }
def FnExactUsePutUptoSaid : Prop := fnExactUsePutUptoRow.holds Try.pinned (OpenSpec.upto fnExactUsePutSpec)

/-- 'laws.FnExactUseFix', WHERE WHAT IT READS IS OF BULK AT MOST 1048576: true; the input reads as it did. -/
def fnExactUseFixUptoRow : OpenClaim := { program := "ytdjjgoeinkbmjaa", sum := "2c1a1468ddf19e2ba5cd0da1d3815ca6346eb106d3ed3591324fce47ae8748fe", func := "loop.example/scot/laws.FnExactUseFix", spec := "fnExactUseFix", unfollowed := true, recurses := true, apart := false, narrowed := true }
def FnExactUseFixUptoSaid : Prop := fnExactUseFixUptoRow.holds Try.pinned (OpenSpec.upto fnExactUseFixSpec)

/-- 'laws.FnExactUseSums', WHERE WHAT IT READS IS OF BULK AT MOST 1048576: true; the input reads as it did. -/
def fnExactUseSumsUptoRow : OpenClaim := { program := "ytdjjgoeinkbmjaa", sum := "2c1a1468ddf19e2ba5cd0da1d3815ca6346eb106d3ed3591324fce47ae8748fe", func := "loop.example/scot/laws.FnExactUseSums", spec := "fnExactUseSums", unfollowed := true, recurses := true, apart := false, narrowed := true }
def FnExactUseSumsUptoSaid : Prop := fnExactUseSumsUptoRow.holds Try.pinned (OpenSpec.upto fnExactUseSumsSpec)

/-- 'laws.FnExactBillSame', WHERE WHAT IT READS IS OF BULK AT MOST 1048576: true; the input reads as it did. -/
def fnExactBillSameUptoRow : OpenClaim := { program := "ytdjjgoeinkbmjaa", sum := "2c1a1468ddf19e2ba5cd0da1d3815ca6346eb106d3ed3591324fce47ae8748fe", func := "loop.example/scot/laws.FnExactBillSame", spec := "fnExactBillSame", unfollowed := true, recurses := true, apart := false, narrowed := true }
def FnExactBillSameUptoSaid : Prop := fnExactBillSameUptoRow.holds Try.pinned (OpenSpec.upto fnExactBillSameSpec)

end Rows
end Go.Proofs.Ytdjjgoeinkbmjaa
