/-
  NARROWER THAN 'FOR EVERY INPUT', by the rows' own cells (each row's printed sentence says how): FnExactRuleOk: loops · FnExactRuleText: loops · FnExactRuleRun: loops.
  DERIVED. THE GIVEN ROWS OF THIS SEAT. 9 by the template 'for every input the law returns true; each argument reads behind the call as it read before'; 0 by the template 'total and deterministic' (their statements: YtjjfmpinekiheaaTotals.lean).
  GIVEN WITH THE SEED: the statements are not yours to turn. If you find one false, say at which input.
  Laid BY PROGRAM, IN A SANDBOX (cutbox-rows.mjs): the forced cells as the released guide's own fill.sh prints them over the translation 67c7c6dd4ba8591a… (all of the seat's roots in one cut). By AI agents, Wed Nov 11 2026. No macro, syntax, notation, axiom, sorry.
-/
import Derived.Test.YtjjfmpinekiheaaChecked
import GoSem.Claim
import GoSem.ClaimJoined
import GoSem.ClaimMapViews
import Derived.JoinedTies
import Derived.KernelRfl
namespace Go.Proofs.Ytjjfmpinekiheaa
/- THE CELL 'sum', in the pinned program and in every row, IS THE sha256 OF THE DUMP (.gsa) THAT YtjjfmpinekiheaaProg.lean LOADS. Nothing in Lean hashes anything: it is a label: what it is worth is what the hold of that sum in a sandbox is worth. -/
noncomputable def Try.pinned : Pinned := { name := "ytjjfmpinekiheaa", sum := "67c7c6dd4ba8591a2055caf97c65e0784edc83a9907dcd0564365f330b34f870", checked := Try.checked }
namespace Rows
def none {H : Type} : Left H := { results := [], args := [] }

/-- 'laws.FnRuleRun': WHATEVER THE INPUT: true; the input reads as it did. -/
def fnRuleRunSpec : ChangeSpec := { name := "fnRuleRun", fn := fun _ => fun
  | [d1, d2] => { results := [.lit (.bool true)], args := [d1, d2] }
  | _ => none }
def fnRuleRunRow : OpenClaim := { program := "ytjjfmpinekiheaa", sum := "67c7c6dd4ba8591a2055caf97c65e0784edc83a9907dcd0564365f330b34f870", func := "loop.example/scot/laws.FnRuleRun", spec := "fnRuleRun", unfollowed := true, recurses := true, apart := false }
def FnRuleRunSaid : Prop := fnRuleRunRow.holds Try.pinned (OpenSpec.ofChange fnRuleRunSpec)

/-- ITS FALSE NEIGHBOUR: 'it returns false'. Refute it at one input. -/
def fnRuleRunWrong : ChangeSpec := { name := "fnRuleRun", fn := fun _ => fun
  | [d1, d2] => { results := [.lit (.bool false)], args := [d1, d2] }
  | _ => none }
def FnRuleRunWrongFalsely : Prop := fnRuleRunRow.holds Try.pinned (OpenSpec.ofChange fnRuleRunWrong)

/-- 'laws.FnRuleStep': WHATEVER THE INPUT: true; the input reads as it did. -/
def fnRuleStepSpec : ChangeSpec := { name := "fnRuleStep", fn := fun _ => fun
  | [d1, d2] => { results := [.lit (.bool true)], args := [d1, d2] }
  | _ => none }
def fnRuleStepRow : OpenClaim := { program := "ytjjfmpinekiheaa", sum := "67c7c6dd4ba8591a2055caf97c65e0784edc83a9907dcd0564365f330b34f870", func := "loop.example/scot/laws.FnRuleStep", spec := "fnRuleStep", unfollowed := true, recurses := true, apart := false }
def FnRuleStepSaid : Prop := fnRuleStepRow.holds Try.pinned (OpenSpec.ofChange fnRuleStepSpec)

/-- ITS FALSE NEIGHBOUR: 'it returns false'. Refute it at one input. -/
def fnRuleStepWrong : ChangeSpec := { name := "fnRuleStep", fn := fun _ => fun
  | [d1, d2] => { results := [.lit (.bool false)], args := [d1, d2] }
  | _ => none }
def FnRuleStepWrongFalsely : Prop := fnRuleStepRow.holds Try.pinned (OpenSpec.ofChange fnRuleStepWrong)

/-- 'laws.FnRuleUses': WHATEVER THE INPUT: true; the input reads as it did. -/
def fnRuleUsesSpec : ChangeSpec := { name := "fnRuleUses", fn := fun _ => fun
  | [d] => { results := [.lit (.bool true)], args := [d] }
  | _ => none }
def fnRuleUsesRow : OpenClaim := { program := "ytjjfmpinekiheaa", sum := "67c7c6dd4ba8591a2055caf97c65e0784edc83a9907dcd0564365f330b34f870", func := "loop.example/scot/laws.FnRuleUses", spec := "fnRuleUses", unfollowed := true, recurses := true, apart := false }
def FnRuleUsesSaid : Prop := fnRuleUsesRow.holds Try.pinned (OpenSpec.ofChange fnRuleUsesSpec)

/-- ITS FALSE NEIGHBOUR: 'it returns false'. Refute it at one input. -/
def fnRuleUsesWrong : ChangeSpec := { name := "fnRuleUses", fn := fun _ => fun
  | [d] => { results := [.lit (.bool false)], args := [d] }
  | _ => none }
def FnRuleUsesWrongFalsely : Prop := fnRuleUsesRow.holds Try.pinned (OpenSpec.ofChange fnRuleUsesWrong)

/-- 'laws.FnExactRuleName': WHATEVER THE INPUT: true; the input reads as it did. -/
def fnExactRuleNameSpec : ChangeSpec := { name := "fnExactRuleName", fn := fun _ => fun
  | [d] => { results := [.lit (.bool true)], args := [d] }
  | _ => none }
def fnExactRuleNameRow : OpenClaim := { program := "ytjjfmpinekiheaa", sum := "67c7c6dd4ba8591a2055caf97c65e0784edc83a9907dcd0564365f330b34f870", func := "loop.example/scot/laws.FnExactRuleName", spec := "fnExactRuleName", unfollowed := true, recurses := true, apart := false }
def FnExactRuleNameSaid : Prop := fnExactRuleNameRow.holds Try.pinned (OpenSpec.ofChange fnExactRuleNameSpec)

/-- ITS FALSE NEIGHBOUR: 'it returns false'. Refute it at one input. -/
def fnExactRuleNameWrong : ChangeSpec := { name := "fnExactRuleName", fn := fun _ => fun
  | [d] => { results := [.lit (.bool false)], args := [d] }
  | _ => none }
def FnExactRuleNameWrongFalsely : Prop := fnExactRuleNameRow.holds Try.pinned (OpenSpec.ofChange fnExactRuleNameWrong)

/-- 'laws.FnExactRuleOk': WHATEVER THE INPUT: true; the input reads as it did. -/
def fnExactRuleOkSpec : ChangeSpec := { name := "fnExactRuleOk", fn := fun _ => fun
  | [d] => { results := [.lit (.bool true)], args := [d] }
  | _ => none }
def fnExactRuleOkRow : OpenClaim := { program := "ytjjfmpinekiheaa", sum := "67c7c6dd4ba8591a2055caf97c65e0784edc83a9907dcd0564365f330b34f870", func := "loop.example/scot/laws.FnExactRuleOk", spec := "fnExactRuleOk", unfollowed := true, recurses := true, loops := true, apart := false }
def FnExactRuleOkSaid : Prop := fnExactRuleOkRow.holds Try.pinned (OpenSpec.ofChange fnExactRuleOkSpec)

/-- ITS FALSE NEIGHBOUR: 'it returns false'. Refute it at one input. -/
def fnExactRuleOkWrong : ChangeSpec := { name := "fnExactRuleOk", fn := fun _ => fun
  | [d] => { results := [.lit (.bool false)], args := [d] }
  | _ => none }
def FnExactRuleOkWrongFalsely : Prop := fnExactRuleOkRow.holds Try.pinned (OpenSpec.ofChange fnExactRuleOkWrong)

/-- 'laws.FnExactRuleText': WHATEVER THE INPUT: true; the input reads as it did. -/
def fnExactRuleTextSpec : ChangeSpec := { name := "fnExactRuleText", fn := fun _ => fun
  | [d] => { results := [.lit (.bool true)], args := [d] }
  | _ => none }
def fnExactRuleTextRow : OpenClaim := { program := "ytjjfmpinekiheaa", sum := "67c7c6dd4ba8591a2055caf97c65e0784edc83a9907dcd0564365f330b34f870", func := "loop.example/scot/laws.FnExactRuleText", spec := "fnExactRuleText", inPlace := ["internal/abi.NoEscape", "internal/bytealg.MakeNoZero"], unfollowed := true, recurses := true, loops := true, apart := false }
def FnExactRuleTextSaid : Prop := fnExactRuleTextRow.holds Try.pinned (OpenSpec.ofChange fnExactRuleTextSpec)

/-- ITS FALSE NEIGHBOUR: 'it returns false'. Refute it at one input. -/
def fnExactRuleTextWrong : ChangeSpec := { name := "fnExactRuleText", fn := fun _ => fun
  | [d] => { results := [.lit (.bool false)], args := [d] }
  | _ => none }
def FnExactRuleTextWrongFalsely : Prop := fnExactRuleTextRow.holds Try.pinned (OpenSpec.ofChange fnExactRuleTextWrong)

/-- 'laws.FnExactRuleOf': WHATEVER THE INPUT: true; the input reads as it did. -/
def fnExactRuleOfSpec : ChangeSpec := { name := "fnExactRuleOf", fn := fun _ => fun
  | [d1, d2] => { results := [.lit (.bool true)], args := [d1, d2] }
  | _ => none }
def fnExactRuleOfRow : OpenClaim := { program := "ytjjfmpinekiheaa", sum := "67c7c6dd4ba8591a2055caf97c65e0784edc83a9907dcd0564365f330b34f870", func := "loop.example/scot/laws.FnExactRuleOf", spec := "fnExactRuleOf", apart := false }
def FnExactRuleOfSaid : Prop := fnExactRuleOfRow.holds Try.pinned (OpenSpec.ofChange fnExactRuleOfSpec)

/-- ITS FALSE NEIGHBOUR: 'it returns false'. Refute it at one input. -/
def fnExactRuleOfWrong : ChangeSpec := { name := "fnExactRuleOf", fn := fun _ => fun
  | [d1, d2] => { results := [.lit (.bool false)], args := [d1, d2] }
  | _ => none }
def FnExactRuleOfWrongFalsely : Prop := fnExactRuleOfRow.holds Try.pinned (OpenSpec.ofChange fnExactRuleOfWrong)

/-- 'laws.FnExactRuleStep': WHATEVER THE INPUT: true; the input reads as it did. -/
def fnExactRuleStepSpec : ChangeSpec := { name := "fnExactRuleStep", fn := fun _ => fun
  | [d1, d2] => { results := [.lit (.bool true)], args := [d1, d2] }
  | _ => none }
def fnExactRuleStepRow : OpenClaim := { program := "ytjjfmpinekiheaa", sum := "67c7c6dd4ba8591a2055caf97c65e0784edc83a9907dcd0564365f330b34f870", func := "loop.example/scot/laws.FnExactRuleStep", spec := "fnExactRuleStep", unfollowed := true, recurses := true, apart := false }
def FnExactRuleStepSaid : Prop := fnExactRuleStepRow.holds Try.pinned (OpenSpec.ofChange fnExactRuleStepSpec)

/-- ITS FALSE NEIGHBOUR: 'it returns false'. Refute it at one input. -/
def fnExactRuleStepWrong : ChangeSpec := { name := "fnExactRuleStep", fn := fun _ => fun
  | [d1, d2] => { results := [.lit (.bool false)], args := [d1, d2] }
  | _ => none }
def FnExactRuleStepWrongFalsely : Prop := fnExactRuleStepRow.holds Try.pinned (OpenSpec.ofChange fnExactRuleStepWrong)

/-- 'laws.FnExactRuleRun': WHATEVER THE INPUT: true; the input reads as it did. -/
def fnExactRuleRunSpec : ChangeSpec := { name := "fnExactRuleRun", fn := fun _ => fun
  | [d1, d2, d3] => { results := [.lit (.bool true)], args := [d1, d2, d3] }
  | _ => none }
def fnExactRuleRunRow : OpenClaim := { program := "ytjjfmpinekiheaa", sum := "67c7c6dd4ba8591a2055caf97c65e0784edc83a9907dcd0564365f330b34f870", func := "loop.example/scot/laws.FnExactRuleRun", spec := "fnExactRuleRun", unfollowed := true, recurses := true, loops := true, apart := false }
def FnExactRuleRunSaid : Prop := fnExactRuleRunRow.holds Try.pinned (OpenSpec.ofChange fnExactRuleRunSpec)

/-- ITS FALSE NEIGHBOUR: 'it returns false'. Refute it at one input. -/
def fnExactRuleRunWrong : ChangeSpec := { name := "fnExactRuleRun", fn := fun _ => fun
  | [d1, d2, d3] => { results := [.lit (.bool false)], args := [d1, d2, d3] }
  | _ => none }
def FnExactRuleRunWrongFalsely : Prop := fnExactRuleRunRow.holds Try.pinned (OpenSpec.ofChange fnExactRuleRunWrong)

/- THE SECOND FORM. 'bulk': how many values and letters a reading holds, each counted each time it is reached (what is shared counts as often as it is met; a slice's spare places count too). A statement '..UptoSaid' is the law's where the arguments, and the package variables that the reading takes, are together of bulk at most 1048576: NARROWER than '..Said'. Prove '..Said' where nothing that the law and all that it calls make is longer than what came in: it says more and counts as full. Else prove '..UptoSaid'. A law counts once. -/
mutual
def uptoBulk {H : Type} : DataW H → Nat
  | .lit (.string bytes) => bytes.length + 1
  | .lit _ => 1
  | .nil => 1
  | .ptr d => uptoBulk d + 1
  | .slice elems spare => uptoBulkAll elems + uptoBulkAll spare + 1
  | .agg parts => uptoBulkAll parts + 1
  | .iface _ d => uptoBulk d + 1
  | .map entries => uptoBulkEntries entries + 1
  | .held _ => 1
def uptoBulkAll {H : Type} : List (DataW H) → Nat
  | [] => 0
  | d :: r => uptoBulk d + uptoBulkAll r
def uptoBulkEntries {H : Type} : List (Lit × DataW H) → Nat
  | [] => 0
  | x :: r => uptoBulkEntry x + uptoBulkEntries r
def uptoBulkEntry {H : Type} : Lit × DataW H → Nat
  | (.string bytes, d) => bytes.length + uptoBulk d + 1
  | (_, d) => uptoBulk d + 1
 end
def uptoSmall : (H : Type) → List (DataW H) → Bool := fun _ ds => decide (uptoBulkAll ds ≤ 1048576)
def OpenSpec.upto (s : _root_.Go.ChangeSpec) : _root_.Go.OpenSpec := { _root_.Go.OpenSpec.ofChange s with cond := some uptoSmall }

/-- 'laws.FnRuleRun', WHERE WHAT IT READS IS OF BULK AT MOST 1048576: true; the input reads as it did. -/
def fnRuleRunUptoRow : OpenClaim := { program := "ytjjfmpinekiheaa", sum := "67c7c6dd4ba8591a2055caf97c65e0784edc83a9907dcd0564365f330b34f870", func := "loop.example/scot/laws.FnRuleRun", spec := "fnRuleRun", unfollowed := true, recurses := true, apart := false, narrowed := true }
def FnRuleRunUptoSaid : Prop := fnRuleRunUptoRow.holds Try.pinned (OpenSpec.upto fnRuleRunSpec)

/-- 'laws.FnRuleStep', WHERE WHAT IT READS IS OF BULK AT MOST 1048576: true; the input reads as it did. -/
def fnRuleStepUptoRow : OpenClaim := { program := "ytjjfmpinekiheaa", sum := "67c7c6dd4ba8591a2055caf97c65e0784edc83a9907dcd0564365f330b34f870", func := "loop.example/scot/laws.FnRuleStep", spec := "fnRuleStep", unfollowed := true, recurses := true, apart := false, narrowed := true }
def FnRuleStepUptoSaid : Prop := fnRuleStepUptoRow.holds Try.pinned (OpenSpec.upto fnRuleStepSpec)

/-- 'laws.FnRuleUses', WHERE WHAT IT READS IS OF BULK AT MOST 1048576: true; the input reads as it did. -/
def fnRuleUsesUptoRow : OpenClaim := { program := "ytjjfmpinekiheaa", sum := "67c7c6dd4ba8591a2055caf97c65e0784edc83a9907dcd0564365f330b34f870", func := "loop.example/scot/laws.FnRuleUses", spec := "fnRuleUses", unfollowed := true, recurses := true, apart := false, narrowed := true }
def FnRuleUsesUptoSaid : Prop := fnRuleUsesUptoRow.holds Try.pinned (OpenSpec.upto fnRuleUsesSpec)

/-- 'laws.FnExactRuleName', WHERE WHAT IT READS IS OF BULK AT MOST 1048576: true; the input reads as it did. -/
def fnExactRuleNameUptoRow : OpenClaim := { program := "ytjjfmpinekiheaa", sum := "67c7c6dd4ba8591a2055caf97c65e0784edc83a9907dcd0564365f330b34f870", func := "loop.example/scot/laws.FnExactRuleName", spec := "fnExactRuleName", unfollowed := true, recurses := true, apart := false, narrowed := true }
def FnExactRuleNameUptoSaid : Prop := fnExactRuleNameUptoRow.holds Try.pinned (OpenSpec.upto fnExactRuleNameSpec)

/-- 'laws.FnExactRuleOk', WHERE WHAT IT READS IS OF BULK AT MOST 1048576: true; the input reads as it did. -/
def fnExactRuleOkUptoRow : OpenClaim := { program := "ytjjfmpinekiheaa", sum := "67c7c6dd4ba8591a2055caf97c65e0784edc83a9907dcd0564365f330b34f870", func := "loop.example/scot/laws.FnExactRuleOk", spec := "fnExactRuleOk", unfollowed := true, recurses := true, loops := true, apart := false, narrowed := true }
def FnExactRuleOkUptoSaid : Prop := fnExactRuleOkUptoRow.holds Try.pinned (OpenSpec.upto fnExactRuleOkSpec)

/-- 'laws.FnExactRuleText', WHERE WHAT IT READS IS OF BULK AT MOST 1048576: true; the input reads as it did. -/
def fnExactRuleTextUptoRow : OpenClaim := { program := "ytjjfmpinekiheaa", sum := "67c7c6dd4ba8591a2055caf97c65e0784edc83a9907dcd0564365f330b34f870", func := "loop.example/scot/laws.FnExactRuleText", spec := "fnExactRuleText", inPlace := ["internal/abi.NoEscape", "internal/bytealg.MakeNoZero"], unfollowed := true, recurses := true, loops := true, apart := false, narrowed := true }
def FnExactRuleTextUptoSaid : Prop := fnExactRuleTextUptoRow.holds Try.pinned (OpenSpec.upto fnExactRuleTextSpec)

/-- 'laws.FnExactRuleOf', WHERE WHAT IT READS IS OF BULK AT MOST 1048576: true; the input reads as it did. -/
def fnExactRuleOfUptoRow : OpenClaim := { program := "ytjjfmpinekiheaa", sum := "67c7c6dd4ba8591a2055caf97c65e0784edc83a9907dcd0564365f330b34f870", func := "loop.example/scot/laws.FnExactRuleOf", spec := "fnExactRuleOf", apart := false, narrowed := true }
def FnExactRuleOfUptoSaid : Prop := fnExactRuleOfUptoRow.holds Try.pinned (OpenSpec.upto fnExactRuleOfSpec)

/-- 'laws.FnExactRuleStep', WHERE WHAT IT READS IS OF BULK AT MOST 1048576: true; the input reads as it did. -/
def fnExactRuleStepUptoRow : OpenClaim := { program := "ytjjfmpinekiheaa", sum := "67c7c6dd4ba8591a2055caf97c65e0784edc83a9907dcd0564365f330b34f870", func := "loop.example/scot/laws.FnExactRuleStep", spec := "fnExactRuleStep", unfollowed := true, recurses := true, apart := false, narrowed := true }
def FnExactRuleStepUptoSaid : Prop := fnExactRuleStepUptoRow.holds Try.pinned (OpenSpec.upto fnExactRuleStepSpec)

/-- 'laws.FnExactRuleRun', WHERE WHAT IT READS IS OF BULK AT MOST 1048576: true; the input reads as it did. -/
def fnExactRuleRunUptoRow : OpenClaim := { program := "ytjjfmpinekiheaa", sum := "67c7c6dd4ba8591a2055caf97c65e0784edc83a9907dcd0564365f330b34f870", func := "loop.example/scot/laws.FnExactRuleRun", spec := "fnExactRuleRun", unfollowed := true, recurses := true, loops := true, apart := false, narrowed := true }
def FnExactRuleRunUptoSaid : Prop := fnExactRuleRunUptoRow.holds Try.pinned (OpenSpec.upto fnExactRuleRunSpec)

end Rows
end Go.Proofs.Ytjjfmpinekiheaa
