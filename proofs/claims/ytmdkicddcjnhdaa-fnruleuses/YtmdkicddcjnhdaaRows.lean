/-
  No cell of these rows narrows 'for every input' (looked for: loops, veiled, ifaces, maps, wideKeys, modest, calm, conditions, laid).
  DERIVED. THE GIVEN ROWS OF THIS SEAT. 11 by the template 'for every input the law returns true; each argument reads behind the call as it read before'; 0 by the template 'total and deterministic' (their statements: YtmdkicddcjnhdaaTotals.lean).
  GIVEN WITH THE SEED: the statements are not yours to turn. If you find one false, say at which input.
  Laid BY PROGRAM, IN A SANDBOX (cutbox-rows.mjs): the forced cells as the released guide's own fill.sh prints them over the translation ef6aa1bbcd4d6826… (all of the seat's roots in one cut). By AI agents, Wed Nov 11 2026. No macro, syntax, notation, axiom, sorry.
-/
import Derived.Test.YtmdkicddcjnhdaaChecked
import GoSem.Claim
import GoSem.ClaimJoined
import GoSem.ClaimMapViews
import Derived.JoinedTies
import Derived.KernelRfl
namespace Go.Proofs.Ytmdkicddcjnhdaa
/- THE CELL 'sum', in the pinned program and in every row, IS THE sha256 OF THE DUMP (.gsa) THAT YtmdkicddcjnhdaaProg.lean LOADS. Nothing in Lean hashes anything: it is a label: what it is worth is what the hold of that sum in a sandbox is worth. -/
noncomputable def Try.pinned : Pinned := { name := "ytmdkicddcjnhdaa", sum := "ef6aa1bbcd4d6826998ba6f9aa78c7cc4f84e75066f7e2ac2673cb7dffe040e7", checked := Try.checked }
namespace Rows
def none {H : Type} : Left H := { results := [], args := [] }

/-- 'laws.FnRuleRun': WHATEVER THE INPUT: true; the input reads as it did. -/
def fnRuleRunSpec : ChangeSpec := { name := "fnRuleRun", fn := fun _ => fun
  | [d1, d2] => { results := [.lit (.bool true)], args := [d1, d2] }
  | _ => none }
def fnRuleRunRow : OpenClaim := { program := "ytmdkicddcjnhdaa", sum := "ef6aa1bbcd4d6826998ba6f9aa78c7cc4f84e75066f7e2ac2673cb7dffe040e7", func := "loop.example/scot/laws.FnRuleRun", spec := "fnRuleRun", unfollowed := true, recurses := true, apart := false }
def FnRuleRunSaid : Prop := fnRuleRunRow.holds Try.pinned (OpenSpec.ofChange fnRuleRunSpec)

/-- ITS FALSE NEIGHBOUR: 'it returns false'. Refute it at one input. -/
def fnRuleRunWrong : ChangeSpec := { name := "fnRuleRun", fn := fun _ => fun
  | [d1, d2] => { results := [.lit (.bool false)], args := [d1, d2] }
  | _ => none }
def FnRuleRunWrongFalsely : Prop := fnRuleRunRow.holds Try.pinned (OpenSpec.ofChange fnRuleRunWrong)

/-- 'laws.FnRuleUses': WHATEVER THE INPUT: true; the input reads as it did. -/
def fnRuleUsesSpec : ChangeSpec := { name := "fnRuleUses", fn := fun _ => fun
  | [d] => { results := [.lit (.bool true)], args := [d] }
  | _ => none }
def fnRuleUsesRow : OpenClaim := { program := "ytmdkicddcjnhdaa", sum := "ef6aa1bbcd4d6826998ba6f9aa78c7cc4f84e75066f7e2ac2673cb7dffe040e7", func := "loop.example/scot/laws.FnRuleUses", spec := "fnRuleUses", unfollowed := true, recurses := true, apart := false }
def FnRuleUsesSaid : Prop := fnRuleUsesRow.holds Try.pinned (OpenSpec.ofChange fnRuleUsesSpec)

/-- ITS FALSE NEIGHBOUR: 'it returns false'. Refute it at one input. -/
def fnRuleUsesWrong : ChangeSpec := { name := "fnRuleUses", fn := fun _ => fun
  | [d] => { results := [.lit (.bool false)], args := [d] }
  | _ => none }
def FnRuleUsesWrongFalsely : Prop := fnRuleUsesRow.holds Try.pinned (OpenSpec.ofChange fnRuleUsesWrong)

/-- 'laws.FnUseOnce': WHATEVER THE INPUT: true; the input reads as it did. -/
def fnUseOnceSpec : ChangeSpec := { name := "fnUseOnce", fn := fun _ => fun
  | [d] => { results := [.lit (.bool true)], args := [d] }
  | _ => none }
def fnUseOnceRow : OpenClaim := { program := "ytmdkicddcjnhdaa", sum := "ef6aa1bbcd4d6826998ba6f9aa78c7cc4f84e75066f7e2ac2673cb7dffe040e7", func := "loop.example/scot/laws.FnUseOnce", spec := "fnUseOnce", unfollowed := true, recurses := true, apart := false }
def FnUseOnceSaid : Prop := fnUseOnceRow.holds Try.pinned (OpenSpec.ofChange fnUseOnceSpec)

/-- ITS FALSE NEIGHBOUR: 'it returns false'. Refute it at one input. -/
def fnUseOnceWrong : ChangeSpec := { name := "fnUseOnce", fn := fun _ => fun
  | [d] => { results := [.lit (.bool false)], args := [d] }
  | _ => none }
def FnUseOnceWrongFalsely : Prop := fnUseOnceRow.holds Try.pinned (OpenSpec.ofChange fnUseOnceWrong)

/-- 'laws.FnUseOrder': WHATEVER THE INPUT: true; the input reads as it did. -/
def fnUseOrderSpec : ChangeSpec := { name := "fnUseOrder", fn := fun _ => fun
  | [d1, d2] => { results := [.lit (.bool true)], args := [d1, d2] }
  | _ => none }
def fnUseOrderRow : OpenClaim := { program := "ytmdkicddcjnhdaa", sum := "ef6aa1bbcd4d6826998ba6f9aa78c7cc4f84e75066f7e2ac2673cb7dffe040e7", func := "loop.example/scot/laws.FnUseOrder", spec := "fnUseOrder", unfollowed := true, recurses := true, apart := false }
def FnUseOrderSaid : Prop := fnUseOrderRow.holds Try.pinned (OpenSpec.ofChange fnUseOrderSpec)

/-- ITS FALSE NEIGHBOUR: 'it returns false'. Refute it at one input. -/
def fnUseOrderWrong : ChangeSpec := { name := "fnUseOrder", fn := fun _ => fun
  | [d1, d2] => { results := [.lit (.bool false)], args := [d1, d2] }
  | _ => none }
def FnUseOrderWrongFalsely : Prop := fnUseOrderRow.holds Try.pinned (OpenSpec.ofChange fnUseOrderWrong)

/-- 'laws.FnUseSums': WHATEVER THE INPUT: true; the input reads as it did. -/
def fnUseSumsSpec : ChangeSpec := { name := "fnUseSums", fn := fun _ => fun
  | [d] => { results := [.lit (.bool true)], args := [d] }
  | _ => none }
def fnUseSumsRow : OpenClaim := { program := "ytmdkicddcjnhdaa", sum := "ef6aa1bbcd4d6826998ba6f9aa78c7cc4f84e75066f7e2ac2673cb7dffe040e7", func := "loop.example/scot/laws.FnUseSums", spec := "fnUseSums", unfollowed := true, recurses := true, apart := false }
def FnUseSumsSaid : Prop := fnUseSumsRow.holds Try.pinned (OpenSpec.ofChange fnUseSumsSpec)

/-- ITS FALSE NEIGHBOUR: 'it returns false'. Refute it at one input. -/
def fnUseSumsWrong : ChangeSpec := { name := "fnUseSums", fn := fun _ => fun
  | [d] => { results := [.lit (.bool false)], args := [d] }
  | _ => none }
def FnUseSumsWrongFalsely : Prop := fnUseSumsRow.holds Try.pinned (OpenSpec.ofChange fnUseSumsWrong)

/-- 'laws.FnUseBack': WHATEVER THE INPUT: true; the input reads as it did. -/
def fnUseBackSpec : ChangeSpec := { name := "fnUseBack", fn := fun _ => fun
  | [d] => { results := [.lit (.bool true)], args := [d] }
  | _ => none }
def fnUseBackRow : OpenClaim := { program := "ytmdkicddcjnhdaa", sum := "ef6aa1bbcd4d6826998ba6f9aa78c7cc4f84e75066f7e2ac2673cb7dffe040e7", func := "loop.example/scot/laws.FnUseBack", spec := "fnUseBack", unfollowed := true, recurses := true, apart := false }
def FnUseBackSaid : Prop := fnUseBackRow.holds Try.pinned (OpenSpec.ofChange fnUseBackSpec)

/-- ITS FALSE NEIGHBOUR: 'it returns false'. Refute it at one input. -/
def fnUseBackWrong : ChangeSpec := { name := "fnUseBack", fn := fun _ => fun
  | [d] => { results := [.lit (.bool false)], args := [d] }
  | _ => none }
def FnUseBackWrongFalsely : Prop := fnUseBackRow.holds Try.pinned (OpenSpec.ofChange fnUseBackWrong)

/-- 'laws.FnExactUseId': WHATEVER THE INPUT: true; the input reads as it did. -/
def fnExactUseIdSpec : ChangeSpec := { name := "fnExactUseId", fn := fun _ => fun
  | [d] => { results := [.lit (.bool true)], args := [d] }
  | _ => none }
def fnExactUseIdRow : OpenClaim := { program := "ytmdkicddcjnhdaa", sum := "ef6aa1bbcd4d6826998ba6f9aa78c7cc4f84e75066f7e2ac2673cb7dffe040e7", func := "loop.example/scot/laws.FnExactUseId", spec := "fnExactUseId", apart := false }
def FnExactUseIdSaid : Prop := fnExactUseIdRow.holds Try.pinned (OpenSpec.ofChange fnExactUseIdSpec)

/-- ITS FALSE NEIGHBOUR: 'it returns false'. Refute it at one input. -/
def fnExactUseIdWrong : ChangeSpec := { name := "fnExactUseId", fn := fun _ => fun
  | [d] => { results := [.lit (.bool false)], args := [d] }
  | _ => none }
def FnExactUseIdWrongFalsely : Prop := fnExactUseIdRow.holds Try.pinned (OpenSpec.ofChange fnExactUseIdWrong)

/-- 'laws.FnExactUseOk': WHATEVER THE INPUT: true; the input reads as it did. -/
def fnExactUseOkSpec : ChangeSpec := { name := "fnExactUseOk", fn := fun _ => fun
  | [d] => { results := [.lit (.bool true)], args := [d] }
  | _ => none }
def fnExactUseOkRow : OpenClaim := { program := "ytmdkicddcjnhdaa", sum := "ef6aa1bbcd4d6826998ba6f9aa78c7cc4f84e75066f7e2ac2673cb7dffe040e7", func := "loop.example/scot/laws.FnExactUseOk", spec := "fnExactUseOk", unfollowed := true, recurses := true, apart := false }
def FnExactUseOkSaid : Prop := fnExactUseOkRow.holds Try.pinned (OpenSpec.ofChange fnExactUseOkSpec)

/-- ITS FALSE NEIGHBOUR: 'it returns false'. Refute it at one input. -/
def fnExactUseOkWrong : ChangeSpec := { name := "fnExactUseOk", fn := fun _ => fun
  | [d] => { results := [.lit (.bool false)], args := [d] }
  | _ => none }
def FnExactUseOkWrongFalsely : Prop := fnExactUseOkRow.holds Try.pinned (OpenSpec.ofChange fnExactUseOkWrong)

/-- 'laws.FnExactUsePut': WHATEVER THE INPUT: true; the input reads as it did. -/
def fnExactUsePutSpec : ChangeSpec := { name := "fnExactUsePut", fn := fun _ => fun
  | [d1, d2] => { results := [.lit (.bool true)], args := [d1, d2] }
  | _ => none }
def fnExactUsePutRow : OpenClaim := { program := "ytmdkicddcjnhdaa", sum := "ef6aa1bbcd4d6826998ba6f9aa78c7cc4f84e75066f7e2ac2673cb7dffe040e7", func := "loop.example/scot/laws.FnExactUsePut", spec := "fnExactUsePut", unfollowed := true, recurses := true, apart := false }
def FnExactUsePutSaid : Prop := fnExactUsePutRow.holds Try.pinned (OpenSpec.ofChange fnExactUsePutSpec)

/-- ITS FALSE NEIGHBOUR: 'it returns false'. Refute it at one input. -/
def fnExactUsePutWrong : ChangeSpec := { name := "fnExactUsePut", fn := fun _ => fun
  | [d1, d2] => { results := [.lit (.bool false)], args := [d1, d2] }
  | _ => none }
def FnExactUsePutWrongFalsely : Prop := fnExactUsePutRow.holds Try.pinned (OpenSpec.ofChange fnExactUsePutWrong)

/-- 'laws.FnExactUseFix': WHATEVER THE INPUT: true; the input reads as it did. -/
def fnExactUseFixSpec : ChangeSpec := { name := "fnExactUseFix", fn := fun _ => fun
  | [d1, d2, d3] => { results := [.lit (.bool true)], args := [d1, d2, d3] }
  | _ => none }
def fnExactUseFixRow : OpenClaim := { program := "ytmdkicddcjnhdaa", sum := "ef6aa1bbcd4d6826998ba6f9aa78c7cc4f84e75066f7e2ac2673cb7dffe040e7", func := "loop.example/scot/laws.FnExactUseFix", spec := "fnExactUseFix", unfollowed := true, recurses := true, apart := false }
def FnExactUseFixSaid : Prop := fnExactUseFixRow.holds Try.pinned (OpenSpec.ofChange fnExactUseFixSpec)

/-- ITS FALSE NEIGHBOUR: 'it returns false'. Refute it at one input. -/
def fnExactUseFixWrong : ChangeSpec := { name := "fnExactUseFix", fn := fun _ => fun
  | [d1, d2, d3] => { results := [.lit (.bool false)], args := [d1, d2, d3] }
  | _ => none }
def FnExactUseFixWrongFalsely : Prop := fnExactUseFixRow.holds Try.pinned (OpenSpec.ofChange fnExactUseFixWrong)

/-- 'laws.FnExactUseSums': WHATEVER THE INPUT: true; the input reads as it did. -/
def fnExactUseSumsSpec : ChangeSpec := { name := "fnExactUseSums", fn := fun _ => fun
  | [d] => { results := [.lit (.bool true)], args := [d] }
  | _ => none }
def fnExactUseSumsRow : OpenClaim := { program := "ytmdkicddcjnhdaa", sum := "ef6aa1bbcd4d6826998ba6f9aa78c7cc4f84e75066f7e2ac2673cb7dffe040e7", func := "loop.example/scot/laws.FnExactUseSums", spec := "fnExactUseSums", unfollowed := true, recurses := true, apart := false }
def FnExactUseSumsSaid : Prop := fnExactUseSumsRow.holds Try.pinned (OpenSpec.ofChange fnExactUseSumsSpec)

/-- ITS FALSE NEIGHBOUR: 'it returns false'. Refute it at one input. -/
def fnExactUseSumsWrong : ChangeSpec := { name := "fnExactUseSums", fn := fun _ => fun
  | [d] => { results := [.lit (.bool false)], args := [d] }
  | _ => none }
def FnExactUseSumsWrongFalsely : Prop := fnExactUseSumsRow.holds Try.pinned (OpenSpec.ofChange fnExactUseSumsWrong)

/- THE SECOND FORM. 'bulk': how many values and letters a reading holds, each counted each time it is reached (what is shared counts as often as it is met; a slice's spare places count too). A statement '..UptoSaid' is the law's where the arguments, and the package variables that the reading takes, are together of bulk at most 1048576: NARROWER than '..Said'. Prove '..Said' where nothing that the law and all that it calls make is longer than what came in: it says more and counts as full. Else prove '..UptoSaid'. A law counts once. -/
mutual
def uptoBulk {H : Type} : DataW H → Nat
  | .lit (.string bytes) => bytes.length + 1
  | .lit _ => 1
  | .nil => 1
  | .ptr d => uptoBulk d + 1
  | .slice elems spare => uptoBulkAll elems + uptoBulkAll spare + 1
  | .agg parts => uptoBulkAll parts + 1
  | .iface _ d => uptoBulk d + 1
  | .map entries => uptoBulkEntries entries + 1
  | .held _ => 1
def uptoBulkAll {H : Type} : List (DataW H) → Nat
  | [] => 0
  | d :: r => uptoBulk d + uptoBulkAll r
def uptoBulkEntries {H : Type} : List (Lit × DataW H) → Nat
  | [] => 0
  | x :: r => uptoBulkEntry x + uptoBulkEntries r
def uptoBulkEntry {H : Type} : Lit × DataW H → Nat
  | (.string bytes, d) => bytes.length + uptoBulk d + 1
  | (_, d) => uptoBulk d + 1
 end
def uptoSmall : (H : Type) → List (DataW H) → Bool := fun _ ds => decide (uptoBulkAll ds ≤ 1048576)
def OpenSpec.upto (s : _root_.Go.ChangeSpec) : _root_.Go.OpenSpec := { _root_.Go.OpenSpec.ofChange s with cond := some uptoSmall }

/-- 'laws.FnRuleRun', WHERE WHAT IT READS IS OF BULK AT MOST 1048576: true; the input reads as it did. -/
def fnRuleRunUptoRow : OpenClaim := { program := "ytmdkicddcjnhdaa", sum := "ef6aa1bbcd4d6826998ba6f9aa78c7cc4f84e75066f7e2ac2673cb7dffe040e7", func := "loop.example/scot/laws.FnRuleRun", spec := "fnRuleRun", unfollowed := true, recurses := true, apart := false, narrowed := true }
def FnRuleRunUptoSaid : Prop := fnRuleRunUptoRow.holds Try.pinned (OpenSpec.upto fnRuleRunSpec)

/-- 'laws.FnRuleUses', WHERE WHAT IT READS IS OF BULK AT MOST 1048576: true; the input reads as it did. -/
def fnRuleUsesUptoRow : OpenClaim := { program := "ytmdkicddcjnhdaa", sum := "ef6aa1bbcd4d6826998ba6f9aa78c7cc4f84e75066f7e2ac2673cb7dffe040e7", func := "loop.example/scot/laws.FnRuleUses", spec := "fnRuleUses", unfollowed := true, recurses := true, apart := false, narrowed := true }
def FnRuleUsesUptoSaid : Prop := fnRuleUsesUptoRow.holds Try.pinned (OpenSpec.upto fnRuleUsesSpec)

/-- 'laws.FnUseOnce', WHERE WHAT IT READS IS OF BULK AT MOST 1048576: true; the input reads as it did. -/
def fnUseOnceUptoRow : OpenClaim := { program := "ytmdkicddcjnhdaa", sum := "ef6aa1bbcd4d6826998ba6f9aa78c7cc4f84e75066f7e2ac2673cb7dffe040e7", func := "loop.example/scot/laws.FnUseOnce", spec := "fnUseOnce", unfollowed := true, recurses := true, apart := false, narrowed := true }
def FnUseOnceUptoSaid : Prop := fnUseOnceUptoRow.holds Try.pinned (OpenSpec.upto fnUseOnceSpec)

/-- 'laws.FnUseOrder', WHERE WHAT IT READS IS OF BULK AT MOST 1048576: true; the input reads as it did. -/
def fnUseOrderUptoRow : OpenClaim := { program := "ytmdkicddcjnhdaa", sum := "ef6aa1bbcd4d6826998ba6f9aa78c7cc4f84e75066f7e2ac2673cb7dffe040e7", func := "loop.example/scot/laws.FnUseOrder", spec := "fnUseOrder", unfollowed := true, recurses := true, apart := false, narrowed := true }
def FnUseOrderUptoSaid : Prop := fnUseOrderUptoRow.holds Try.pinned (OpenSpec.upto fnUseOrderSpec)

/-- 'laws.FnUseSums', WHERE WHAT IT READS IS OF BULK AT MOST 1048576: true; the input reads as it did. -/
def fnUseSumsUptoRow : OpenClaim := { program := "ytmdkicddcjnhdaa", sum := "ef6aa1bbcd4d6826998ba6f9aa78c7cc4f84e75066f7e2ac2673cb7dffe040e7", func := "loop.example/scot/laws.FnUseSums", spec := "fnUseSums", unfollowed := true, recurses := true, apart := false, narrowed := true }
def FnUseSumsUptoSaid : Prop := fnUseSumsUptoRow.holds Try.pinned (OpenSpec.upto fnUseSumsSpec)

/-- 'laws.FnUseBack', WHERE WHAT IT READS IS OF BULK AT MOST 1048576: true; the input reads as it did. -/
def fnUseBackUptoRow : OpenClaim := { program := "ytmdkicddcjnhdaa", sum := "ef6aa1bbcd4d6826998ba6f9aa78c7cc4f84e75066f7e2ac2673cb7dffe040e7", func := "loop.example/scot/laws.FnUseBack", spec := "fnUseBack", unfollowed := true, recurses := true, apart := false, narrowed := true }
def FnUseBackUptoSaid : Prop := fnUseBackUptoRow.holds Try.pinned (OpenSpec.upto fnUseBackSpec)

/-- 'laws.FnExactUseId', WHERE WHAT IT READS IS OF BULK AT MOST 1048576: true; the input reads as it did. -/
def fnExactUseIdUptoRow : OpenClaim := { program := "ytmdkicddcjnhdaa", sum := "ef6aa1bbcd4d6826998ba6f9aa78c7cc4f84e75066f7e2ac2673cb7dffe040e7", func := "loop.example/scot/laws.FnExactUseId", spec := "fnExactUseId", apart := false, narrowed := true }
def FnExactUseIdUptoSaid : Prop := fnExactUseIdUptoRow.holds Try.pinned (OpenSpec.upto fnExactUseIdSpec)

/-- 'laws.FnExactUseOk', WHERE WHAT IT READS IS OF BULK AT MOST 1048576: true; the input reads as it did. -/
def fnExactUseOkUptoRow : OpenClaim := { program := "ytmdkicddcjnhdaa", sum := "ef6aa1bbcd4d6826998ba6f9aa78c7cc4f84e75066f7e2ac2673cb7dffe040e7", func := "loop.example/scot/laws.FnExactUseOk", spec := "fnExactUseOk", unfollowed := true, recurses := true, apart := false, narrowed := true }
def FnExactUseOkUptoSaid : Prop := fnExactUseOkUptoRow.holds Try.pinned (OpenSpec.upto fnExactUseOkSpec)

/-- 'laws.FnExactUsePut', WHERE WHAT IT READS IS OF BULK AT MOST 1048576: true; the input reads as it did. -/
def fnExactUsePutUptoRow : OpenClaim := { program := "ytmdkicddcjnhdaa", sum := "ef6aa1bbcd4d6826998ba6f9aa78c7cc4f84e75066f7e2ac2673cb7dffe040e7", func := "loop.example/scot/laws.FnExactUsePut", spec := "fnExactUsePut", unfollowed := true, recurses := true, apart := false, narrowed := true }
def FnExactUsePutUptoSaid : Prop := fnExactUsePutUptoRow.holds Try.pinned (OpenSpec.upto fnExactUsePutSpec)

/-- 'laws.FnExactUseFix', WHERE WHAT IT READS IS OF BULK AT MOST 1048576: true; the input reads as it did. -/
def fnExactUseFixUptoRow : OpenClaim := { program := "ytmdkicddcjnhdaa", sum := "ef6aa1bbcd4d6826998ba6f9aa78c7cc4f84e75066f7e2ac2673cb7dffe040e7", func := "loop.example/scot/laws.FnExactUseFix", spec := "fnExactUseFix", unfollowed := true, recurses := true, apart := false, narrowed := true }
def FnExactUseFixUptoSaid : Prop := fnExactUseFixUptoRow.holds Try.pinned (OpenSpec.upto fnExactUseFixSpec)

/-- 'laws.FnExactUseSums', WHERE WHAT IT READS IS OF BULK AT MOST 1048576: true; the input reads as it did. -/
def fnExactUseSumsUptoRow : OpenClaim := { program := "ytmdkicddcjnhdaa", sum := "ef6aa1bbcd4d6826998ba6f9aa78c7cc4f84e75066f7e2ac2673cb7dffe040e7", func := "loop.example/scot/laws.FnExactUseSums", spec := "fnExactUseSums", unfollowed := true, recurses := true, apart := false, narrowed := true }
def FnExactUseSumsUptoSaid : Prop := fnExactUseSumsUptoRow.holds Try.pinned (OpenSpec.upto fnExactUseSumsSpec)

end Rows
end Go.Proofs.Ytmdkicddcjnhdaa
