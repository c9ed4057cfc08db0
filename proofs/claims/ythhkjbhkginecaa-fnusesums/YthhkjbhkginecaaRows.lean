/-
  No cell of these rows narrows 'for every input' (looked for: loops, veiled, ifaces, maps, wideKeys, modest, calm, conditions, laid).
  DERIVED. THE GIVEN ROWS OF THIS SEAT. 5 by the template 'for every input the law returns true; each argument reads behind the call as it read before'; 0 by the template 'total and deterministic' (their statements: YthhkjbhkginecaaTotals.lean).
  GIVEN WITH THE SEED: the statements are not yours to turn. If you find one false, say at which input.
  Laid BY PROGRAM, IN A SANDBOX (cutbox-rows.mjs): the forced cells as the released guide's own fill.sh prints them over the translation c06235eb0d848be8… (all of the seat's roots in one cut). By AI agents, Wed Nov 11 2026. No macro, syntax, notation, axiom, sorry.
-/
import Derived.Test.YthhkjbhkginecaaChecked
import GoSem.Claim
import GoSem.ClaimJoined
import GoSem.ClaimMapViews
import Derived.JoinedTies
import Derived.KernelRfl
namespace Go.Proofs.Ythhkjbhkginecaa
/- THE CELL 'sum', in the pinned program and in every row, IS THE sha256 OF THE DUMP (.gsa) THAT YthhkjbhkginecaaProg.lean LOADS. Nothing in Lean hashes anything: it is a label: what it is worth is what the hold of that sum in a sandbox is worth. -/
noncomputable def Try.pinned : Pinned := { name := "ythhkjbhkginecaa", sum := "c06235eb0d848be83116ed5c7c801138439ebad00917f14ca4ebb32ce8992617", checked := Try.checked }
namespace Rows
def none {H : Type} : Left H := { results := [], args := [] }

/-- 'laws.FnCoinShare': WHATEVER THE INPUT: true; the input reads as it did. -/
def fnCoinShareSpec : ChangeSpec := { name := "fnCoinShare", fn := fun _ => fun
  | [d] => { results := [.lit (.bool true)], args := [d] }
  | _ => none }
def fnCoinShareRow : OpenClaim := { program := "ythhkjbhkginecaa", sum := "c06235eb0d848be83116ed5c7c801138439ebad00917f14ca4ebb32ce8992617", func := "loop.example/scot/laws.FnCoinShare", spec := "fnCoinShare", unfollowed := true, recurses := true, apart := false }
def FnCoinShareSaid : Prop := fnCoinShareRow.holds Try.pinned (OpenSpec.ofChange fnCoinShareSpec)

/-- ITS FALSE NEIGHBOUR: 'it returns false'. Refute it at one input. -/
def fnCoinShareWrong : ChangeSpec := { name := "fnCoinShare", fn := fun _ => fun
  | [d] => { results := [.lit (.bool false)], args := [d] }
  | _ => none }
def FnCoinShareWrongFalsely : Prop := fnCoinShareRow.holds Try.pinned (OpenSpec.ofChange fnCoinShareWrong)

/-- 'laws.FnUseOnce': WHATEVER THE INPUT: true; the input reads as it did. -/
def fnUseOnceSpec : ChangeSpec := { name := "fnUseOnce", fn := fun _ => fun
  | [d] => { results := [.lit (.bool true)], args := [d] }
  | _ => none }
def fnUseOnceRow : OpenClaim := { program := "ythhkjbhkginecaa", sum := "c06235eb0d848be83116ed5c7c801138439ebad00917f14ca4ebb32ce8992617", func := "loop.example/scot/laws.FnUseOnce", spec := "fnUseOnce", unfollowed := true, recurses := true, apart := false }
def FnUseOnceSaid : Prop := fnUseOnceRow.holds Try.pinned (OpenSpec.ofChange fnUseOnceSpec)

/-- ITS FALSE NEIGHBOUR: 'it returns false'. Refute it at one input. -/
def fnUseOnceWrong : ChangeSpec := { name := "fnUseOnce", fn := fun _ => fun
  | [d] => { results := [.lit (.bool false)], args := [d] }
  | _ => none }
def FnUseOnceWrongFalsely : Prop := fnUseOnceRow.holds Try.pinned (OpenSpec.ofChange fnUseOnceWrong)

/-- 'laws.FnUseOrder': WHATEVER THE INPUT: true; the input reads as it did. -/
def fnUseOrderSpec : ChangeSpec := { name := "fnUseOrder", fn := fun _ => fun
  | [d1, d2] => { results := [.lit (.bool true)], args := [d1, d2] }
  | _ => none }
def fnUseOrderRow : OpenClaim := { program := "ythhkjbhkginecaa", sum := "c06235eb0d848be83116ed5c7c801138439ebad00917f14ca4ebb32ce8992617", func := "loop.example/scot/laws.FnUseOrder", spec := "fnUseOrder", unfollowed := true, recurses := true, apart := false }
def FnUseOrderSaid : Prop := fnUseOrderRow.holds Try.pinned (OpenSpec.ofChange fnUseOrderSpec)

/-- ITS FALSE NEIGHBOUR: 'it returns false'. Refute it at one input. -/
def fnUseOrderWrong : ChangeSpec := { name := "fnUseOrder", fn := fun _ => fun
  | [d1, d2] => { results := [.lit (.bool false)], args := [d1, d2] }
  | _ => none }
def FnUseOrderWrongFalsely : Prop := fnUseOrderRow.holds Try.pinned (OpenSpec.ofChange fnUseOrderWrong)

/-- 'laws.FnUseSums': WHATEVER THE INPUT: true; the input reads as it did. -/
def fnUseSumsSpec : ChangeSpec := { name := "fnUseSums", fn := fun _ => fun
  | [d] => { results := [.lit (.bool true)], args := [d] }
  | _ => none }
def fnUseSumsRow : OpenClaim := { program := "ythhkjbhkginecaa", sum := "c06235eb0d848be83116ed5c7c801138439ebad00917f14ca4ebb32ce8992617", func := "loop.example/scot/laws.FnUseSums", spec := "fnUseSums", unfollowed := true, recurses := true, apart := false }
def FnUseSumsSaid : Prop := fnUseSumsRow.holds Try.pinned (OpenSpec.ofChange fnUseSumsSpec)

/-- ITS FALSE NEIGHBOUR: 'it returns false'. Refute it at one input. -/
def fnUseSumsWrong : ChangeSpec := { name := "fnUseSums", fn := fun _ => fun
  | [d] => { results := [.lit (.bool false)], args := [d] }
  | _ => none }
def FnUseSumsWrongFalsely : Prop := fnUseSumsRow.holds Try.pinned (OpenSpec.ofChange fnUseSumsWrong)

/-- 'laws.FnUseBack': WHATEVER THE INPUT: true; the input reads as it did. -/
def fnUseBackSpec : ChangeSpec := { name := "fnUseBack", fn := fun _ => fun
  | [d] => { results := [.lit (.bool true)], args := [d] }
  | _ => none }
def fnUseBackRow : OpenClaim := { program := "ythhkjbhkginecaa", sum := "c06235eb0d848be83116ed5c7c801138439ebad00917f14ca4ebb32ce8992617", func := "loop.example/scot/laws.FnUseBack", spec := "fnUseBack", unfollowed := true, recurses := true, apart := false }
def FnUseBackSaid : Prop := fnUseBackRow.holds Try.pinned (OpenSpec.ofChange fnUseBackSpec)

/-- ITS FALSE NEIGHBOUR: 'it returns false'. Refute it at one input. -/
def fnUseBackWrong : ChangeSpec := { name := "fnUseBack", fn := fun _ => fun
  | [d] => { results := [.lit (.bool false)], args := [d] }
  | _ => none }
def FnUseBackWrongFalsely : Prop := fnUseBackRow.holds Try.pinned (OpenSpec.ofChange fnUseBackWrong)

/- THE SECOND FORM. 'bulk': how many values and letters a reading holds, each counted each time it is reached (what is shared counts as often as it is met; a slice's spare places count too). A statement '..UptoSaid' is the law's where the arguments, and the package variables that the reading takes, are together of bulk at most 1048576: NARROWER than '..Said'. Prove '..Said' where nothing that the law and all that it calls make is longer than what came in: it says more and counts as full. Else prove '..UptoSaid'. A law counts once. -/
mutual
def uptoBulk {H : Type} : DataW H → Nat
  | .lit (.string bytes) => bytes.length + 1
  | .lit _ => 1
  | .nil => 1
  | .ptr d => uptoBulk d + 1
  | .slice elems spare => uptoBulkAll elems + uptoBulkAll spare + 1
  | .agg parts => uptoBulkAll parts + 1
  | .iface _ d => uptoBulk d + 1
  | .map entries => uptoBulkEntries entries + 1
  | .held _ => 1
def uptoBulkAll {H : Type} : List (DataW H) → Nat
  | [] => 0
  | d :: r => uptoBulk d + uptoBulkAll r
def uptoBulkEntries {H : Type} : List (Lit × DataW H) → Nat
  | [] => 0
  | x :: r => uptoBulkEntry x + uptoBulkEntries r
def uptoBulkEntry {H : Type} : Lit × DataW H → Nat
  | (.string bytes, d) => bytes.length + uptoBulk d + 1
  | (_, d) => uptoBulk d + 1
 end
def uptoSmall : (H : Type) → List (DataW H) → Bool := fun _ ds => decide (uptoBulkAll ds ≤ 1048576)
def OpenSpec.upto (s : _root_.Go.ChangeSpec) : _root_.Go.OpenSpec := { _root_.Go.OpenSpec.ofChange s with cond := some uptoSmall }

/-- 'laws.FnCoinShare', WHERE WHAT IT READS IS OF BULK AT MOST 1048576: true; the input reads as it did. -/
def fnCoinShareUptoRow : OpenClaim := { program := "ythhkjbhkginecaa", sum := "c06235eb0d848be83116ed5c7c801138439ebad00917f14ca4ebb32ce8992617", func := "loop.example/scot/laws.FnCoinShare", spec := "fnCoinShare", unfollowed := true, recurses := true, apart := false, narrowed := true }
def FnCoinShareUptoSaid : Prop := fnCoinShareUptoRow.holds Try.pinned (OpenSpec.upto fnCoinShareSpec)

/-- 'laws.FnUseOnce', WHERE WHAT IT READS IS OF BULK AT MOST 1048576: true; the input reads as it did. -/
def fnUseOnceUptoRow : OpenClaim := { program := "ythhkjbhkginecaa", sum := "c06235eb0d848be83116ed5c7c801138439ebad00917f14ca4ebb32ce8992617", func := "loop.example/scot/laws.FnUseOnce", spec := "fnUseOnce", unfollowed := true, recurses := true, apart := false, narrowed := true }
def FnUseOnceUptoSaid : Prop := fnUseOnceUptoRow.holds Try.pinned (OpenSpec.upto fnUseOnceSpec)

/-- 'laws.FnUseOrder', WHERE WHAT IT READS IS OF BULK AT MOST 1048576: true; the input reads as it did. -/
def fnUseOrderUptoRow : OpenClaim := { program := "ythhkjbhkginecaa", sum := "c06235eb0d848be83116ed5c7c801138439ebad00917f14ca4ebb32ce8992617", func := "loop.example/scot/laws.FnUseOrder", spec := "fnUseOrder", unfollowed := true, recurses := true, apart := false, narrowed := true }
def FnUseOrderUptoSaid : Prop := fnUseOrderUptoRow.holds Try.pinned (OpenSpec.upto fnUseOrderSpec)

/-- 'laws.FnUseSums', WHERE WHAT IT READS IS OF BULK AT MOST 1048576: true; the input reads as it did. -/
def fnUseSumsUptoRow : OpenClaim := { program := "ythhkjbhkginecaa", sum := "c06235eb0d848be83116ed5c7c801138439ebad00917f14ca4ebb32ce8992617", func := "loop.example/scot/laws.FnUseSums", spec := "fnUseSums", unfollowed := true, recurses := true, apart := false, narrowed := true }
def FnUseSumsUptoSaid : Prop := fnUseSumsUptoRow.holds Try.pinned (OpenSpec.upto fnUseSumsSpec)

/-- 'laws.FnUseBack', WHERE WHAT IT READS IS OF BULK AT MOST 1048576: true; the input reads as it did. -/
def fnUseBackUptoRow : OpenClaim := { program := "ythhkjbhkginecaa", sum := "c06235eb0d848be83116ed5c7c801138439ebad00917f14ca4ebb32ce8992617", func := "loop.example/scot/laws.FnUseBack", spec := "fnUseBack", unfollowed := true, recurses := true, apart := false, narrowed := true }
def FnUseBackUptoSaid : Prop := fnUseBackUptoRow.holds Try.pinned (OpenSpec.upto fnUseBackSpec)

end Rows
end Go.Proofs.Ythhkjbhkginecaa
