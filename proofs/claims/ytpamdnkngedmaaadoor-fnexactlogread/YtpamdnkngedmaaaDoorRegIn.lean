/-
  A region that draws its order, walked once for all worlds of a class that the prover names (a guard in it may be false, a call in it may lay blocks).
-/
import Derived.Test.YtpamdnkngedmaaaDoorProg
import Derived.WalkKit
import Derived.Below
import Derived.Deep.QuietTactic
import Derived.BigQuiet
namespace Go.Proofs.YtpamdnkngedmaaaDoor.RegIn
open Go

/-- a world of the class S -/
structure In (S : World → Prop) where
  x : World
  h : S x

theorem wp_region_in {P : Program} {id : Nat} {Q : Exit → Act → World → Prop} {a : Act} {w : World} {l : List Oper} (S : World → Prop) (hm : P.follows .mixedOrders = true) (hB : Region.lexB .any l.toArray = true) (hS : S w.drew)
    (h : Nonempty (In S) → wpQuiet P l.toArray (fun w' => ∃ g : In S, w' = g.x) (fun a' => ∀ w', (∃ g : In S, w' = g.x) → Q .normal a' w') l a) : (Code.region id l.toArray true).wp P Q a w :=
  wp_region_quiet (C := fun w' => ∃ g : In S, w' = g.x) hm hB ⟨⟨_, hS⟩, rfl⟩ (by simpa using h ⟨⟨_, hS⟩⟩)

/-- a callee's contract, in a world of the class -/
theorem call_in {P : Program} {f : FuncId} {args : Array Value} {S : World → Prop} {v : Value} (g : In S) (h : Calls P f args g.x fun e w' => e = .returned v ∧ S w') : Calls P f args g.x fun e w'' => e = .returned v ∧ ∃ g' : In S, w'' = g'.x :=
  h.mono fun _ w' ⟨he, hs⟩ => ⟨he, ⟨w', hs⟩, rfl⟩
end Go.Proofs.YtpamdnkngedmaaaDoor.RegIn
