/-
  Drawn events: DrawUseOk, DrawUseSums.
-/
import Derived.Test.YthhkjbhkginecaaDrawFx
namespace Go.Proofs.Ythhkjbhkginecaa.Draw
set_option linter.unusedVariables false
open Go.RowKit

/-- what is handed out -/
def OkOut (w w' : World) (v : Value) : Prop := ∃ l : List Evs.E, l.length ≤ 25 ∧ Evs.EN w.heap.size w' v l ∧ (∀ u ∈ l, goodE u) ∧ Below w.heap.size w w'
theorem OkOut.mk {w w1 w2 : World} {v : Value} {p : Nat} (h01 : Below w.heap.size w w1) (h : LsOut w1 w2 w.heap.size p v) : OkOut w w2 v := by
  obtain ⟨q, l, hl, hE, hg, _, _, _, hgr⟩ := h
  exact ⟨l, hl, hE.low h01.size, hg, h01.grown hgr h01.size (fun j hj => by cases hj; exact Nat.le_refl _)⟩

theorem drawOk (a : Option Addr) (len cap : Nat) (w : World) (h : Bytes w a len cap) :
    Calls Try.prog 17 #[.slice a len cap] w fun e w' => ∃ v, e = .returned v ∧ OkOut w w' v := by
  go_enter Try.func17, Try.ntmps17
  go_wp2_with fail
  refine (openR a len cap _ h).mono ?_
  rintro e w1 ⟨rfl, hR1, hb1⟩
  go_wp2_with fail
  refine (list3 w.heap.size 0 _ hR1 (by omega)).mono ?_
  rintro e w2 ⟨v, rfl, ho⟩
  go_wp2
  go_ret
  exact ⟨v, rfl, OkOut.mk hb1 ho⟩

theorem drawSums (a : Option Addr) (len cap : Nat) (w : World) (h : Bytes w a len cap) :
    Calls Try.prog 18 #[.slice a len cap] w fun e w' => ∃ v, e = .returned v ∧ OkOut w w' v := by
  go_enter Try.func18, Try.ntmps18
  go_wp2_with fail
  refine (openR a len cap _ h).mono ?_
  rintro e w1 ⟨rfl, hR1, hb1⟩
  go_wp2_with fail
  refine (list3 w.heap.size 0 _ hR1 (by omega)).mono ?_
  rintro e w2 ⟨v, rfl, ho⟩
  go_wp2
  go_ret
  exact ⟨v, rfl, OkOut.mk hb1 ho⟩
end Go.Proofs.Ythhkjbhkginecaa.Draw
