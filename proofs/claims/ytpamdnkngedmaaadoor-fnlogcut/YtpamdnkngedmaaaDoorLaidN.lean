/-
  What the listed package variables give for the reader of logs: all that strconv and strings read, and the error that it panics with.
-/
import Derived.Test.YtpamdnkngedmaaaDoorLaid2
import Derived.Test.YtpamdnkngedmaaaDoorFrI
import Derived.ChangeVars
import Derived.RowKitTokens
namespace Go.Proofs.YtpamdnkngedmaaaDoor.Laid
open Go.RowKit Go.ChangeShapes

theorem gEN : Tryd.prog.globalNamed "loop.example/scot/impl.errNoFrame" = some 0 := by kernel_rfl
theorem tEN : (Tryd.prog.globals[0]?).map (·.type) = some 67 := by kernel_rfl

/-- the error lies in its variable -/
theorem errN {W : World} {a b c d e : String × DataW Unit} {rest : List (String × DataW Unit)} (h : laidMet Tryd.prog (a :: b :: c :: d :: e :: ("loop.example/scot/impl.errNoFrame", Rows.laid_loop_example_scot_impl_errNoFrame) :: rest) W) :
    ∃ x : Addr, W.var? Tryd.prog "loop.example/scot/impl.errNoFrame" = some #[.iface 99 (.pointer (some x))] := by
  have h3 := h.tail.tail.tail.tail.tail
  obtain ⟨a0, s0, hv0, -, -, -⟩ := laid_sentinel h3 gEN tEN Tryd.underlying67 rowES Tryd.underlying99 Tryd.underlying101 rfl rfl Tryd.underlying9 cES cStr
  exact ⟨a0, hv0⟩
theorem errCell {W : World} {v : Value} (h : W.var? Tryd.prog "loop.example/scot/impl.errNoFrame" = some #[v]) : W.cell? ⟨0, 0, none⟩ = some v := by
  simpa using World.var?_cell gEN h 0
end Go.Proofs.YtpamdnkngedmaaaDoor.Laid
