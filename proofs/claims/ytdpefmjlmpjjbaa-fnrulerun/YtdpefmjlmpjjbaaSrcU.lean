/-
  A new row of one use.
-/
import Derived.Test.YtdpefmjlmpjjbaaAppU
namespace Go.Proofs.Ytdpefmjlmpjjbaa.Sums
set_option linter.unusedVariables false
open Go.RowKit
open Uses (U U0 UR)

theorem newU (w : World) (s : ByteArray) (q : Int) : UR (w.alloc (.cells #[.string s, .int .i64 q] 34)) (.slice (some ⟨w.heap.size, 0, none⟩) 1 1) [(s, q)] := by
  have e1 := (MapKept.heap_alloc w (.cells #[.string s, .int .i64 q] 34)).1
  refine .inr ⟨w.heap.size, 0, 1, rfl, by simp, fun i hi => ?_⟩
  have : i = 0 := by simpa using hi
  subst this
  simp only [World.cell?]
  rw [e1]
  exact ⟨rfl, rfl⟩
end Go.Proofs.Ytdpefmjlmpjjbaa.Sums
