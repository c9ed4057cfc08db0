/-
  CoinRead, the program's: the amount whose text it is, if there is one.
-/
import Derived.Test.YtpamdnkngedmaaaDoorReadMath
import Derived.Test.YtpamdnkngedmaaaDoorShelfR
import Derived.Lib.AtoiErrMem
import Derived.Lib.Strings
namespace Go.Proofs.YtpamdnkngedmaaaDoor.Text
set_option linter.unusedVariables false
open Go.RowKit Coin
open Dec (cat below2)

/-- what of the program's variables strconv and strings read -/
def Env (w : World) : Prop := Tens w ∧ (∃ m, w.cell? ⟨6, 0, none⟩ = some (.int .i64 m)) ∧ (∃ tp p, w.var? Tryd.prog "strconv.ErrSyntax" = some #[.iface tp p]) ∧ (∃ tp p, w.var? Tryd.prog "strconv.ErrRange" = some #[.iface tp p])

theorem cell_lt {w : World} {q : Addr} {v : Value} (h : w.cell? q = some v) : q.block < w.heap.size := by
  refine Nat.lt_of_not_le fun hn => ?_
  have h2 : w.heap[q.block]? = none := by simp; omega
  simp [World.cell?, h2] at h

theorem Env.kept {w w' : World} (h : Env w) (hb : Below w.heap.size w w') : Env w' := by
  obtain ⟨h1, ⟨m, h2⟩, ⟨t1, p1, h3⟩, ⟨t2, p2, h4⟩⟩ := h
  exact ⟨h1.kept hb, ⟨m, by rw [hb.cell (cell_lt h2)]; exact h2⟩, ⟨t1, p1, var_kept h3 hb⟩, ⟨t2, p2, var_kept h4 hb⟩⟩

theorem cut_len (s : List UInt8) : (Lib.cut s [46]).1.length + (Lib.cut s [46]).2.1.length ≤ s.length := by
  unfold Lib.cut
  split <;> simp <;> omega

theorem below_drew {w : World} (n : Nat) : Below w.heap.size w (w.drewN n) := ⟨rfl, rfl, rfl, Nat.le_refl _, fun _ _ => rfl⟩

end Go.Proofs.YtpamdnkngedmaaaDoor.Text
