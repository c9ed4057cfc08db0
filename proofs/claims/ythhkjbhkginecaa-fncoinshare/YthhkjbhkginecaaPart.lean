/-
  CoinPart, the program's and the document's: both answer one and the same.
-/
import Derived.Test.YthhkjbhkginecaaCoin
import Derived.Deep.QuietTactic
import Derived.BigQuiet
namespace Go.Proofs.Ythhkjbhkginecaa.Coin
set_option linter.unusedVariables false
open Go.RowKit

theorem rndDM (q r d : Int) (w : World) : Calls Try.prog 31 #[.int .i64 q, .int .i64 r, .int .i64 d] w fun e w' => e = .returned (.int .i64 q) ∧ w' = w := by
  go_enter Try.func31, Try.ntmps31
  go_wp2
  go_ret
  exact ⟨rfl, rfl⟩

theorem timesM_yes (a b : Int) (w : World) (h : fitB a b = true) : Calls Try.prog 48 #[.int .i64 a, .int .i64 b] w fun e w' => e = .returned (.tuple #[.int .i64 (a * b), .bool true]) ∧ w' = w := by
  have := timesM a b w; rw [timesV_yes h, h] at this; exact this
theorem timesM_no (a b : Int) (w : World) (h : fitB a b = false) : Calls Try.prog 48 #[.int .i64 a, .int .i64 b] w fun e w' => e = .returned (.tuple #[.int .i64 0, .bool false]) ∧ w' = w := by
  have := timesM a b w; rw [timesV_no h, h] at this; exact this

/-- what divide answers with roundEven: the part, the rest, whether it is told -/
theorem divE_no (x n d : Int) (w : World) (h1 : 0 ≤ x) (h2 : x ≤ 1000000000000000) (hn : 0 ≤ n) (hn' : n ≤ 1000000) (hd : 1 ≤ d) (hd' : d ≤ 16000000) (fn : Value) (hf : fitB (x / d) n = false) : Calls Try.prog 30 #[.int .i64 x, .int .i64 n, .int .i64 d, fn] w fun e w' => e = .returned (.tuple #[.int .i64 0, .int .i64 0, .bool false]) ∧ w' = w := by
  go_enter Try.func30, Try.ntmps30
  go_wp2_with (first | (go_at_call 48; refine (timesM_no _ _ _ hf).mono ?_; rintro e w' ⟨rfl, rfl⟩))
  go_ret3
  exact ⟨rfl, rfl⟩

theorem drewN0 (w : World) : w = w.drewN 0 := rfl

end Go.Proofs.Ythhkjbhkginecaa.Coin
