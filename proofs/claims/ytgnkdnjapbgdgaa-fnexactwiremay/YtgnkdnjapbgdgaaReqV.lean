/-
  Calls and requests by value: the laws' own helpers on them; impl.WireMay and spec.WireMay.
-/
import Derived.Test.YtgnkdnjapbgdgaaWhoM
import Derived.Deep.QuietTactic
import Derived.BigQuiet
namespace Go.Proofs.Ytgnkdnjapbgdgaa.Wire
set_option linter.unusedVariables false
open Go.RowKit

/-- a call by value -/
abbrev opV (k : Int) (a b : ByteArray) (n : Int) : Value := .agg #[.int .i64 k, .string a, .string b, .int .i64 n]
/-- a request by value -/
abbrev reqV (t r u e m v k : Int) (a b : ByteArray) (n x y : Int) (c : ByteArray) : Value := .agg #[.int .i64 t, .int .i64 r, .int .i64 u, .int .i64 e, .int .i64 m, .int .i64 v, .int .i64 k, .string a, .string b, .int .i64 n, .int .i64 x, .int .i64 y, .string c]

set_option maxHeartbeats 1000000 in
/-- szBillOp -/
theorem szOp (k : Int) (a b : ByteArray) (n L : Int) (w : World) (ha : a.size ≤ maxLen) (hb : b.size ≤ maxLen) (h0 : 0 ≤ L) (h1 : L ≤ 1048576) :
    Calls Try.prog 17 #[opV k a b n, .int .i64 L] w fun e w' => ∃ r : Int, e = .returned (.int .i64 r) ∧ -1 ≤ r ∧ r ≤ L ∧ Below w.heap.size w w' := by
  unfold maxLen at ha hb
  by_cases hn : L - a.size < 0
  · go_enter Try.func17, Try.ntmps17
    go_wp2
    go_ret
    exact ⟨_, rfl, by omega, by omega, (Below.refl _ _).alloc (Nat.le_refl _) _⟩
  by_cases hn2 : L - a.size - b.size < 0
  · go_enter Try.func17, Try.ntmps17
    go_wp2
    go_ret
    exact ⟨_, rfl, by omega, by omega, (Below.refl _ _).alloc (Nat.le_refl _) _⟩
  · go_enter Try.func17, Try.ntmps17
    go_wp2
    go_ret
    exact ⟨_, rfl, by omega, by omega, (Below.refl _ _).alloc (Nat.le_refl _) _⟩

theorem below2 (w : World) (A B : Obj) : Below w.heap.size w ((w.alloc A).alloc B) := ((Below.refl _ w).alloc (Nat.le_refl _) _).alloc (by simp) _
theorem below3 (w : World) (A B C : Obj) : Below w.heap.size w (((w.alloc A).alloc B).alloc C) := (below2 w A B).alloc (by simp; omega) _

/-- toBillOp -/
theorem toOp (k : Int) (a b : ByteArray) (n : Int) (w : World) :
    Calls Try.prog 19 #[opV k a b n] w fun e w' => e = .returned (opV k a b n) ∧ Below w.heap.size w w' := by
  go_enter Try.func19, Try.ntmps19
  go_wp2
  exact bodyPost_ret (v := opV k a b n) (by simp [results, Try.results19, go_sem]) rfl ⟨rfl, below3 _ _ _ _⟩

/-- toSealToken -/
theorem toTok (r u e m : Int) (w : World) :
    Calls Try.prog 18 #[.agg #[.int .i64 r, .int .i64 u, .int .i64 e, .int .i64 m]] w fun x w' => x = .returned (.agg #[.int .i64 r, .int .i64 u, .int .i64 e, .int .i64 m]) ∧ Below w.heap.size w w' := by
  go_enter Try.func18, Try.ntmps18
  go_wp2
  exact bodyPost_ret (v := .agg #[.int .i64 r, .int .i64 u, .int .i64 e, .int .i64 m]) (by simp [results, Try.results18, go_sem]) rfl ⟨rfl, below3 _ _ _ _⟩
end Go.Proofs.Ytgnkdnjapbgdgaa.Wire
