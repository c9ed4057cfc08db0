/-
  spec's run of a tariff: over, calc.
-/
import Derived.Test.YtdpefmjlmpjjbaaRunM
import Derived.Test.YtdpefmjlmpjjbaaPartS
import Derived.Test.YtdpefmjlmpjjbaaRd2
namespace Go.Proofs.Ytdpefmjlmpjjbaa.Rule
set_option linter.unusedVariables false
open Go.RowKit Tiers
open Kinds (kidsK)
open Coin (okB addV addB timesV fitB partV partB)

/-- the run that block P holds -/
def RunC (W : World) (P : Nat) (uv : Value) (l c : Nat) : Prop := W.cell? ⟨P, 0, none⟩ = some uv ∧ W.cell? ⟨P, 1, none⟩ = some (.int .i64 (l : Int)) ∧ W.cell? ⟨P, 2, none⟩ = some (.int .i64 (c : Int)) ∧ W.frozen? ⟨P, 1, none⟩ = false ∧ W.frozen? ⟨P, 2, none⟩ = false
theorem RunC.lt {W : World} {P : Nat} {uv : Value} {l c : Nat} (h : RunC W P uv l c) : P < W.heap.size := lt_of_cell h.1
theorem RunC.kept {W W' : World} {P : Nat} {uv : Value} {l c : Nat} (h : RunC W P uv l c) (hb : Below W.heap.size W W') : RunC W' P uv l c := by
  have hP := h.lt
  exact ⟨(hb.cell (p := ⟨P, 0, none⟩) hP).trans h.1, (hb.cell (p := ⟨P, 1, none⟩) hP).trans h.2.1, (hb.cell (p := ⟨P, 2, none⟩) hP).trans h.2.2.1, (hb.frozen (p := ⟨P, 1, none⟩) hP).trans h.2.2.2.1, (hb.frozen (p := ⟨P, 2, none⟩) hP).trans h.2.2.2.2⟩
theorem RunC.left {W : World} {P : Nat} {uv : Value} {l c : Nat} (h : RunC W P uv l c) (l' : Nat) : RunC (W.setCell ⟨P, 1, none⟩ (.int .i64 (l' : Int))) P uv l' c := by
  obtain ⟨h0, h1, h2, f1, f2⟩ := h
  refine ⟨?_, World.cell?_setCell_same _ _ _ h1, ?_, by simpa [World.frozen?_setCell] using f1, by simpa [World.frozen?_setCell] using f2⟩
  · rw [World.cell?_setCell_other _ _ _ _ (by simp)]; exact h0
  · rw [World.cell?_setCell_other _ _ _ _ (by simp)]; exact h2
theorem RunC.code {W : World} {P : Nat} {uv : Value} {l c : Nat} (h : RunC W P uv l c) (c' : Nat) : RunC (W.setCell ⟨P, 2, none⟩ (.int .i64 (c' : Int))) P uv l c' := by
  obtain ⟨h0, h1, h2, f1, f2⟩ := h
  refine ⟨?_, ?_, World.cell?_setCell_same _ _ _ h2, by simpa [World.frozen?_setCell] using f1, by simpa [World.frozen?_setCell] using f2⟩
  · rw [World.cell?_setCell_other _ _ _ _ (by simp)]; exact h0
  · rw [World.cell?_setCell_other _ _ _ _ (by simp)]; exact h1
theorem grown_set (W : World) (P o : Nat) (u : Value) : W.grownBy (W.setCell ⟨P, o, none⟩ u) (some P) :=
  ⟨rfl, rfl, rfl, by simp, fun j hj hne => Below.heap_setCell W ⟨P, o, none⟩ u j (by simpa using Ne.symm (fun h => hne (by rw [h])))⟩

/-- the world behind 'over' -/
def overW (W : World) (P : Nat) (ok : Bool) : World := if ok = true then W else W.setCell ⟨P, 2, none⟩ (.int .i64 1)
def overC (ok : Bool) : Nat := if ok = true then 0 else 1
theorem RunC.over {W : World} {P : Nat} {uv : Value} {l : Nat} (h : RunC W P uv l 0) (ok : Bool) : RunC (overW W P ok) P uv l (overC ok) := by
  cases ok
  · exact h.code 1
  · exact h
theorem grown_over (W : World) (P : Nat) (ok : Bool) : W.grownBy (overW W P ok) (some P) := by
  cases ok
  · exact grown_set _ _ _ _
  · exact ⟨rfl, rfl, rfl, Nat.le_refl _, fun _ _ _ => rfl⟩

theorem overS (P : Nat) (uv : Value) (l : Nat) (n : Int) (ok : Bool) (w : World) (h : RunC w P uv l 0) :
    Calls Try.prog 24 #[.pointer (some ⟨P, 0, none⟩), .int .i64 n, .bool ok] w fun x w' => x = .returned (.int .i64 n) ∧ w' = overW w P ok := by
  obtain ⟨h0, h1, h2, f1, f2⟩ := h
  cases ok
  · go_enter Try.func24, Try.ntmps24
    go_wp2
    go_ret
    exact ⟨rfl, rfl⟩
  · go_enter Try.func24, Try.ntmps24
    go_wp2
    go_ret
    exact ⟨rfl, rfl⟩

theorem pair_cases {k : Int} (h1 : 1 ≤ k ∧ k ≤ 10) (h2 : k ≠ 1) (h3 : k ≠ 2) (h4 : k ≠ 6) (h5 : k ≠ 9) (h6 : k ≠ 10) : k = 3 ∨ k = 4 ∨ k = 5 ∨ k = 7 ∨ k = 8 := by omega

set_option maxHeartbeats 1600000 in
theorem calcS (P : Nat) (uv : Value) (l : Nat) (k a b : Int) (w : World) (h : RunC w P uv l 0) (hk : k = 3 ∨ k = 4 ∨ k = 5 ∨ k = 7 ∨ k = 8) (hb : okB b = true) :
    Calls Try.prog 28 #[.pointer (some ⟨P, 0, none⟩), .int .i64 k, .int .i64 a, .int .i64 b] w fun x w' => x = .returned (.int .i64 (pairV k a b)) ∧ w' = overW w P (pairB k a b) := by
  obtain ⟨h0, h1, h2, f1, f2⟩ := h
  obtain ⟨b1, b2⟩ := okB_bd hb
  clear hb
  rcases hk with rfl | rfl | rfl | rfl | rfl
  · have e1 : pairV 3 a b = addV a b := rfl
    have e2 : pairB 3 a b = addB a b := rfl
    rw [e1, e2]
    clear e1 e2
    cases hp : addB a b
    all_goals
      go_enter Try.func28, Try.ntmps28
      go_wp2_with (go_at_call 39; refine (Coin.addS _ _ _).mono ?_; rintro e w' ⟨rfl, rfl⟩)
      go_ret
      exact ⟨rfl, rfl⟩
  · have e1 : pairV 4 a b = addV a (-b) := rfl
    have e2 : pairB 4 a b = addB a (-b) := rfl
    rw [e1, e2]
    clear e1 e2
    cases hp : addB a (-b)
    all_goals
      go_enter Try.func28, Try.ntmps28
      go_wp2_with (go_at_call 39; refine (Coin.addS _ _ _).mono ?_; rintro e w' ⟨rfl, rfl⟩)
      go_ret
      exact ⟨rfl, rfl⟩
  · have e1 : pairV 5 a b = timesV a b := rfl
    have e2 : pairB 5 a b = fitB a b := rfl
    rw [e1, e2]
    clear e1 e2
    cases hp : fitB a b
    all_goals
      go_enter Try.func28, Try.ntmps28
      go_wp2_with (go_at_call 36; refine (Coin.timesS _ _ _).mono ?_; rintro e w' ⟨rfl, rfl⟩)
      go_ret
      exact ⟨rfl, rfl⟩
  · have e2 : pairB 7 a b = true := rfl
    rw [e2]
    by_cases hlt : b < a
    · have e1 : pairV 7 a b = b := by show (if b < a then b else a) = b; rw [if_pos hlt]
      rw [e1]
      clear e1 e2
      have hd : decide (b < a) = true := decide_eq_true hlt
      go_enter Try.func28, Try.ntmps28
      go_wp2
      go_ret
      exact ⟨rfl, rfl⟩
    · have e1 : pairV 7 a b = a := by show (if b < a then b else a) = a; rw [if_neg hlt]
      rw [e1]
      clear e1 e2
      have hd : decide (b < a) = false := decide_eq_false hlt
      go_enter Try.func28, Try.ntmps28
      go_wp2
      go_ret
      exact ⟨rfl, rfl⟩
  · have e2 : pairB 8 a b = true := rfl
    rw [e2]
    by_cases hlt : b < a
    · have e1 : pairV 8 a b = a := by show (if b < a then a else b) = a; rw [if_pos hlt]
      rw [e1]
      clear e1 e2
      have hd : decide (b < a) = true := decide_eq_true hlt
      go_enter Try.func28, Try.ntmps28
      go_wp2
      go_ret
      exact ⟨rfl, rfl⟩
    · have e1 : pairV 8 a b = b := by show (if b < a then a else b) = b; rw [if_neg hlt]
      rw [e1]
      clear e1 e2
      have hd : decide (b < a) = false := decide_eq_false hlt
      go_enter Try.func28, Try.ntmps28
      go_wp2
      go_ret
      exact ⟨rfl, rfl⟩
end Go.Proofs.Ytdpefmjlmpjjbaa.Rule
