/-
  The methods 'fits' of the kinds.
-/
import Derived.Test.YtdpefmjlmpjjbaaNode
import Derived.Test.YtdpefmjlmpjjbaaRightI
namespace Go.Proofs.Ytdpefmjlmpjjbaa.Rule
set_option linter.unusedVariables false
open Go.RowKit Tiers
open Kinds hiding hide unhide below_trans ext_toList

theorem zero_yes {n : Nat} (h : n = 0) : ((n : Int) == 0) = true := by simp [h]
theorem zero_no {n : Nat} (h : ¬ n = 0) : ((n : Int) == 0) = false := by simp [h]
theorem below2 (w : World) (o p : Obj) : Below w.heap.size w ((w.alloc o).alloc p) := ((Below.refl _ _).alloc (Nat.le_refl _) _).alloc (by simp) _

set_option maxHeartbeats 1000000 in
theorem fitsLook (s : ByteArray) (q k n : Int) (m : ByteArray) (ka ta : Option Addr) (nk kc tn tc : Nat) (w : World) (h2 : tn ≤ maxLen) :
    Calls Try.prog 63 #[.agg #[.string s, .int .i64 q], .agg #[.int .i64 k, .int .i64 n, .string m, .slice ka nk kc, .slice ta tn tc]] w fun e w' => e = .returned (.bool (decide (n = 0) && decide (m.size = 0) && decide (tn = 0))) ∧ Below w.heap.size w w' := by
  unfold maxLen at h2
  by_cases n0 : n = 0
  · have b1 : (n == 0) = true := by simp [n0]
    by_cases m0 : m.size = 0
    · have b2 := isEmpty_yes m0
      by_cases t0 : tn = 0
      · have b3 := zero_yes t0
        have e : (decide (n = 0) && decide (m.size = 0) && decide (tn = 0)) = true := by simp [n0, m0, t0]
        rw [e]
        clear e
        go_enter Try.func63, Try.ntmps63
        go_wp2
        go_ret
        exact ⟨rfl, below2 _ _ _⟩
      · have b3 := zero_no t0
        have e : (decide (n = 0) && decide (m.size = 0) && decide (tn = 0)) = false := by simp [n0, m0, t0]
        rw [e]
        clear e
        go_enter Try.func63, Try.ntmps63
        go_wp2
        go_ret
        exact ⟨rfl, below2 _ _ _⟩
    · have b2 := isEmpty_no m0
      have e : (decide (n = 0) && decide (m.size = 0) && decide (tn = 0)) = false := by simp [n0, m0]
      rw [e]
      clear e
      go_enter Try.func63, Try.ntmps63
      go_wp2
      go_ret
      exact ⟨rfl, below2 _ _ _⟩
  · have b1 : (n == 0) = false := by simp [n0]
    have e : (decide (n = 0) && decide (m.size = 0) && decide (tn = 0)) = false := by simp [n0]
    rw [e]
    clear e
    go_enter Try.func63, Try.ntmps63
    go_wp2
    go_ret
    exact ⟨rfl, below2 _ _ _⟩

set_option maxHeartbeats 1000000 in
theorem fitsNum (s : ByteArray) (q k n : Int) (m : ByteArray) (ka ta : Option Addr) (nk kc tn tc : Nat) (w : World) (h2 : tn ≤ maxLen) :
    Calls Try.prog 67 #[.agg #[.string s, .int .i64 q], .agg #[.int .i64 k, .int .i64 n, .string m, .slice ka nk kc, .slice ta tn tc]] w fun e w' => e = .returned (.bool (decide (-1000000000 ≤ n ∧ n ≤ 1000000000) && decide (m.size = 0) && decide (tn = 0))) ∧ Below w.heap.size w w' := by
  unfold maxLen at h2
  by_cases r1 : -1000000000 ≤ n
  · have r1' : decide (-1000000000 ≤ n) = true := decide_eq_true r1
    by_cases r2 : n ≤ 1000000000
    · have r2' : decide (n ≤ 1000000000) = true := decide_eq_true r2
      by_cases m0 : m.size = 0
      · have b2 := isEmpty_yes m0
        by_cases t0 : tn = 0
        · have b3 := zero_yes t0
          have e : (decide (-1000000000 ≤ n ∧ n ≤ 1000000000) && decide (m.size = 0) && decide (tn = 0)) = true := by simp [r1, r2, m0, t0]
          rw [e]
          clear e
          go_enter Try.func67, Try.ntmps67
          go_wp2
          go_ret
          exact ⟨rfl, below2 _ _ _⟩
        · have b3 := zero_no t0
          have e : (decide (-1000000000 ≤ n ∧ n ≤ 1000000000) && decide (m.size = 0) && decide (tn = 0)) = false := by simp [r1, r2, m0, t0]
          rw [e]
          clear e
          go_enter Try.func67, Try.ntmps67
          go_wp2
          go_ret
          exact ⟨rfl, below2 _ _ _⟩
      · have b2 := isEmpty_no m0
        have e : (decide (-1000000000 ≤ n ∧ n ≤ 1000000000) && decide (m.size = 0) && decide (tn = 0)) = false := by simp [r1, r2, m0]
        rw [e]
        clear e
        go_enter Try.func67, Try.ntmps67
        go_wp2
        go_ret
        exact ⟨rfl, below2 _ _ _⟩
    · have r2' : decide (n ≤ 1000000000) = false := decide_eq_false r2
      have e : (decide (-1000000000 ≤ n ∧ n ≤ 1000000000) && decide (m.size = 0) && decide (tn = 0)) = false := by simp [r1, r2]
      rw [e]
      clear e
      go_enter Try.func67, Try.ntmps67
      go_wp2
      go_ret
      exact ⟨rfl, below2 _ _ _⟩
  · have r1' : decide (-1000000000 ≤ n) = false := decide_eq_false r1
    have e : (decide (-1000000000 ≤ n ∧ n ≤ 1000000000) && decide (m.size = 0) && decide (tn = 0)) = false := by simp [r1]
    rw [e]
    clear e
    go_enter Try.func67, Try.ntmps67
    go_wp2
    go_ret
    exact ⟨rfl, below2 _ _ _⟩

set_option maxHeartbeats 1000000 in
theorem fitsPart (s : ByteArray) (q k n : Int) (m : ByteArray) (ka ta : Option Addr) (nk kc tn tc : Nat) (w : World) (h2 : tn ≤ maxLen) :
    Calls Try.prog 77 #[.agg #[.string s, .int .i64 q], .agg #[.int .i64 k, .int .i64 n, .string m, .slice ka nk kc, .slice ta tn tc]] w fun e w' => e = .returned (.bool (decide (0 ≤ n ∧ n ≤ 1000000) && decide (m.size = 0) && decide (tn = 0))) ∧ Below w.heap.size w w' := by
  unfold maxLen at h2
  by_cases r1 : 0 ≤ n
  · have r1' : decide (0 ≤ n) = true := decide_eq_true r1
    by_cases r2 : n ≤ 1000000
    · have r2' : decide (n ≤ 1000000) = true := decide_eq_true r2
      by_cases m0 : m.size = 0
      · have b2 := isEmpty_yes m0
        by_cases t0 : tn = 0
        · have b3 := zero_yes t0
          have e : (decide (0 ≤ n ∧ n ≤ 1000000) && decide (m.size = 0) && decide (tn = 0)) = true := by simp [r1, r2, m0, t0]
          rw [e]
          clear e
          go_enter Try.func77, Try.ntmps77
          go_wp2
          go_ret
          exact ⟨rfl, below2 _ _ _⟩
        · have b3 := zero_no t0
          have e : (decide (0 ≤ n ∧ n ≤ 1000000) && decide (m.size = 0) && decide (tn = 0)) = false := by simp [r1, r2, m0, t0]
          rw [e]
          clear e
          go_enter Try.func77, Try.ntmps77
          go_wp2
          go_ret
          exact ⟨rfl, below2 _ _ _⟩
      · have b2 := isEmpty_no m0
        have e : (decide (0 ≤ n ∧ n ≤ 1000000) && decide (m.size = 0) && decide (tn = 0)) = false := by simp [r1, r2, m0]
        rw [e]
        clear e
        go_enter Try.func77, Try.ntmps77
        go_wp2
        go_ret
        exact ⟨rfl, below2 _ _ _⟩
    · have r2' : decide (n ≤ 1000000) = false := decide_eq_false r2
      have e : (decide (0 ≤ n ∧ n ≤ 1000000) && decide (m.size = 0) && decide (tn = 0)) = false := by simp [r1, r2]
      rw [e]
      clear e
      go_enter Try.func77, Try.ntmps77
      go_wp2
      go_ret
      exact ⟨rfl, below2 _ _ _⟩
  · have r1' : decide (0 ≤ n) = false := decide_eq_false r1
    have e : (decide (0 ≤ n ∧ n ≤ 1000000) && decide (m.size = 0) && decide (tn = 0)) = false := by simp [r1]
    rw [e]
    clear e
    go_enter Try.func77, Try.ntmps77
    go_wp2
    go_ret
    exact ⟨rfl, below2 _ _ _⟩

set_option maxHeartbeats 1000000 in
theorem fitsMeter (s : ByteArray) (q k n : Int) (m : ByteArray) (ka ta : Option Addr) (nk kc tc : Nat) (ts : List T) (w : World) (z1 : m.size ≤ maxLen) (z2 : ts.length ≤ maxLen) :
    Calls Try.prog 70 #[.agg #[.string s, .int .i64 q], .agg #[.int .i64 k, .int .i64 n, .string m, .slice ka nk kc, .slice ta ts.length tc]] w fun e w' => e = .returned (.bool (nameB m && decide (n = 0) && decide (ts.length = 0))) ∧ Below w.heap.size w w' := by
  unfold maxLen at z2
  generalize hr : (nameB m && decide (n = 0) && decide (ts.length = 0)) = r
  have HR := hide hr
  clear hr
  go_enter Try.func70, Try.ntmps70
  go_wp2_with (fail)
  refine (nameI m _ z1).mono ?_
  rintro e w1 ⟨rfl, hb1⟩
  have hc := (hb1.cell (p := ⟨w.heap.size + 1, 1, none⟩) (by simp))
  have hd := (hb1.cell (p := ⟨w.heap.size + 1, 2, none⟩) (by simp))
  have he := (hb1.cell (p := ⟨w.heap.size + 1, 4, none⟩) (by simp))
  have n5 := new5 (w.alloc (.cells #[.string s, .int .i64 q] 82)) (.int .i64 k) (.int .i64 n) (.string m) (.slice ka nk kc) (.slice ta ts.length tc) 26
  simp only [World.size_alloc] at n5
  rw [n5.2.1] at hc
  rw [n5.2.2.1] at hd
  rw [n5.2.2.2.2] at he
  have HB := hide ((below2 _ _ _).trans (hb1.mono (by simp; omega)))
  clear hb1 n5
  cases hkey : nameB m
  · simp only [hkey, Bool.false_and] at HR
    have := unhide HR; subst this
    go_wp2_with (fail)
    go_ret
    exact ⟨rfl, unhide HB⟩
  · simp only [hkey, Bool.true_and] at HR
    by_cases n0 : n = 0
    · have b1 : (n == 0) = true := by simp [n0]
      by_cases t0 : ts.length = 0
      · have b3 := zero_yes t0
        have hr : r = true := (unhide HR).symm.trans (by simp [n0, t0])
        subst hr
        go_wp2_with (fail)
        go_ret
        exact ⟨rfl, unhide HB⟩
      · have b3 := zero_no t0
        have hr : r = false := (unhide HR).symm.trans (by simp [t0])
        subst hr
        go_wp2_with (fail)
        go_ret
        exact ⟨rfl, unhide HB⟩
    · have b1 : (n == 0) = false := by simp [n0]
      have hr : r = false := (unhide HR).symm.trans (by simp [n0])
      subst hr
      go_wp2_with (fail)
      go_ret
      exact ⟨rfl, unhide HB⟩

set_option maxHeartbeats 1000000 in
theorem fitsSteps (s : ByteArray) (q k n : Int) (m : ByteArray) (ka ta : Option Addr) (nk kc tc : Nat) (ts : List T) (w : World) (z2 : ts.length ≤ 1048576) (hT : TR w (.slice ta ts.length tc) ts) :
    Calls Try.prog 85 #[.agg #[.string s, .int .i64 q], .agg #[.int .i64 k, .int .i64 n, .string m, .slice ka nk kc, .slice ta ts.length tc]] w fun e w' => e = .returned (.bool (rightB ts && decide (n = 0) && decide (m.size = 0))) ∧ Below w.heap.size w w' := by
  have HT := hide hT
  clear hT
  generalize hr : (rightB ts && decide (n = 0) && decide (m.size = 0)) = r
  have HR := hide hr
  clear hr
  go_enter Try.func85, Try.ntmps85
  go_wp2_with (fail)
  refine (rightI _ ts _ ((unhide HT).kept (below2 _ _ _)) z2).mono ?_
  rintro e w1 ⟨rfl, hb1⟩
  have hc := (hb1.cell (p := ⟨w.heap.size + 1, 1, none⟩) (by simp))
  have hd := (hb1.cell (p := ⟨w.heap.size + 1, 2, none⟩) (by simp))
  have he := (hb1.cell (p := ⟨w.heap.size + 1, 4, none⟩) (by simp))
  have n5 := new5 (w.alloc (.cells #[.string s, .int .i64 q] 88)) (.int .i64 k) (.int .i64 n) (.string m) (.slice ka nk kc) (.slice ta ts.length tc) 26
  simp only [World.size_alloc] at n5
  rw [n5.2.1] at hc
  rw [n5.2.2.1] at hd
  rw [n5.2.2.2.2] at he
  have HB := hide ((below2 _ _ _).trans (hb1.mono (by simp; omega)))
  clear hb1 n5
  cases hkey : rightB ts
  · simp only [hkey, Bool.false_and] at HR
    have := unhide HR; subst this
    go_wp2_with (fail)
    go_ret
    exact ⟨rfl, unhide HB⟩
  · simp only [hkey, Bool.true_and] at HR
    by_cases n0 : n = 0
    · have b1 : (n == 0) = true := by simp [n0]
      by_cases m0 : m.size = 0
      · have b2 := isEmpty_yes m0
        have hr : r = true := (unhide HR).symm.trans (by simp [n0, m0])
        subst hr
        go_wp2_with (fail)
        go_ret
        exact ⟨rfl, unhide HB⟩
      · have b2 := isEmpty_no m0
        have hr : r = false := (unhide HR).symm.trans (by simp [m0])
        subst hr
        go_wp2_with (fail)
        go_ret
        exact ⟨rfl, unhide HB⟩
    · have b1 : (n == 0) = false := by simp [n0]
      have hr : r = false := (unhide HR).symm.trans (by simp [n0])
      subst hr
      go_wp2_with (fail)
      go_ret
      exact ⟨rfl, unhide HB⟩
end Go.Proofs.Ytdpefmjlmpjjbaa.Rule
