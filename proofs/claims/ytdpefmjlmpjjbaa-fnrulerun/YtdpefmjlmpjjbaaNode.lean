/-
  An expression that is right but for its kids (spec.l2Kids, spec.l2Node).
-/
import Derived.Test.YtdpefmjlmpjjbaaCopy2
import Derived.Test.YtdpefmjlmpjjbaaRight
import Derived.Test.YtdpefmjlmpjjbaaKinds
namespace Go.Proofs.Ytdpefmjlmpjjbaa.Rule
set_option linter.unusedVariables false
open Go.RowKit Tiers
open Kinds hiding hide unhide below_trans ext_toList

/-- all but the kids is as the kind has it -/
def fitsB (k n : Int) (m : ByteArray) (ts : List T) : Bool :=
  if k = 1 then decide (-1000000000 ≤ n ∧ n ≤ 1000000000) && decide (m.size = 0) && decide (ts.length = 0)
  else if k = 2 then nameB m && decide (n = 0) && decide (ts.length = 0)
  else if k = 6 then decide (0 ≤ n ∧ n ≤ 1000000) && decide (m.size = 0) && decide (ts.length = 0)
  else if k = 10 then rightB ts && decide (n = 0) && decide (m.size = 0)
  else decide (n = 0) && decide (m.size = 0) && decide (ts.length = 0)
/-- an expression is right, but for its kids -/
def nodeB (k n : Int) (m : ByteArray) (nk : Nat) (ts : List T) : Bool := decide (1 ≤ k ∧ k ≤ 10 ∧ (nk : Int) = kidsK k) && fitsB k n m ts

theorem kidsK_in {k : Int} (h : 0 ≤ kidsK k) : 1 ≤ k ∧ k ≤ 10 := by
  unfold kidsK at h
  split at h
  · omega
  split at h
  · omega
  split at h
  · omega
  split at h
  · omega
  · omega
theorem nodeB_kids {k n : Int} {m : ByteArray} {nk : Nat} {ts : List T} (h : (nk : Int) ≠ kidsK k) : nodeB k n m nk ts = false := by
  unfold nodeB; rw [decide_eq_false (by rintro ⟨_, _, h3⟩; exact h h3)]; rfl
theorem nodeB_fits {k n : Int} {m : ByteArray} {nk : Nat} {ts : List T} (h : (nk : Int) = kidsK k) : nodeB k n m nk ts = fitsB k n m ts := by
  have := kidsK_in (k := k) (by omega)
  unfold nodeB; rw [decide_eq_true ⟨this.1, this.2, h⟩]; rfl
theorem nameB_empty {m : ByteArray} (h : m.size = 0) : nameB m = false := nameB_size (by omega)
theorem rightB_empty {ts : List T} (h : ts.length = 0) : rightB ts = false := rightB_size (by omega)
theorem fits_tiers {k n : Int} {m : ByteArray} {ts : List T} (h : ¬ (k = 10 ↔ 0 < ts.length)) : fitsB k n m ts = false := by
  unfold fitsB
  by_cases h10 : k = 10
  · subst h10
    have : ts.length = 0 := by omega
    simp [rightB_empty this]
  · have : ¬ ts.length = 0 := by omega
    split
    · simp [this]
    split
    · simp [this]
    split
    · simp [this]
    · simp [this]
theorem fits_meter {k n : Int} {m : ByteArray} {ts : List T} (h : ¬ (k = 2 ↔ m.size ≠ 0)) : fitsB k n m ts = false := by
  unfold fitsB
  by_cases h2 : k = 2
  · subst h2
    have : m.size = 0 := by omega
    simp [nameB_empty this]
  · have : ¬ m.size = 0 := by omega
    rw [decide_eq_false this]
    simp [h2]

set_option maxHeartbeats 1000000 in
/-- spec.l2Kids -/
theorem kidsS (k : Int) (w : World) : Calls Try.prog 42 #[.int .i64 k] w fun e w' => e = .returned (.int .i64 (kidsK k)) ∧ w' = w := by
  by_cases h : 1 ≤ k ∧ k ≤ 10
  · rcases cases10 h with rfl | rfl | rfl | rfl | rfl | rfl | rfl | rfl | rfl | rfl
    all_goals
      clear h
      go_enter Try.func42, Try.ntmps42
      go_wp2
      go_ret
      exact ⟨rfl, rfl⟩
  · have e : kidsK k = -1 := by
      unfold kidsK
      rw [if_neg (by omega), if_neg (by omega), if_neg (by omega), if_neg (by omega)]
    rw [e]
    have n1 : (k == 1) = false := beq_eq_false_iff_ne.2 (by omega)
    have n2 : (k == 2) = false := beq_eq_false_iff_ne.2 (by omega)
    have n6 : (k == 6) = false := beq_eq_false_iff_ne.2 (by omega)
    have n9 : (k == 9) = false := beq_eq_false_iff_ne.2 (by omega)
    have n10 : (k == 10) = false := beq_eq_false_iff_ne.2 (by omega)
    clear e
    by_cases h3 : 3 ≤ k
    · have h8 : ¬ k ≤ 8 := by omega
      clear h
      go_enter Try.func42, Try.ntmps42
      go_wp2
      go_ret
      exact ⟨rfl, rfl⟩
    · clear h
      go_enter Try.func42, Try.ntmps42
      go_wp2
      go_ret
      exact ⟨rfl, rfl⟩

theorem isEmpty_yes {m : ByteArray} (h : m.size = 0) : m.toList.isEmpty = true := by
  rw [Lib.toList_data, List.isEmpty_iff]
  exact List.length_eq_zero_iff.1 (by simpa using h)
theorem isEmpty_no {m : ByteArray} (h : m.size ≠ 0) : m.toList.isEmpty = false := by
  rw [Lib.toList_data, List.isEmpty_eq_false_iff]
  exact fun e => h (by have := congrArg List.length e; simpa using this)

set_option maxHeartbeats 1000000 in
theorem nodeS_bad (k n : Int) (m : ByteArray) (ka ta : Option Addr) (nk kc tn tc : Nat) (w : World) (h1 : nk ≤ maxLen) (h2 : tn ≤ maxLen) (h : (nk : Int) ≠ kidsK k ∨ ¬ (k = 10 ↔ 0 < tn) ∨ ¬ (k = 2 ↔ m.size ≠ 0)) :
    Calls Try.prog 35 #[.agg #[.int .i64 k, .int .i64 n, .string m, .slice ka nk kc, .slice ta tn tc]] w fun e w' => e = .returned (.bool false) ∧ Below w.heap.size w w' := by
  unfold maxLen at h1 h2
  by_cases hn : (nk : Int) = kidsK k
  · have b1 : ((nk : Int) != kidsK k) = false := by simp [hn]
    have h' := h.resolve_left (fun e => e hn)
    clear h hn
    by_cases k10 : k = 10
    all_goals by_cases t0 : 0 < tn
    all_goals first | (have b2 : (k == 10) = true := beq_iff_eq.2 (by omega)) | (have b2 : (k == 10) = false := beq_eq_false_iff_ne.2 (by omega))
    all_goals first | (have b3 : decide (0 < tn) = true := decide_eq_true (by omega)) | (have b3 : decide (0 < tn) = false := decide_eq_false (by omega))
    all_goals by_cases k2 : k = 2
    all_goals by_cases m0 : m.size = 0
    all_goals first | (exfalso; omega) | skip
    all_goals first | (have b4 : (k == 2) = true := beq_iff_eq.2 (by omega)) | (have b4 : (k == 2) = false := beq_eq_false_iff_ne.2 (by omega))
    all_goals first | (have b5 := isEmpty_yes m0) | (have b5 := isEmpty_no m0)
    all_goals clear k10 t0 k2 m0 h'
    all_goals go_enter Try.func35, Try.ntmps35
    all_goals go_wp2
    all_goals go_quiet ((go_at_call 42; exact Calls.quiet_of_same (kidsS _ _)))
    all_goals go_wp2
    all_goals go_ret
    all_goals exact ⟨rfl, below_drewN' (below_alloc _ _) _⟩
  · have b1 : ((nk : Int) != kidsK k) = true := bne_iff_ne.2 hn
    clear h hn
    go_enter Try.func35, Try.ntmps35
    go_wp2
    go_quiet ((go_at_call 42; exact Calls.quiet_of_same (kidsS _ _)))
    go_wp2
    go_ret
    exact ⟨rfl, below_drewN' (below_alloc _ _) _⟩

set_option maxHeartbeats 2000000 in
theorem nodeS_ok (k n : Int) (m : ByteArray) (ka ta : Option Addr) (nk kc tc : Nat) (ts : List T) (w : World) (h1 : nk ≤ maxLen) (z1 : m.size ≤ maxLen) (z2 : ts.length ≤ 1048576) (hT : TR w (.slice ta ts.length tc) ts) (hn : (nk : Int) = kidsK k) (ht : k = 10 ↔ 0 < ts.length) (hm : k = 2 ↔ m.size ≠ 0) :
    Calls Try.prog 35 #[.agg #[.int .i64 k, .int .i64 n, .string m, .slice ka nk kc, .slice ta ts.length tc]] w fun e w' => e = .returned (.bool (fitsB k n m ts)) ∧ Below w.heap.size w w' := by
  have HT := hide hT
  clear hT
  unfold maxLen at h1
  have hk := kidsK_in (k := k) (by omega)
  rcases cases10 hk with rfl | rfl | rfl | rfl | rfl | rfl | rfl | rfl | rfl | rfl
  · -- 1
    have b3 : decide (0 < ts.length) = false := decide_eq_false (by omega)
    have m0 : m.size = 0 := by omega
    have b5 := isEmpty_yes m0
    have t0 : ts.length = 0 := by omega
    by_cases r1 : -1000000000 ≤ n
    · by_cases r2 : n ≤ 1000000000
      · have e : fitsB 1 n m ts = true := by simp [fitsB, m0, t0]; omega
        rw [e]
        clear e m0 t0 ht hm
        have b1 : (((nk : Int)) != kidsK 1) = false := by simp [hn]
        clear hn
        go_enter Try.func35, Try.ntmps35
        go_wp2
        go_quiet ((go_at_call 42; exact Calls.quiet_of_same (kidsS _ _)))
        go_wp2_with (fail)
        go_ret
        exact ⟨rfl, below_drewN' (below_alloc _ _) _⟩
      · have e : fitsB 1 n m ts = false := by simp [fitsB, m0, t0]; omega
        rw [e]
        have r3 : decide (n ≤ 1000000000) = false := decide_eq_false r2
        clear e m0 t0 ht hm
        have b1 : (((nk : Int)) != kidsK 1) = false := by simp [hn]
        clear hn
        go_enter Try.func35, Try.ntmps35
        go_wp2
        go_quiet ((go_at_call 42; exact Calls.quiet_of_same (kidsS _ _)))
        go_wp2_with (fail)
        go_ret
        exact ⟨rfl, below_drewN' (below_alloc _ _) _⟩
    · have e : fitsB 1 n m ts = false := by simp [fitsB, m0, t0]; omega
      rw [e]
      clear e m0 t0 ht hm
      have b1 : (((nk : Int)) != kidsK 1) = false := by simp [hn]
      clear hn
      go_enter Try.func35, Try.ntmps35
      go_wp2
      go_quiet ((go_at_call 42; exact Calls.quiet_of_same (kidsS _ _)))
      go_wp2_with (fail)
      go_ret
      exact ⟨rfl, below_drewN' (below_alloc _ _) _⟩
  · -- 2
    have b3 : decide (0 < ts.length) = false := decide_eq_false (by omega)
    have m0 : m.size ≠ 0 := by omega
    have b5 := isEmpty_no m0
    have t0 : ts.length = 0 := by omega
    by_cases n0 : n = 0
    · have e : fitsB 2 n m ts = nameB m := by simp [fitsB, n0, t0]
      rw [e]
      have b6 : (n == 0) = true := by simp [n0]
      clear e m0 t0 ht hm n0
      have b1 : (((nk : Int)) != kidsK 2) = false := by simp [hn]
      clear hn
      go_enter Try.func35, Try.ntmps35
      go_wp2
      go_quiet ((go_at_call 42; exact Calls.quiet_of_same (kidsS _ _)))
      go_wp2_with (fail)
      refine (nameS m _ z1).mono ?_
      rintro e w1 ⟨rfl, hb1⟩
      have HB := hide (below_trans (below_drewN' (below_alloc _ _) _) hb1)
      clear hb1
      go_wp2_with (fail)
      go_ret
      exact ⟨rfl, unhide HB⟩
    · have e : fitsB 2 n m ts = false := by simp [fitsB, n0]
      rw [e]
      have b6 : (n == 0) = false := by simp [n0]
      clear e m0 t0 ht hm n0
      have b1 : (((nk : Int)) != kidsK 2) = false := by simp [hn]
      clear hn
      go_enter Try.func35, Try.ntmps35
      go_wp2
      go_quiet ((go_at_call 42; exact Calls.quiet_of_same (kidsS _ _)))
      go_wp2_with (fail)
      go_ret
      exact ⟨rfl, below_drewN' (below_alloc _ _) _⟩
  · -- 3
    have b3 : decide (0 < ts.length) = false := decide_eq_false (by omega)
    have m0 : m.size = 0 := by omega
    have b5 := isEmpty_yes m0
    have t0 : ts.length = 0 := by omega
    have e : fitsB 3 n m ts = (n == 0) := by rw [Bool.eq_iff_iff]; simp [fitsB, m0, t0]
    rw [e]
    clear e m0 t0 ht hm
    have b1 : (((nk : Int)) != kidsK 3) = false := by simp [hn]
    clear hn
    go_enter Try.func35, Try.ntmps35
    go_wp2
    go_quiet ((go_at_call 42; exact Calls.quiet_of_same (kidsS _ _)))
    go_wp2_with (fail)
    go_ret
    exact ⟨rfl, below_drewN' (below_alloc _ _) _⟩
  · -- 4
    have b3 : decide (0 < ts.length) = false := decide_eq_false (by omega)
    have m0 : m.size = 0 := by omega
    have b5 := isEmpty_yes m0
    have t0 : ts.length = 0 := by omega
    have e : fitsB 4 n m ts = (n == 0) := by rw [Bool.eq_iff_iff]; simp [fitsB, m0, t0]
    rw [e]
    clear e m0 t0 ht hm
    have b1 : (((nk : Int)) != kidsK 4) = false := by simp [hn]
    clear hn
    go_enter Try.func35, Try.ntmps35
    go_wp2
    go_quiet ((go_at_call 42; exact Calls.quiet_of_same (kidsS _ _)))
    go_wp2_with (fail)
    go_ret
    exact ⟨rfl, below_drewN' (below_alloc _ _) _⟩
  · -- 5
    have b3 : decide (0 < ts.length) = false := decide_eq_false (by omega)
    have m0 : m.size = 0 := by omega
    have b5 := isEmpty_yes m0
    have t0 : ts.length = 0 := by omega
    have e : fitsB 5 n m ts = (n == 0) := by rw [Bool.eq_iff_iff]; simp [fitsB, m0, t0]
    rw [e]
    clear e m0 t0 ht hm
    have b1 : (((nk : Int)) != kidsK 5) = false := by simp [hn]
    clear hn
    go_enter Try.func35, Try.ntmps35
    go_wp2
    go_quiet ((go_at_call 42; exact Calls.quiet_of_same (kidsS _ _)))
    go_wp2_with (fail)
    go_ret
    exact ⟨rfl, below_drewN' (below_alloc _ _) _⟩
  · -- 6
    have b3 : decide (0 < ts.length) = false := decide_eq_false (by omega)
    have m0 : m.size = 0 := by omega
    have b5 := isEmpty_yes m0
    have t0 : ts.length = 0 := by omega
    by_cases r1 : 0 ≤ n
    · by_cases r2 : n ≤ 1000000
      · have e : fitsB 6 n m ts = true := by simp [fitsB, m0, t0]; omega
        rw [e]
        clear e m0 t0 ht hm
        have b1 : (((nk : Int)) != kidsK 6) = false := by simp [hn]
        clear hn
        go_enter Try.func35, Try.ntmps35
        go_wp2
        go_quiet ((go_at_call 42; exact Calls.quiet_of_same (kidsS _ _)))
        go_wp2_with (fail)
        go_ret
        exact ⟨rfl, below_drewN' (below_alloc _ _) _⟩
      · have e : fitsB 6 n m ts = false := by simp [fitsB, m0, t0]; omega
        rw [e]
        have r3 : decide (n ≤ 1000000) = false := decide_eq_false r2
        clear e m0 t0 ht hm
        have b1 : (((nk : Int)) != kidsK 6) = false := by simp [hn]
        clear hn
        go_enter Try.func35, Try.ntmps35
        go_wp2
        go_quiet ((go_at_call 42; exact Calls.quiet_of_same (kidsS _ _)))
        go_wp2_with (fail)
        go_ret
        exact ⟨rfl, below_drewN' (below_alloc _ _) _⟩
    · have e : fitsB 6 n m ts = false := by simp [fitsB, m0, t0]; omega
      rw [e]
      clear e m0 t0 ht hm
      have b1 : (((nk : Int)) != kidsK 6) = false := by simp [hn]
      clear hn
      go_enter Try.func35, Try.ntmps35
      go_wp2
      go_quiet ((go_at_call 42; exact Calls.quiet_of_same (kidsS _ _)))
      go_wp2_with (fail)
      go_ret
      exact ⟨rfl, below_drewN' (below_alloc _ _) _⟩
  · -- 7
    have b3 : decide (0 < ts.length) = false := decide_eq_false (by omega)
    have m0 : m.size = 0 := by omega
    have b5 := isEmpty_yes m0
    have t0 : ts.length = 0 := by omega
    have e : fitsB 7 n m ts = (n == 0) := by rw [Bool.eq_iff_iff]; simp [fitsB, m0, t0]
    rw [e]
    clear e m0 t0 ht hm
    have b1 : (((nk : Int)) != kidsK 7) = false := by simp [hn]
    clear hn
    go_enter Try.func35, Try.ntmps35
    go_wp2
    go_quiet ((go_at_call 42; exact Calls.quiet_of_same (kidsS _ _)))
    go_wp2_with (fail)
    go_ret
    exact ⟨rfl, below_drewN' (below_alloc _ _) _⟩
  · -- 8
    have b3 : decide (0 < ts.length) = false := decide_eq_false (by omega)
    have m0 : m.size = 0 := by omega
    have b5 := isEmpty_yes m0
    have t0 : ts.length = 0 := by omega
    have e : fitsB 8 n m ts = (n == 0) := by rw [Bool.eq_iff_iff]; simp [fitsB, m0, t0]
    rw [e]
    clear e m0 t0 ht hm
    have b1 : (((nk : Int)) != kidsK 8) = false := by simp [hn]
    clear hn
    go_enter Try.func35, Try.ntmps35
    go_wp2
    go_quiet ((go_at_call 42; exact Calls.quiet_of_same (kidsS _ _)))
    go_wp2_with (fail)
    go_ret
    exact ⟨rfl, below_drewN' (below_alloc _ _) _⟩
  · -- 9
    have b3 : decide (0 < ts.length) = false := decide_eq_false (by omega)
    have m0 : m.size = 0 := by omega
    have b5 := isEmpty_yes m0
    have t0 : ts.length = 0 := by omega
    have e : fitsB 9 n m ts = (n == 0) := by rw [Bool.eq_iff_iff]; simp [fitsB, m0, t0]
    rw [e]
    clear e m0 t0 ht hm
    have b1 : (((nk : Int)) != kidsK 9) = false := by simp [hn]
    clear hn
    go_enter Try.func35, Try.ntmps35
    go_wp2
    go_quiet ((go_at_call 42; exact Calls.quiet_of_same (kidsS _ _)))
    go_wp2_with (fail)
    go_ret
    exact ⟨rfl, below_drewN' (below_alloc _ _) _⟩
  · -- 10
    have b3 : decide (0 < ts.length) = true := decide_eq_true (by omega)
    have m0 : m.size = 0 := by omega
    have b5 := isEmpty_yes m0
    by_cases n0 : n = 0
    · have e : fitsB 10 n m ts = rightB ts := by simp [fitsB, n0, m0]
      rw [e]
      have b6 : (n == 0) = true := by simp [n0]
      clear e m0 ht hm n0
      have b1 : (((nk : Int)) != kidsK 10) = false := by simp [hn]
      clear hn
      go_enter Try.func35, Try.ntmps35
      go_wp2
      go_quiet ((go_at_call 42; exact Calls.quiet_of_same (kidsS _ _)))
      go_wp2_with (fail)
      refine (rightS _ ts _ ((unhide HT).kept (below_drewN' (below_alloc _ _) _)) z2).mono ?_
      rintro e w1 ⟨rfl, hb1⟩
      have HB := hide (below_trans (below_drewN' (below_alloc _ _) _) hb1)
      clear hb1
      go_wp2_with (fail)
      go_ret
      exact ⟨rfl, unhide HB⟩
    · have e : fitsB 10 n m ts = false := by simp [fitsB, n0]
      rw [e]
      have b6 : (n == 0) = false := by simp [n0]
      clear e m0 ht hm n0
      have b1 : (((nk : Int)) != kidsK 10) = false := by simp [hn]
      clear hn
      go_enter Try.func35, Try.ntmps35
      go_wp2
      go_quiet ((go_at_call 42; exact Calls.quiet_of_same (kidsS _ _)))
      go_wp2_with (fail)
      go_ret
      exact ⟨rfl, below_drewN' (below_alloc _ _) _⟩

/-- spec.l2Node -/
theorem nodeS (k n : Int) (m : ByteArray) (ka ta : Option Addr) (nk kc tc : Nat) (ts : List T) (w : World) (h1 : nk ≤ maxLen) (z1 : m.size ≤ maxLen) (z2 : ts.length ≤ 1048576) (hT : TR w (.slice ta ts.length tc) ts) :
    Calls Try.prog 35 #[.agg #[.int .i64 k, .int .i64 n, .string m, .slice ka nk kc, .slice ta ts.length tc]] w fun e w' => e = .returned (.bool (nodeB k n m nk ts)) ∧ Below w.heap.size w w' := by
  by_cases hn : (nk : Int) = kidsK k
  · rw [nodeB_fits hn]
    by_cases ht : k = 10 ↔ 0 < ts.length
    · by_cases hm : k = 2 ↔ m.size ≠ 0
      · exact nodeS_ok k n m ka ta nk kc tc ts w h1 z1 z2 hT hn ht hm
      · rw [fits_meter hm]
        exact nodeS_bad k n m ka ta nk kc _ tc w h1 (by unfold maxLen; omega) (.inr (.inr hm))
    · rw [fits_tiers ht]
      exact nodeS_bad k n m ka ta nk kc _ tc w h1 (by unfold maxLen; omega) (.inr (.inl ht))
  · rw [nodeB_kids hn]
    exact nodeS_bad k n m ka ta nk kc _ tc w h1 (by unfold maxLen; omega) (.inl hn)
end Go.Proofs.Ytdpefmjlmpjjbaa.Rule
