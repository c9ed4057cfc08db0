/-
  Texts of this proof laid together, in build order; each says of itself what it holds.
-/
import Derived.Test.YtnchgeiinkaefaaGreatDoorZab
import Derived.Lib.ItoaNum
import Derived.Lib.ItoaMem
import Derived.Lib.AtoiTie
import Derived.Lib.AtoiAllCases
section
/-
  An expression that is right but for its kids (spec.l2Kids, spec.l2Node).
-/
namespace Go.Proofs.YtnchgeiinkaefaaGreatDoor.Rule
set_option linter.unusedVariables false
open Go.RowKit Tiers
open Kinds hiding hide unhide below_trans ext_toList

/-- all but the kids is as the kind has it -/
def fitsB (k n : Int) (m : ByteArray) (ts : List T) : Bool :=
  if k = 1 then decide (-1000000000 ≤ n ∧ n ≤ 1000000000) && decide (m.size = 0) && decide (ts.length = 0)
  else if k = 2 then nameB m && decide (n = 0) && decide (ts.length = 0)
  else if k = 6 then decide (0 ≤ n ∧ n ≤ 1000000) && decide (m.size = 0) && decide (ts.length = 0)
  else if k = 10 then rightB ts && decide (n = 0) && decide (m.size = 0)
  else decide (n = 0) && decide (m.size = 0) && decide (ts.length = 0)
/-- an expression is right, but for its kids -/
def nodeB (k n : Int) (m : ByteArray) (nk : Nat) (ts : List T) : Bool := decide (1 ≤ k ∧ k ≤ 10 ∧ (nk : Int) = kidsK k) && fitsB k n m ts

theorem kidsK_in {k : Int} (h : 0 ≤ kidsK k) : 1 ≤ k ∧ k ≤ 10 := by
  unfold kidsK at h
  split at h
  · omega
  split at h
  · omega
  split at h
  · omega
  split at h
  · omega
  · omega
theorem nodeB_kids {k n : Int} {m : ByteArray} {nk : Nat} {ts : List T} (h : (nk : Int) ≠ kidsK k) : nodeB k n m nk ts = false := by
  unfold nodeB; rw [decide_eq_false (by rintro ⟨_, _, h3⟩; exact h h3)]; rfl
theorem nodeB_fits {k n : Int} {m : ByteArray} {nk : Nat} {ts : List T} (h : (nk : Int) = kidsK k) : nodeB k n m nk ts = fitsB k n m ts := by
  have := kidsK_in (k := k) (by omega)
  unfold nodeB; rw [decide_eq_true ⟨this.1, this.2, h⟩]; rfl
theorem nameB_empty {m : ByteArray} (h : m.size = 0) : nameB m = false := nameB_size (by omega)
theorem rightB_empty {ts : List T} (h : ts.length = 0) : rightB ts = false := rightB_size (by omega)
theorem fits_tiers {k n : Int} {m : ByteArray} {ts : List T} (h : ¬ (k = 10 ↔ 0 < ts.length)) : fitsB k n m ts = false := by
  unfold fitsB
  by_cases h10 : k = 10
  · subst h10
    have : ts.length = 0 := by omega
    simp [rightB_empty this]
  · have : ¬ ts.length = 0 := by omega
    split
    · simp [this]
    split
    · simp [this]
    split
    · simp [this]
    · simp [this]
theorem fits_meter {k n : Int} {m : ByteArray} {ts : List T} (h : ¬ (k = 2 ↔ m.size ≠ 0)) : fitsB k n m ts = false := by
  unfold fitsB
  by_cases h2 : k = 2
  · subst h2
    have : m.size = 0 := by omega
    simp [nameB_empty this]
  · have : ¬ m.size = 0 := by omega
    rw [decide_eq_false this]
    simp [h2]

set_option maxHeartbeats 1000000 in
/-- spec.l2Kids -/
theorem kidsS (k : Int) (w : World) : Calls Tryz.prog 82 #[.int .i64 k] w fun e w' => e = .returned (.int .i64 (kidsK k)) ∧ w' = w := by
  by_cases h : 1 ≤ k ∧ k ≤ 10
  · rcases cases10 h with rfl | rfl | rfl | rfl | rfl | rfl | rfl | rfl | rfl | rfl
    all_goals
      clear h
      go_enter Tryz.func82, Tryz.ntmps82
      go_wp2
      go_ret
      exact ⟨rfl, rfl⟩
  · have e : kidsK k = -1 := by
      unfold kidsK
      rw [if_neg (by omega), if_neg (by omega), if_neg (by omega), if_neg (by omega)]
    rw [e]
    have n1 : (k == 1) = false := beq_eq_false_iff_ne.2 (by omega)
    have n2 : (k == 2) = false := beq_eq_false_iff_ne.2 (by omega)
    have n6 : (k == 6) = false := beq_eq_false_iff_ne.2 (by omega)
    have n9 : (k == 9) = false := beq_eq_false_iff_ne.2 (by omega)
    have n10 : (k == 10) = false := beq_eq_false_iff_ne.2 (by omega)
    clear e
    by_cases h3 : 3 ≤ k
    · have h8 : ¬ k ≤ 8 := by omega
      clear h
      go_enter Tryz.func82, Tryz.ntmps82
      go_wp2
      go_ret
      exact ⟨rfl, rfl⟩
    · clear h
      go_enter Tryz.func82, Tryz.ntmps82
      go_wp2
      go_ret
      exact ⟨rfl, rfl⟩

theorem isEmpty_yes {m : ByteArray} (h : m.size = 0) : m.toList.isEmpty = true := by
  rw [Lib.toList_data, List.isEmpty_iff]
  exact List.length_eq_zero_iff.1 (by simpa using h)
theorem isEmpty_no {m : ByteArray} (h : m.size ≠ 0) : m.toList.isEmpty = false := by
  rw [Lib.toList_data, List.isEmpty_eq_false_iff]
  exact fun e => h (by have := congrArg List.length e; simpa using this)

set_option maxHeartbeats 1000000 in
theorem nodeS_bad (k n : Int) (m : ByteArray) (ka ta : Option Addr) (nk kc tn tc : Nat) (w : World) (h1 : nk ≤ maxLen) (h2 : tn ≤ maxLen) (h : (nk : Int) ≠ kidsK k ∨ ¬ (k = 10 ↔ 0 < tn) ∨ ¬ (k = 2 ↔ m.size ≠ 0)) :
    Calls Tryz.prog 112 #[.agg #[.int .i64 k, .int .i64 n, .string m, .slice ka nk kc, .slice ta tn tc]] w fun e w' => e = .returned (.bool false) ∧ Below w.heap.size w w' := by
  unfold maxLen at h1 h2
  by_cases hn : (nk : Int) = kidsK k
  · have b1 : ((nk : Int) != kidsK k) = false := by simp [hn]
    have h' := h.resolve_left (fun e => e hn)
    clear h hn
    by_cases k10 : k = 10
    all_goals by_cases t0 : 0 < tn
    all_goals first | (have b2 : (k == 10) = true := beq_iff_eq.2 (by omega)) | (have b2 : (k == 10) = false := beq_eq_false_iff_ne.2 (by omega))
    all_goals first | (have b3 : decide (0 < tn) = true := decide_eq_true (by omega)) | (have b3 : decide (0 < tn) = false := decide_eq_false (by omega))
    all_goals by_cases k2 : k = 2
    all_goals by_cases m0 : m.size = 0
    all_goals first | (exfalso; omega) | skip
    all_goals first | (have b4 : (k == 2) = true := beq_iff_eq.2 (by omega)) | (have b4 : (k == 2) = false := beq_eq_false_iff_ne.2 (by omega))
    all_goals first | (have b5 := isEmpty_yes m0) | (have b5 := isEmpty_no m0)
    all_goals clear k10 t0 k2 m0 h'
    all_goals go_enter Tryz.func112, Tryz.ntmps112
    all_goals go_wp2
    all_goals go_quiet ((go_at_call 82; exact Calls.quiet_of_same (kidsS _ _)))
    all_goals go_wp2
    all_goals go_ret
    all_goals exact ⟨rfl, below_drewN' (below_alloc _ _) _⟩
  · have b1 : ((nk : Int) != kidsK k) = true := bne_iff_ne.2 hn
    clear h hn
    go_enter Tryz.func112, Tryz.ntmps112
    go_wp2
    go_quiet ((go_at_call 82; exact Calls.quiet_of_same (kidsS _ _)))
    go_wp2
    go_ret
    exact ⟨rfl, below_drewN' (below_alloc _ _) _⟩

set_option maxHeartbeats 2000000 in
theorem nodeS_ok (k n : Int) (m : ByteArray) (ka ta : Option Addr) (nk kc tc : Nat) (ts : List T) (w : World) (h1 : nk ≤ maxLen) (z1 : m.size ≤ maxLen) (z2 : ts.length ≤ 1048576) (hT : TR w (.slice ta ts.length tc) ts) (hn : (nk : Int) = kidsK k) (ht : k = 10 ↔ 0 < ts.length) (hm : k = 2 ↔ m.size ≠ 0) :
    Calls Tryz.prog 112 #[.agg #[.int .i64 k, .int .i64 n, .string m, .slice ka nk kc, .slice ta ts.length tc]] w fun e w' => e = .returned (.bool (fitsB k n m ts)) ∧ Below w.heap.size w w' := by
  have HT := hide hT
  clear hT
  unfold maxLen at h1
  have hk := kidsK_in (k := k) (by omega)
  rcases cases10 hk with rfl | rfl | rfl | rfl | rfl | rfl | rfl | rfl | rfl | rfl
  · -- 1
    have b3 : decide (0 < ts.length) = false := decide_eq_false (by omega)
    have m0 : m.size = 0 := by omega
    have b5 := isEmpty_yes m0
    have t0 : ts.length = 0 := by omega
    by_cases r1 : -1000000000 ≤ n
    · by_cases r2 : n ≤ 1000000000
      · have e : fitsB 1 n m ts = true := by simp [fitsB, m0, t0]; omega
        rw [e]
        clear e m0 t0 ht hm
        have b1 : (((nk : Int)) != kidsK 1) = false := by simp [hn]
        clear hn
        go_enter Tryz.func112, Tryz.ntmps112
        go_wp2
        go_quiet ((go_at_call 82; exact Calls.quiet_of_same (kidsS _ _)))
        go_wp2_with (fail)
        go_ret
        exact ⟨rfl, below_drewN' (below_alloc _ _) _⟩
      · have e : fitsB 1 n m ts = false := by simp [fitsB, m0, t0]; omega
        rw [e]
        have r3 : decide (n ≤ 1000000000) = false := decide_eq_false r2
        clear e m0 t0 ht hm
        have b1 : (((nk : Int)) != kidsK 1) = false := by simp [hn]
        clear hn
        go_enter Tryz.func112, Tryz.ntmps112
        go_wp2
        go_quiet ((go_at_call 82; exact Calls.quiet_of_same (kidsS _ _)))
        go_wp2_with (fail)
        go_ret
        exact ⟨rfl, below_drewN' (below_alloc _ _) _⟩
    · have e : fitsB 1 n m ts = false := by simp [fitsB, m0, t0]; omega
      rw [e]
      clear e m0 t0 ht hm
      have b1 : (((nk : Int)) != kidsK 1) = false := by simp [hn]
      clear hn
      go_enter Tryz.func112, Tryz.ntmps112
      go_wp2
      go_quiet ((go_at_call 82; exact Calls.quiet_of_same (kidsS _ _)))
      go_wp2_with (fail)
      go_ret
      exact ⟨rfl, below_drewN' (below_alloc _ _) _⟩
  · -- 2
    have b3 : decide (0 < ts.length) = false := decide_eq_false (by omega)
    have m0 : m.size ≠ 0 := by omega
    have b5 := isEmpty_no m0
    have t0 : ts.length = 0 := by omega
    by_cases n0 : n = 0
    · have e : fitsB 2 n m ts = nameB m := by simp [fitsB, n0, t0]
      rw [e]
      have b6 : (n == 0) = true := by simp [n0]
      clear e m0 t0 ht hm n0
      have b1 : (((nk : Int)) != kidsK 2) = false := by simp [hn]
      clear hn
      go_enter Tryz.func112, Tryz.ntmps112
      go_wp2
      go_quiet ((go_at_call 82; exact Calls.quiet_of_same (kidsS _ _)))
      go_wp2_with (fail)
      refine (nameS m _ z1).mono ?_
      rintro e w1 ⟨rfl, hb1⟩
      have HB := hide (below_trans (below_drewN' (below_alloc _ _) _) hb1)
      clear hb1
      go_wp2_with (fail)
      go_ret
      exact ⟨rfl, unhide HB⟩
    · have e : fitsB 2 n m ts = false := by simp [fitsB, n0]
      rw [e]
      have b6 : (n == 0) = false := by simp [n0]
      clear e m0 t0 ht hm n0
      have b1 : (((nk : Int)) != kidsK 2) = false := by simp [hn]
      clear hn
      go_enter Tryz.func112, Tryz.ntmps112
      go_wp2
      go_quiet ((go_at_call 82; exact Calls.quiet_of_same (kidsS _ _)))
      go_wp2_with (fail)
      go_ret
      exact ⟨rfl, below_drewN' (below_alloc _ _) _⟩
  · -- 3
    have b3 : decide (0 < ts.length) = false := decide_eq_false (by omega)
    have m0 : m.size = 0 := by omega
    have b5 := isEmpty_yes m0
    have t0 : ts.length = 0 := by omega
    have e : fitsB 3 n m ts = (n == 0) := by rw [Bool.eq_iff_iff]; simp [fitsB, m0, t0]
    rw [e]
    clear e m0 t0 ht hm
    have b1 : (((nk : Int)) != kidsK 3) = false := by simp [hn]
    clear hn
    go_enter Tryz.func112, Tryz.ntmps112
    go_wp2
    go_quiet ((go_at_call 82; exact Calls.quiet_of_same (kidsS _ _)))
    go_wp2_with (fail)
    go_ret
    exact ⟨rfl, below_drewN' (below_alloc _ _) _⟩
  · -- 4
    have b3 : decide (0 < ts.length) = false := decide_eq_false (by omega)
    have m0 : m.size = 0 := by omega
    have b5 := isEmpty_yes m0
    have t0 : ts.length = 0 := by omega
    have e : fitsB 4 n m ts = (n == 0) := by rw [Bool.eq_iff_iff]; simp [fitsB, m0, t0]
    rw [e]
    clear e m0 t0 ht hm
    have b1 : (((nk : Int)) != kidsK 4) = false := by simp [hn]
    clear hn
    go_enter Tryz.func112, Tryz.ntmps112
    go_wp2
    go_quiet ((go_at_call 82; exact Calls.quiet_of_same (kidsS _ _)))
    go_wp2_with (fail)
    go_ret
    exact ⟨rfl, below_drewN' (below_alloc _ _) _⟩
  · -- 5
    have b3 : decide (0 < ts.length) = false := decide_eq_false (by omega)
    have m0 : m.size = 0 := by omega
    have b5 := isEmpty_yes m0
    have t0 : ts.length = 0 := by omega
    have e : fitsB 5 n m ts = (n == 0) := by rw [Bool.eq_iff_iff]; simp [fitsB, m0, t0]
    rw [e]
    clear e m0 t0 ht hm
    have b1 : (((nk : Int)) != kidsK 5) = false := by simp [hn]
    clear hn
    go_enter Tryz.func112, Tryz.ntmps112
    go_wp2
    go_quiet ((go_at_call 82; exact Calls.quiet_of_same (kidsS _ _)))
    go_wp2_with (fail)
    go_ret
    exact ⟨rfl, below_drewN' (below_alloc _ _) _⟩
  · -- 6
    have b3 : decide (0 < ts.length) = false := decide_eq_false (by omega)
    have m0 : m.size = 0 := by omega
    have b5 := isEmpty_yes m0
    have t0 : ts.length = 0 := by omega
    by_cases r1 : 0 ≤ n
    · by_cases r2 : n ≤ 1000000
      · have e : fitsB 6 n m ts = true := by simp [fitsB, m0, t0]; omega
        rw [e]
        clear e m0 t0 ht hm
        have b1 : (((nk : Int)) != kidsK 6) = false := by simp [hn]
        clear hn
        go_enter Tryz.func112, Tryz.ntmps112
        go_wp2
        go_quiet ((go_at_call 82; exact Calls.quiet_of_same (kidsS _ _)))
        go_wp2_with (fail)
        go_ret
        exact ⟨rfl, below_drewN' (below_alloc _ _) _⟩
      · have e : fitsB 6 n m ts = false := by simp [fitsB, m0, t0]; omega
        rw [e]
        have r3 : decide (n ≤ 1000000) = false := decide_eq_false r2
        clear e m0 t0 ht hm
        have b1 : (((nk : Int)) != kidsK 6) = false := by simp [hn]
        clear hn
        go_enter Tryz.func112, Tryz.ntmps112
        go_wp2
        go_quiet ((go_at_call 82; exact Calls.quiet_of_same (kidsS _ _)))
        go_wp2_with (fail)
        go_ret
        exact ⟨rfl, below_drewN' (below_alloc _ _) _⟩
    · have e : fitsB 6 n m ts = false := by simp [fitsB, m0, t0]; omega
      rw [e]
      clear e m0 t0 ht hm
      have b1 : (((nk : Int)) != kidsK 6) = false := by simp [hn]
      clear hn
      go_enter Tryz.func112, Tryz.ntmps112
      go_wp2
      go_quiet ((go_at_call 82; exact Calls.quiet_of_same (kidsS _ _)))
      go_wp2_with (fail)
      go_ret
      exact ⟨rfl, below_drewN' (below_alloc _ _) _⟩
  · -- 7
    have b3 : decide (0 < ts.length) = false := decide_eq_false (by omega)
    have m0 : m.size = 0 := by omega
    have b5 := isEmpty_yes m0
    have t0 : ts.length = 0 := by omega
    have e : fitsB 7 n m ts = (n == 0) := by rw [Bool.eq_iff_iff]; simp [fitsB, m0, t0]
    rw [e]
    clear e m0 t0 ht hm
    have b1 : (((nk : Int)) != kidsK 7) = false := by simp [hn]
    clear hn
    go_enter Tryz.func112, Tryz.ntmps112
    go_wp2
    go_quiet ((go_at_call 82; exact Calls.quiet_of_same (kidsS _ _)))
    go_wp2_with (fail)
    go_ret
    exact ⟨rfl, below_drewN' (below_alloc _ _) _⟩
  · -- 8
    have b3 : decide (0 < ts.length) = false := decide_eq_false (by omega)
    have m0 : m.size = 0 := by omega
    have b5 := isEmpty_yes m0
    have t0 : ts.length = 0 := by omega
    have e : fitsB 8 n m ts = (n == 0) := by rw [Bool.eq_iff_iff]; simp [fitsB, m0, t0]
    rw [e]
    clear e m0 t0 ht hm
    have b1 : (((nk : Int)) != kidsK 8) = false := by simp [hn]
    clear hn
    go_enter Tryz.func112, Tryz.ntmps112
    go_wp2
    go_quiet ((go_at_call 82; exact Calls.quiet_of_same (kidsS _ _)))
    go_wp2_with (fail)
    go_ret
    exact ⟨rfl, below_drewN' (below_alloc _ _) _⟩
  · -- 9
    have b3 : decide (0 < ts.length) = false := decide_eq_false (by omega)
    have m0 : m.size = 0 := by omega
    have b5 := isEmpty_yes m0
    have t0 : ts.length = 0 := by omega
    have e : fitsB 9 n m ts = (n == 0) := by rw [Bool.eq_iff_iff]; simp [fitsB, m0, t0]
    rw [e]
    clear e m0 t0 ht hm
    have b1 : (((nk : Int)) != kidsK 9) = false := by simp [hn]
    clear hn
    go_enter Tryz.func112, Tryz.ntmps112
    go_wp2
    go_quiet ((go_at_call 82; exact Calls.quiet_of_same (kidsS _ _)))
    go_wp2_with (fail)
    go_ret
    exact ⟨rfl, below_drewN' (below_alloc _ _) _⟩
  · -- 10
    have b3 : decide (0 < ts.length) = true := decide_eq_true (by omega)
    have m0 : m.size = 0 := by omega
    have b5 := isEmpty_yes m0
    by_cases n0 : n = 0
    · have e : fitsB 10 n m ts = rightB ts := by simp [fitsB, n0, m0]
      rw [e]
      have b6 : (n == 0) = true := by simp [n0]
      clear e m0 ht hm n0
      have b1 : (((nk : Int)) != kidsK 10) = false := by simp [hn]
      clear hn
      go_enter Tryz.func112, Tryz.ntmps112
      go_wp2
      go_quiet ((go_at_call 82; exact Calls.quiet_of_same (kidsS _ _)))
      go_wp2_with (fail)
      refine (rightS _ ts _ ((unhide HT).kept (below_drewN' (below_alloc _ _) _)) z2).mono ?_
      rintro e w1 ⟨rfl, hb1⟩
      have HB := hide (below_trans (below_drewN' (below_alloc _ _) _) hb1)
      clear hb1
      go_wp2_with (fail)
      go_ret
      exact ⟨rfl, unhide HB⟩
    · have e : fitsB 10 n m ts = false := by simp [fitsB, n0]
      rw [e]
      have b6 : (n == 0) = false := by simp [n0]
      clear e m0 ht hm n0
      have b1 : (((nk : Int)) != kidsK 10) = false := by simp [hn]
      clear hn
      go_enter Tryz.func112, Tryz.ntmps112
      go_wp2
      go_quiet ((go_at_call 82; exact Calls.quiet_of_same (kidsS _ _)))
      go_wp2_with (fail)
      go_ret
      exact ⟨rfl, below_drewN' (below_alloc _ _) _⟩

/-- spec.l2Node -/
theorem nodeS (k n : Int) (m : ByteArray) (ka ta : Option Addr) (nk kc tc : Nat) (ts : List T) (w : World) (h1 : nk ≤ maxLen) (z1 : m.size ≤ maxLen) (z2 : ts.length ≤ 1048576) (hT : TR w (.slice ta ts.length tc) ts) :
    Calls Tryz.prog 112 #[.agg #[.int .i64 k, .int .i64 n, .string m, .slice ka nk kc, .slice ta ts.length tc]] w fun e w' => e = .returned (.bool (nodeB k n m nk ts)) ∧ Below w.heap.size w w' := by
  by_cases hn : (nk : Int) = kidsK k
  · rw [nodeB_fits hn]
    by_cases ht : k = 10 ↔ 0 < ts.length
    · by_cases hm : k = 2 ↔ m.size ≠ 0
      · exact nodeS_ok k n m ka ta nk kc tc ts w h1 z1 z2 hT hn ht hm
      · rw [fits_meter hm]
        exact nodeS_bad k n m ka ta nk kc _ tc w h1 (by unfold maxLen; omega) (.inr (.inr hm))
    · rw [fits_tiers ht]
      exact nodeS_bad k n m ka ta nk kc _ tc w h1 (by unfold maxLen; omega) (.inr (.inl ht))
  · rw [nodeB_kids hn]
    exact nodeS_bad k n m ka ta nk kc _ tc w h1 (by unfold maxLen; omega) (.inl hn)
end Go.Proofs.YtnchgeiinkaefaaGreatDoor.Rule
end

section
/-
  spec.l2Size, spec.RuleOk.
-/
namespace Go.Proofs.YtnchgeiinkaefaaGreatDoor.Rule
set_option linter.unusedVariables false
open Go.RowKit Tiers
open Kinds hiding hide unhide below_trans ext_toList

mutual
/-- all are right -/
def allB : Ex → Bool | .mk k n m ks ts => nodeB k n m ks.length ts && allL ks
def allL : List Ex → Bool | [] => true | e :: es => allB e && allL es
end
/-- RuleOk -/
def okE (e : Ex) : Bool := allB e && decide (cnt e ≤ 40) && decide (dep e ≤ 8)
def nodeE (e : Ex) : Bool := nodeB e.kind e.num e.meter e.kids.length e.tiers
theorem allB_eq (e : Ex) : allB e = (nodeE e && allL e.kids) := by cases e; rfl
theorem allL_append : ∀ a b : List Ex, allL (a ++ b) = (allL a && allL b)
  | [], b => rfl
  | e :: es, b => by rw [List.cons_append, allL, allL, allL_append es b, Bool.and_assoc]
theorem allL_take {l : List Ex} {k : Nat} (h : k < l.length) : allL (l.take (k + 1)) = (allL (l.take k) && allB (l.getD k E0)) := by
  rw [take_at h, allL_append]; simp [allL]
theorem allL_false {l : List Ex} {k : Nat} (h : allL (l.take k) = false) : allL l = false := by
  have h' := allL_append (l.take k) (l.drop k)
  rw [List.take_append_drop, h] at h'
  simpa using h'

/-- what l2Size tells -/
def SizeOk (e : Ex) (n dd : Int) (ok : Bool) : Prop := 1 ≤ n ∧ n ≤ cnt e ∧ 1 ≤ dd ∧ dd ≤ dep e ∧ (ok = true → n = cnt e ∧ dd = dep e ∧ allB e = true) ∧ (ok = false → allB e = false ∨ 40 < cnt e)
/-- .. behind k kids -/
def SizeAt (e : Ex) (k : Nat) (n dd : Int) (ok : Bool) : Prop := 1 ≤ n ∧ n ≤ 1 + cntL (e.kids.take k) ∧ 0 ≤ dd ∧ dd ≤ depL (e.kids.take k) ∧
  (ok = true → n = 1 + cntL (e.kids.take k) ∧ dd = depL (e.kids.take k) ∧ nodeE e = true ∧ allL (e.kids.take k) = true) ∧ (ok = false → nodeE e = false ∨ allL (e.kids.take k) = false ∨ 40 < 1 + cntL (e.kids.take k))
theorem SizeAt.start (e : Ex) : SizeAt e 0 1 0 (nodeE e) := by
  refine ⟨by omega, by simp [cntL], by omega, by simp, fun h => ⟨by simp [cntL], by simp [depL], h, rfl⟩, fun h => .inl h⟩
theorem SizeAt.step {e : Ex} {k : Nat} {n dd a b : Int} {c : Bool} (h : SizeAt e k n dd true) (hk : k < e.kids.length) (hs : SizeOk (e.kids.getD k E0) a b c) :
    SizeAt e (k + 1) (n + a) (if dd < b then b else dd) (c && decide (n + a ≤ 40)) := by
  obtain ⟨h1, h2, h3, h4, h5, _⟩ := h
  obtain ⟨e1, e2, e3, e4⟩ := h5 rfl
  obtain ⟨s1, s2, s3, s4, s5, s6⟩ := hs
  have c1 := cntL_take hk
  have d1 := depL_take hk
  have a1 := allL_take hk
  unfold SizeAt
  rw [c1, d1, a1]
  refine ⟨by omega, by omega, by split <;> omega, by split <;> omega, fun h => ?_, fun h => ?_⟩
  · simp only [Bool.and_eq_true, decide_eq_true_eq] at h
    obtain ⟨t1, t2, t3⟩ := s5 h.1
    refine ⟨by omega, by split <;> omega, e3, by rw [e4, t3]; rfl⟩
  · cases hc : c
    · rcases s6 hc with s | s
      · exact .inr (.inl (by rw [s]; simp))
      · exact .inr (.inr (by omega))
    · rw [hc] at h
      simp only [Bool.true_and, decide_eq_false_iff_not] at h
      exact .inr (.inr (by omega))
theorem SizeAt.done {e : Ex} {k : Nat} {n dd : Int} {ok : Bool} (h : SizeAt e k n dd ok) (hk : ok = false ∨ e.kids.length ≤ k) : SizeOk e n (dd + 1) ok := by
  obtain ⟨h1, h2, h3, h4, h5, h6⟩ := h
  have c1 := cntL_le e.kids k
  have d1 := depL_le e.kids k
  refine ⟨h1, by rw [cnt_eq]; omega, by omega, by rw [dep_eq]; omega, fun h => ?_, fun h => ?_⟩
  · have hk' : e.kids.length ≤ k := hk.resolve_left (by rw [h]; simp)
    obtain ⟨e1, e2, e3, e4⟩ := h5 h
    rw [List.take_of_length_le hk'] at e1 e2 e4
    rw [cnt_eq, dep_eq, allB_eq, e3, e4]
    exact ⟨by omega, by omega, rfl⟩
  · rw [cnt_eq, allB_eq]
    rcases h6 h with s | s | s
    · exact .inl (by rw [s]; rfl)
    · exact .inl (by rw [allL_false s]; simp)
    · exact .inr (by omega)

def SizeE (d : Nat) : Prop := ∀ (lo hi : Nat) (v : Value) (e : Ex) (w : World), EV lo hi w d v e → hi ≤ w.heap.size → wt e ≤ 1048576 →
  Calls Tryz.prog 86 #[v] w fun x w' => ∃ (n dd : Int) (ok : Bool), x = .returned (.tuple #[.int .i64 n, .int .i64 dd, .bool ok]) ∧ SizeOk e n dd ok ∧ Below w.heap.size w w'

set_option maxHeartbeats 1600000 in
theorem sizeE_nil (lo hi : Nat) (a : Option Addr) (c : Nat) (tv : Value) (e : Ex) (w : World) (hk : e.kids = []) (hz : e.meter.size ≤ maxLen ∧ e.tiers.length ≤ maxLen) (ht : TL lo hi w tv e.tiers) (hhi : hi ≤ w.heap.size) (hw : wt e ≤ 1048576) :
    Calls Tryz.prog 86 #[.agg #[.int .i64 e.kind, .int .i64 e.num, .string e.meter, .slice a 0 c, tv]] w fun x w' => ∃ (n dd : Int) (ok : Bool), x = .returned (.tuple #[.int .i64 n, .int .i64 dd, .bool ok]) ∧ SizeOk e n dd ok ∧ Below w.heap.size w w' := by
  have hS : SizeOk e 1 (0 + 1) (nodeE e) := (SizeAt.start e).done (.inr (by rw [hk]; simp))
  have HS := hide hS
  have hnode : nodeE e = nodeB e.kind e.num e.meter 0 e.tiers := by unfold nodeE; rw [hk]; rfl
  have ht2 : e.tiers.length ≤ 1048576 := by rw [wt_eq] at hw; omega
  obtain ⟨ta, tc, rfl⟩ : ∃ a c, tv = .slice a e.tiers.length c := by
    rcases ht with ⟨h, a, c, rfl⟩ | ⟨b, o, cap, rfl, _⟩
    · rw [h]; exact ⟨_, _, rfl⟩
    · exact ⟨_, _, rfl⟩
  have HN := hide (nodeS e.kind e.num e.meter a ta 0 c tc e.tiers (w.alloc (.cells #[.int .i64 e.kind, .int .i64 e.num, .string e.meter, .slice a 0 c, .slice ta e.tiers.length tc] 77)) (by unfold maxLen; omega) hz.1 ht2 (ht.kept (same_below (below_alloc _ _) hhi)).toTR)
  rw [← hnode] at HN
  clear hnode hS ht hz hk
  generalize e.kind = k at *
  generalize e.num = q at *
  generalize e.meter = m at *
  generalize e.tiers.length = tn at *
  generalize nodeE e = nd at *
  go_enter Tryz.func86, Tryz.ntmps86
  go_wp2_with (fail)
  refine (unhide HN).mono ?_
  rintro x w1 ⟨rfl, hb1⟩
  obtain ⟨c0, c1, c2, c3, c4, hB⟩ := box5 _ _ _ _ _ _ _ _ hb1
  have HB := hide hB
  clear hb1 hB HN
  go_wp2_with (fail)
  refine wp_loop_rounds 1 ?_
  rw [rounds_succ]
  go_wp2_with (fail)
  go_ret3
  exact ⟨_, _, _, rfl, unhide HS, unhide HB⟩

set_option maxHeartbeats 1600000 in
theorem sizeE_row {d : Nat} (H : SizeE d) (lo hi b o cap : Nat) (tv : Value) (e : Ex) (w : World) (hl : e.kids.length ≤ maxLen) (k1 : lo ≤ b) (k2 : b < hi)
    (hc : ∀ i, i < e.kids.length → ∃ kv tv, (w.cell? ⟨b, o + i * 5, none⟩ = some (.int .i64 (e.kids.getD i E0).kind) ∧ w.cell? ⟨b, o + i * 5 + 1, none⟩ = some (.int .i64 (e.kids.getD i E0).num) ∧ w.cell? ⟨b, o + i * 5 + 2, none⟩ = some (.string (e.kids.getD i E0).meter) ∧
        w.cell? ⟨b, o + i * 5 + 3, none⟩ = some kv ∧ w.cell? ⟨b, o + i * 5 + 4, none⟩ = some tv) ∧
        ((e.kids.getD i E0).meter.size ≤ maxLen ∧ (e.kids.getD i E0).tiers.length ≤ maxLen) ∧ ES lo hi w d kv (e.kids.getD i E0).kids ∧ TL lo hi w tv (e.kids.getD i E0).tiers)
    (hz : e.meter.size ≤ maxLen ∧ e.tiers.length ≤ maxLen) (ht : TL lo hi w tv e.tiers) (hhi : hi ≤ w.heap.size) (hw : wt e ≤ 1048576) :
    Calls Tryz.prog 86 #[.agg #[.int .i64 e.kind, .int .i64 e.num, .string e.meter, .slice (some ⟨b, o, none⟩) e.kids.length cap, tv]] w fun x w' => ∃ (n dd : Int) (ok : Bool), x = .returned (.tuple #[.int .i64 n, .int .i64 dd, .bool ok]) ∧ SizeOk e n dd ok ∧ Below w.heap.size w w' := by
  have hcw := cnt_wt e
  have hdc := dep_cnt e
  have hww := wt_eq e
  have ht2 : e.tiers.length ≤ 1048576 := by omega
  have hkl := wtL_len e.kids
  have HWK : Hid (∀ k, k < e.kids.length → wt (e.kids.getD k E0) ≤ 1048576) := hide (fun k hk => by have := wt_at hk; omega)
  have HC := hide hc
  have HH := hide H
  have HS0 : Hid (SizeAt e 0 1 0 (nodeE e)) := hide (SizeAt.start e)
  have HST : Hid (∀ (k : Nat) (n dd a b : Int) (c : Bool), SizeAt e k n dd true → k < e.kids.length → SizeOk (e.kids.getD k E0) a b c → SizeAt e (k + 1) (n + a) (if dd < b then b else dd) (c && decide (n + a ≤ 40))) := hide (fun k n dd a b c h hk hs => h.step hk hs)
  have HBD : Hid (∀ (k : Nat) (n dd : Int) (ok : Bool), SizeAt e k n dd ok → 1 ≤ n ∧ n ≤ 1048577 ∧ 0 ≤ dd ∧ dd ≤ 1048577) := hide (fun k n dd ok h => by
    have c1 := cntL_le e.kids k
    have d1 := depL_le e.kids k
    rw [cnt_eq] at hcw hdc
    rw [dep_eq] at hdc
    exact ⟨h.1, by have := h.2.1; omega, h.2.2.1, by have := h.2.2.2.1; omega⟩)
  have HBK : Hid (∀ (k : Nat) (a b : Int) (c : Bool), k < e.kids.length → SizeOk (e.kids.getD k E0) a b c → 1 ≤ a ∧ a ≤ 1048577 ∧ 1 ≤ b ∧ b ≤ 1048577) := hide (fun k a b c hk h => by
    have c1 := cnt_wt (e.kids.getD k E0)
    have d1 := dep_cnt (e.kids.getD k E0)
    have := unhide HWK k hk
    exact ⟨h.1, by have := h.2.1; omega, h.2.2.1, by have := h.2.2.2.1; omega⟩)
  have HDN : Hid (∀ (k : Nat) (n dd : Int) (ok : Bool), SizeAt e k n dd ok → ok = false ∨ e.kids.length ≤ k → SizeOk e n (dd + 1) ok) := hide (fun k n dd ok h hk => h.done hk)
  obtain ⟨ta, tc, rfl⟩ : ∃ a c, tv = .slice a e.tiers.length c := by
    rcases ht with ⟨h, a, c, rfl⟩ | ⟨b, o, cap, rfl, _⟩
    · rw [h]; exact ⟨_, _, rfl⟩
    · exact ⟨_, _, rfl⟩
  have HN := hide (nodeS e.kind e.num e.meter (some ⟨b, o, none⟩) ta e.kids.length cap tc e.tiers (w.alloc (.cells #[.int .i64 e.kind, .int .i64 e.num, .string e.meter, .slice (some ⟨b, o, none⟩) e.kids.length cap, .slice ta e.tiers.length tc] 77)) hl hz.1 ht2 (ht.kept (same_below (below_alloc _ _) hhi)).toTR)
  have hnode : nodeB e.kind e.num e.meter e.kids.length e.tiers = nodeE e := rfl
  rw [hnode] at HN
  have hbw : b < w.heap.size := by omega
  clear hnode ht hz hc H hcw hdc hww
  unfold maxLen at hl
  generalize e.kind = k at *
  generalize e.num = q at *
  generalize e.meter = m at *
  generalize e.tiers.length = tn at *
  generalize nodeE e = nd at *
  go_enter Tryz.func86, Tryz.ntmps86
  go_wp2_with (fail)
  refine (unhide HN).mono ?_
  rintro x w1 ⟨rfl, hb1⟩
  obtain ⟨_, _, _, c3, _, hB⟩ := box5 _ _ _ _ _ _ _ _ hb1
  have hsz : w.heap.size < w1.heap.size := by have := hb1.size; simp at this; omega
  have HB := hide hB
  clear hb1 hB HN
  go_wp2_with (fail)
  go_loopw [5, 6, 7, 8] (fun n d t i wr => ∃ (k : Nat) (nn dd : Int) (ok : Bool), k ≤ e.kids.length ∧ i = .int .i64 k ∧ n = .int .i64 nn ∧ d = .int .i64 dd ∧ t = .bool ok ∧ Hid (SizeAt e k nn dd ok) ∧ Hid (Below w1.heap.size w1 wr)) (fun _ _ _ i _ => e.kids.length - (intOf i).toNat)
  case atStart => exact ⟨0, 1, 0, nd, Nat.zero_le _, rfl, rfl, rfl, rfl, HS0, hide (Below.refl _ _)⟩
  case round =>
    obtain ⟨k, nn, dd, ok, hk, rfl, rfl, rfl, rfl, hS, hb⟩ := hrel
    obtain ⟨n1, n2, d1, d2⟩ := unhide HBD _ _ _ _ (unhide hS)
    have c3' := ((unhide hb).cell (p := ⟨w.heap.size, 3, none⟩) hsz).trans c3
    clear c3
    have HBW : Hid (Below w.heap.size w wr) := hide (below_trans (unhide HB) (unhide hb))
    by_cases hlt : k < e.kids.length
    · cases ok
      · have HD := hide (unhide HDN _ _ _ _ (unhide hS) (.inl rfl))
        go_wp2_with (fail)
        go_ret3
        exact ⟨_, _, _, rfl, unhide HD, unhide HBW⟩
      · obtain ⟨kv, tv, ⟨e0', e1', e2', e3', e4'⟩, hz, hkk, htt⟩ := unhide HC k hlt
        have e0 := ((unhide HBW).cell (p := ⟨b, o + k * 5, none⟩) hbw).trans e0'
        have e1 := ((unhide HBW).cell (p := ⟨b, o + k * 5 + 1, none⟩) hbw).trans e1'
        have e2 := ((unhide HBW).cell (p := ⟨b, o + k * 5 + 2, none⟩) hbw).trans e2'
        have e3 := ((unhide HBW).cell (p := ⟨b, o + k * 5 + 3, none⟩) hbw).trans e3'
        have e4 := ((unhide HBW).cell (p := ⟨b, o + k * 5 + 4, none⟩) hbw).trans e4'
        have HE : Hid (EV lo hi wr d (.agg #[.int .i64 (e.kids.getD k E0).kind, .int .i64 (e.kids.getD k E0).num, .string (e.kids.getD k E0).meter, kv, tv]) (e.kids.getD k E0)) := hide ⟨kv, tv, rfl, hz, hkk.kept (same_below (unhide HBW) hhi), htt.kept (same_below (unhide HBW) hhi)⟩
        have HW' := hide (unhide HWK k hlt)
        have HSK := hide (fun a b c => unhide HST k nn dd a b c (unhide hS) hlt)
        have HBK' := hide (fun a b c => unhide HBK k a b c hlt)
        clear e0' e1' e2' e3' e4' hz hkk htt HST HBK HDN
        generalize e.kids.getD k E0 = f at *
        generalize f.kind = fk at *
        generalize f.num = fn at *
        generalize f.meter = fm at *
        go_wp2_with (fail)
        refine (unhide HH lo hi _ f wr (unhide HE) (Nat.le_trans hhi (unhide HBW).size) (unhide HW')).mono ?_
        rintro x w2 ⟨a, b', c, rfl, hs, hb2⟩
        obtain ⟨a1, a2, b1, b2⟩ := unhide HBK' a b' c hs
        have HS2 := hide (unhide HSK a b' c hs)
        have HB2 : Hid (Below w1.heap.size w1 w2) := hide (below_trans (unhide hb) hb2)
        clear hs hb2 hb HSK HBK' HE hS e0 e1 e2 e3 e4 c3'
        by_cases hdb : dd < b'
        · rw [if_pos hdb] at HS2
          cases c
          · go_wp2_with (fail)
            exact ⟨⟨k + 1, nn + a, b', false, by omega, by go_num, rfl, rfl, rfl, HS2, HB2⟩, by simp [intOf]; omega⟩
          · by_cases h40 : nn + a ≤ 40
            · have h40' : decide (nn + a ≤ 40) = true := decide_eq_true h40
              rw [h40'] at HS2
              go_wp2_with (fail)
              exact ⟨⟨k + 1, nn + a, b', true, by omega, by go_num, rfl, rfl, rfl, HS2, HB2⟩, by simp [intOf]; omega⟩
            · have h40' : decide (nn + a ≤ 40) = false := decide_eq_false h40
              rw [h40'] at HS2
              go_wp2_with (fail)
              exact ⟨⟨k + 1, nn + a, b', false, by omega, by go_num, rfl, rfl, rfl, HS2, HB2⟩, by simp [intOf]; omega⟩
        · rw [if_neg hdb] at HS2
          cases c
          · go_wp2_with (fail)
            exact ⟨⟨k + 1, nn + a, dd, false, by omega, by go_num, rfl, rfl, rfl, HS2, HB2⟩, by simp [intOf]; omega⟩
          · by_cases h40 : nn + a ≤ 40
            · have h40' : decide (nn + a ≤ 40) = true := decide_eq_true h40
              rw [h40'] at HS2
              go_wp2_with (fail)
              exact ⟨⟨k + 1, nn + a, dd, true, by omega, by go_num, rfl, rfl, rfl, HS2, HB2⟩, by simp [intOf]; omega⟩
            · have h40' : decide (nn + a ≤ 40) = false := decide_eq_false h40
              rw [h40'] at HS2
              go_wp2_with (fail)
              exact ⟨⟨k + 1, nn + a, dd, false, by omega, by go_num, rfl, rfl, rfl, HS2, HB2⟩, by simp [intOf]; omega⟩
    · have HD := hide (unhide HDN _ _ _ _ (unhide hS) (.inr (by omega)))
      go_wp2_with (fail)
      go_ret3
      exact ⟨_, _, _, rfl, unhide HD, unhide HBW⟩

theorem sizeE_all : ∀ d, SizeE d
  | 0 => by
    rintro lo hi v e w ⟨kv, tv, rfl, hz, ⟨hk, a, c, rfl⟩, ht⟩ hhi hw
    exact sizeE_nil lo hi a c tv e w hk hz ht hhi hw
  | d + 1 => by
    rintro lo hi v e w ⟨kv, tv, rfl, hz, hk, ht⟩ hhi hw
    rcases hk with ⟨hk, a, c, rfl⟩ | ⟨b, o, cap, rfl, hl, k1, k2, hc⟩
    · exact sizeE_nil lo hi a c tv e w hk hz ht hhi hw
    · exact sizeE_row (sizeE_all d) lo hi b o cap tv e w hl k1 k2 hc hz ht hhi hw

theorem okE_of {e : Ex} {n dd : Int} {ok : Bool} (h : SizeOk e n dd ok) : okE e = (ok && decide (n ≤ 40) && decide (dd ≤ 8)) := by
  obtain ⟨_, _, _, _, h5, h6⟩ := h
  unfold okE
  cases ok
  · rcases h6 rfl with h | h
    · rw [h]; rfl
    · rw [decide_eq_false (by omega)]; simp
  · obtain ⟨e1, e2, e3⟩ := h5 rfl
    rw [e3, e1, e2]
    congr 1
    · congr 1
      rw [Bool.eq_iff_iff]; simp; omega
    · rw [Bool.eq_iff_iff]; simp; omega

/-- spec.RuleOk -/
theorem okS (d lo hi : Nat) (v : Value) (e : Ex) (w : World) (h : EV lo hi w d v e) (hhi : hi ≤ w.heap.size) (hw : wt e ≤ 1048576) :
    Calls Tryz.prog 53 #[v] w fun x w' => x = .returned (.bool (okE e)) ∧ Below w.heap.size w w' := by
  obtain ⟨kv, tv, rfl, hz, hk, ht⟩ := h
  have HE : Hid (EV lo hi (w.alloc (.cells #[.int .i64 e.kind, .int .i64 e.num, .string e.meter, kv, tv] 77)) d (.agg #[.int .i64 e.kind, .int .i64 e.num, .string e.meter, kv, tv]) e) := hide ⟨kv, tv, rfl, hz, hk.kept (same_below (below_alloc _ _) hhi), ht.kept (same_below (below_alloc _ _) hhi)⟩
  have HO : Hid (∀ n dd ok, SizeOk e n dd ok → okE e = (ok && decide (n ≤ 40) && decide (dd ≤ 8))) := hide (fun n dd ok h => okE_of h)
  clear hz hk ht
  generalize okE e = r at *
  generalize e.kind = ek at *
  generalize e.num = en at *
  generalize e.meter = em at *
  go_enter Tryz.func53, Tryz.ntmps53
  go_wp2_with (fail)
  refine (sizeE_all d lo hi _ e _ (unhide HE) (by simp; omega) hw).mono ?_
  rintro x w1 ⟨n, dd, ok, rfl, hs, hb1⟩
  have hr := unhide HO n dd ok hs
  have HB := hide ((below_alloc w (.cells #[.int .i64 ek, .int .i64 en, .string em, kv, tv] 77)).trans (hb1.mono (by simp)))
  clear hb1 HO hs HE
  cases ok
  · simp only [Bool.false_and] at hr
    subst hr
    go_wp2_with (fail)
    go_ret
    exact ⟨rfl, unhide HB⟩
  · by_cases h40 : n ≤ 40
    · by_cases h8 : dd ≤ 8
      · rw [decide_eq_true h40, decide_eq_true h8] at hr
        simp only [Bool.true_and] at hr
        subst hr
        go_wp2_with (fail)
        go_ret
        exact ⟨rfl, unhide HB⟩
      · rw [decide_eq_true h40, decide_eq_false h8] at hr
        simp only [Bool.and_false] at hr
        subst hr
        have h8' : decide (dd ≤ 8) = false := decide_eq_false h8
        go_wp2_with (fail)
        go_ret
        exact ⟨rfl, unhide HB⟩
    · rw [decide_eq_false h40] at hr
      simp only [Bool.and_false, Bool.false_and] at hr
      subst hr
      have h40' : decide (n ≤ 40) = false := decide_eq_false h40
      go_wp2_with (fail)
      go_ret
      exact ⟨rfl, unhide HB⟩
end Go.Proofs.YtnchgeiinkaefaaGreatDoor.Rule
end

section
/-
  Expressions as texts: plain facts on lists of bytes; no program in it.
-/
namespace Go.Proofs.YtnchgeiinkaefaaGreatDoor.Rule
set_option linter.unusedVariables false
open Kinds hiding hide unhide below_trans ext_toList

/-- the word of a kind, as bytes -/
def wordL (k : Int) : List UInt8 := (wordK k).data.toList
/-- steps as they are written -/
def wrT : List (Int × Int) → List UInt8
  | [] => []
  | t :: r => 32 :: (Lib.itoa t.1 ++ 58 :: (Lib.itoa t.2 ++ wrT r))
/-- what is written behind the kids -/
def wrO (k n : Int) (ts : List (Int × Int)) : List UInt8 := (if k = 6 then 32 :: Lib.itoa n else []) ++ wrT ts
mutual
/-- an expression as it is written -/
def wr : Ex → List UInt8
  | .mk k n m ks ts => if k = 1 then Lib.itoa n else if k = 2 then m.data.toList else 40 :: (wordL k ++ (wrS ks ++ (wrO k n ts ++ [41])))
/-- kids, each behind a space -/
def wrS : List Ex → List UInt8
  | [] => []
  | e :: es => 32 :: (wr e ++ wrS es)
end
theorem wrS_append : ∀ a b : List Ex, wrS (a ++ b) = wrS a ++ wrS b
  | [], b => by simp [wrS]
  | e :: es, b => by rw [List.cons_append, wrS, wrS, wrS_append es b]; simp
theorem wrS_take {l : List Ex} {k : Nat} (h : k < l.length) : wrS (l.take (k + 1)) = wrS (l.take k) ++ 32 :: wr (l.getD k E0) := by
  rw [take_at h, wrS_append]; simp [wrS]
theorem wrT_append : ∀ a b : List (Int × Int), wrT (a ++ b) = wrT a ++ wrT b
  | [], b => by simp [wrT]
  | e :: es, b => by rw [List.cons_append, wrT, wrT, wrT_append es b]; simp

/-! ### numbers -/
theorem decStep {m : Nat} (h : 9 < m) : Lib.decDigits m = Lib.decDigits (m / 10) ++ [UInt8.ofNat (48 + m % 10)] := by
  rw [Lib.decDigits, dif_neg (by omega)]
theorem digit_bd {k : Nat} (h : k < 10) : (UInt8.ofNat (48 + k)).toNat = 48 + k := by simp; omega
theorem digs (f : Nat) : ∀ m, m ≤ f → ∀ b ∈ Lib.decDigits m, 48 ≤ b.toNat ∧ b.toNat ≤ 57 := by
  induction f with
  | zero => intro m h b hb; obtain rfl : m = 0 := by omega
            rw [Lib.decDigits_one (by omega)] at hb
            obtain rfl := List.mem_singleton.1 hb
            rw [digit_bd (by omega)]; omega
  | succ f ih =>
    intro m h b hb
    by_cases h9 : 9 < m
    · rw [decStep h9] at hb
      rcases List.mem_append.1 hb with h' | h'
      · exact ih (m / 10) (by omega) b h'
      · obtain rfl := List.mem_singleton.1 h'
        rw [digit_bd (by omega)]; omega
    · rw [Lib.decDigits_one (by omega)] at hb
      obtain rfl := List.mem_singleton.1 hb
      rw [digit_bd (by omega)]; omega
theorem digs' (m : Nat) : ∀ b ∈ Lib.decDigits m, 48 ≤ b.toNat ∧ b.toNat ≤ 57 := digs m m (Nat.le_refl _)
/-- what a byte of a number can be -/
theorem itoa_bytes (n : Int) : ∀ b ∈ Lib.itoa n, b.toNat = 45 ∨ 48 ≤ b.toNat ∧ b.toNat ≤ 57 := by
  intro b hb
  unfold Lib.itoa at hb
  split at hb
  · rcases List.mem_cons.1 hb with rfl | h
    · exact .inl rfl
    · exact .inr (digs' _ b h)
  · exact .inr (digs' _ b hb)
theorem dd_ne (m : Nat) : Lib.decDigits m ≠ [] := by
  by_cases h9 : 9 < m
  · rw [decStep h9]; simp
  · rw [Lib.decDigits_one (by omega)]; simp
theorem itoa_ne (n : Int) : Lib.itoa n ≠ [] := by
  unfold Lib.itoa
  split
  · simp
  · exact dd_ne _
theorem ddLen (k : Nat) : ∀ m, m < 10 ^ (k + 1) → (Lib.decDigits m).length ≤ k + 1 := by
  induction k with
  | zero => intro n h; rw [Lib.decDigits_one (by omega)]; simp
  | succ k ih =>
    intro n h
    by_cases h9 : 9 < n
    · rw [decStep h9]
      have := ih (n / 10) (by rw [Nat.pow_succ] at h; omega)
      simp; omega
    · rw [Lib.decDigits_one (by omega)]; simp
theorem df_append (r : List UInt8) : ∀ (l : List UInt8) (acc : Nat), Lib.decFrom acc (l ++ r) = (Lib.decFrom acc l).bind fun m => Lib.decFrom m r
  | [], acc => by simp [Lib.decFrom]
  | b :: l, acc => by
    simp only [List.cons_append, Lib.decFrom]
    cases h : Lib.digitVal b with
    | none => simp
    | some d => simp [df_append r l]
theorem dv_of {k : Nat} (h : k < 10) : Lib.digitVal (UInt8.ofNat (48 + k)) = some k := by
  unfold Lib.digitVal
  rw [digit_bd h]
  simp; omega
theorem df_one (acc k : Nat) (h : k < 10) : Lib.decFrom acc [UInt8.ofNat (48 + k)] = some (acc * 10 + k) := by
  simp only [Lib.decFrom]
  rw [dv_of h]
theorem df_digits (f : Nat) : ∀ m, m ≤ f → Lib.decFrom 0 (Lib.decDigits m) = some m := by
  induction f with
  | zero => intro m h; obtain rfl : m = 0 := by omega
            rw [Lib.decDigits_one (by omega), df_one 0 0 (by omega)]
  | succ f ih =>
    intro m h
    by_cases h9 : 9 < m
    · rw [decStep h9, df_append, ih (m / 10) (by omega)]
      simp only [Option.bind_some]
      rw [df_one _ _ (by omega)]
      congr 1; omega
    · rw [Lib.decDigits_one (by omega), df_one 0 m (by omega)]; simp
/-- the first digit is no needless zero -/
theorem dd_head {m : Nat} (h : 1 ≤ m) : ∃ c r, Lib.decDigits m = c :: r ∧ c.toNat ≠ 48 := by
  have key : ∀ f m, m ≤ f → 1 ≤ m → ∃ c r, Lib.decDigits m = c :: r ∧ c.toNat ≠ 48 := by
    intro f
    induction f with
    | zero => intro m h1 h2; omega
    | succ f ih =>
      intro m h1 h2
      by_cases h9 : 9 < m
      · obtain ⟨c, r, e, hc⟩ := ih (m / 10) (by omega) (by omega)
        exact ⟨c, r ++ [UInt8.ofNat (48 + m % 10)], by rw [decStep h9, e]; rfl, hc⟩
      · exact ⟨UInt8.ofNat (48 + m), [], Lib.decDigits_one (by omega), by rw [digit_bd (by omega)]; omega⟩
  exact key m m (Nat.le_refl _) h
end Go.Proofs.YtnchgeiinkaefaaGreatDoor.Rule
end

section
/-
  Numbers as they are read (strconv.Atoi; spec.l18Num): plain facts.
-/
namespace Go.Proofs.YtnchgeiinkaefaaGreatDoor.Rule
set_option linter.unusedVariables false
open Kinds hiding hide unhide below_trans ext_toList

/-- a number that tariffs may have -/
def numOk (n : Int) : Prop := -1000000000 ≤ n ∧ n ≤ 1000000000

theorem itoa_short {n : Int} (h : numOk n) : (Lib.itoa n).length ≤ 11 := by
  unfold numOk at h
  unfold Lib.itoa
  split
  · have := ddLen 9 n.natAbs (by omega)
    simp; omega
  · have := ddLen 9 n.toNat (by omega)
    omega
theorem atoi_itoa {n : Int} (h : numOk n) : Lib.atoiAll (Lib.itoa n) = .ok n := by
  rw [Lib.atoiAll_short _ (by have := itoa_short h; omega)]
  have e : Lib.atoi (Lib.itoa n) = some n := by
    unfold Lib.itoa
    split
    · next hn =>
      simp only [Lib.atoi]
      rw [if_pos (by decide)]
      have hd := df_digits _ n.natAbs (Nat.le_refl _)
      have : Lib.decNat (Lib.decDigits n.natAbs) = some n.natAbs := by
        cases h : Lib.decDigits n.natAbs with
        | nil => exact absurd h (dd_ne _)
        | cons c r => rw [h] at hd; simpa [Lib.decNat] using hd
      rw [this]
      simp; omega
    · next hn =>
      have hd := df_digits _ n.toNat (Nat.le_refl _)
      have hb := digs' n.toNat
      cases h : Lib.decDigits n.toNat with
      | nil => exact absurd h (dd_ne _)
      | cons c r =>
        rw [h] at hd hb
        have hc := hb c (List.mem_cons_self ..)
        simp only [Lib.atoi]
        have n45 : (c == 45) = false := by simp; intro e; rw [e] at hc; exact absurd hc.1 (by decide)
        have n43 : (c == 43) = false := by simp; intro e; rw [e] at hc; exact absurd hc.1 (by decide)
        rw [n45, n43]
        simp only [Bool.false_eq_true, if_false]
        have : Lib.decNat (c :: r) = some n.toNat := by simpa [Lib.decNat] using hd
        rw [this]
        simp; omega
  rw [e]; rfl

/-- letters alone -/
def Letters (l : List UInt8) : Prop := ∀ b ∈ l, 97 ≤ b.toNat ∧ b.toNat ≤ 122
theorem atoi_name {l : List UInt8} (h : Letters l) (hl : l.length ≤ 8) : ∀ n, Lib.atoiAll l ≠ .ok n := by
  intro n
  cases l with
  | nil => intro e; simp [Lib.atoiAll] at e
  | cons c r =>
    have hc := h c (List.mem_cons_self ..)
    rw [Lib.atoiAll_plain c r (by omega) (by omega), Lib.signless_short (by omega)]
    have : Lib.decNat (c :: r) = none := by
      have : Lib.digitVal c = none := by unfold Lib.digitVal; simp; omega
      simp [Lib.decNat, Lib.decFrom, this]
    rw [this]
    intro e; cases e

/-- a number of at most 17 digits, as it is written -/
def numL (s : List UInt8) : Option Int :=
  if s.head? = some 45 then (if s.tail.length = 0 ∨ 17 < s.tail.length ∨ s.tail.head? = some 48 then none else (Lib.decFrom 0 s.tail).map fun (n : Nat) => -(n : Int))
  else (if s.length = 0 ∨ 17 < s.length ∨ s.head? = some 48 ∧ 1 < s.length then none else (Lib.decFrom 0 s).map fun (n : Nat) => (n : Int))

theorem numL_itoa {n : Int} (h : numOk n) : numL (Lib.itoa n) = some n := by
  have hs := itoa_short h
  unfold Lib.itoa at *
  split
  · next hn =>
    rw [if_pos hn] at hs
    obtain ⟨c, r, e, hc⟩ := dd_head (m := n.natAbs) (by omega)
    unfold numL
    rw [if_pos (show (45 :: Lib.decDigits n.natAbs).head? = some 45 from rfl)]
    rw [if_neg]
    · show (Lib.decFrom 0 (Lib.decDigits n.natAbs)).map (fun (n : Nat) => -(n : Int)) = some n
      rw [df_digits _ _ (Nat.le_refl _)]; simp; omega
    · show ¬ ((Lib.decDigits n.natAbs).length = 0 ∨ 17 < (Lib.decDigits n.natAbs).length ∨ (Lib.decDigits n.natAbs).head? = some 48)
      rw [e] at hs ⊢
      simp only [List.length_cons, List.head?_cons, Option.some.injEq] at hs ⊢
      rintro (h1 | h1 | h1)
      · omega
      · omega
      · rw [h1] at hc; exact hc rfl
  · next hn =>
    rw [if_neg hn] at hs
    have hb := digs' n.toNat
    have hd := df_digits _ n.toNat (Nat.le_refl _)
    cases e : Lib.decDigits n.toNat with
    | nil => exact absurd e (dd_ne _)
    | cons c r =>
      rw [e] at hb hd hs
      have hc := hb c (List.mem_cons_self ..)
      unfold numL
      rw [if_neg (by simp only [List.head?_cons, Option.some.injEq]; intro e; rw [e] at hc; exact absurd hc.1 (by decide)), if_neg]
      · rw [hd]; simp; omega
      · simp only [List.length_cons, List.head?_cons, Option.some.injEq] at *
        rintro (h1 | h1 | ⟨h1, h2⟩)
        · omega
        · omega
        · by_cases h0 : 1 ≤ n.toNat
          · obtain ⟨c', r', e', hc'⟩ := dd_head h0
            rw [e] at e'
            obtain rfl := (List.cons.inj e').1
            rw [h1] at hc'; exact hc' rfl
          · rw [show n.toNat = 0 by omega, Lib.decDigits_one (by omega)] at e
            have := (List.cons.inj e).2
            rw [← this] at h2
            simp at h2
theorem numL_name {l : List UInt8} (h : Letters l) : numL l = none := by
  cases l with
  | nil => simp [numL]
  | cons c r =>
    have hc := h c (List.mem_cons_self ..)
    unfold numL
    rw [if_neg (by simp only [List.head?_cons, Option.some.injEq]; intro e; rw [e] at hc; exact absurd hc.1 (by decide))]
    split
    · rfl
    · have : Lib.digitVal c = none := by unfold Lib.digitVal; simp; omega
      simp [Lib.decFrom, this]
end Go.Proofs.YtnchgeiinkaefaaGreatDoor.Rule
end

section
/-
  Texts of expressions, read as the specification reads them: plain data and facts.
-/
namespace Go.Proofs.YtnchgeiinkaefaaGreatDoor.Rule
set_option linter.unusedVariables false
open Tiers
open Kinds hiding hide unhide below_trans ext_toList

/-- what a word ends at -/
def stopB (b : UInt8) : Bool := b == 32 || b == 40 || b == 41 || b == 58
/-- the word that a text begins with, and the rest -/
def wordOf (t : List UInt8) : List UInt8 := t.takeWhile (fun b => !stopB b)
def restOf (t : List UInt8) : List UInt8 := t.dropWhile (fun b => !stopB b)
/-- a byte that must stand -/
def wantS (c : UInt8) : List UInt8 → Option (List UInt8)
  | [] => none
  | b :: r => if b = c then some r else none
def numS (t : List UInt8) : Option (Int × List UInt8) := (numL (wordOf t)).map fun n => (n, restOf t)
/-- a step -/
def tierS (t : List UInt8) : Option ((Int × Int) × List UInt8) :=
  (wantS 32 t).bind fun t1 => (numS t1).bind fun p => (wantS 58 p.2).bind fun t2 => (numS t2).map fun q => ((p.1, q.1), q.2)
/-- steps, n at most -/
def tiersS : Nat → List UInt8 → Option (List (Int × Int) × List UInt8)
  | 0, t => some ([], t)
  | n + 1, t => if t.head? = some 32 then (tierS t).bind fun p => (tiersS n p.2).map fun q => (p.1 :: q.1, q.2) else some ([], t)
def bytesOf (t : List UInt8) : ByteArray := ⟨t.toArray⟩
def leafS (w : List UInt8) : Ex := match numL w with | some n => .mk 1 n ByteArray.empty [] [] | none => .mk 2 0 (bytesOf w) [] []
/-- m kids, each behind a space -/
def kidS (R : List UInt8 → Option (Ex × List UInt8)) : Nat → List UInt8 → Option (List Ex × List UInt8)
  | 0, t => some ([], t)
  | m + 1, t => (wantS 32 t).bind fun t1 => (R t1).bind fun p => (kidS R m p.2).map fun q => (p.1 :: q.1, q.2)
/-- what comes behind the kids -/
def ownS (k : Int) (ks : List Ex) (t : List UInt8) : Option (Ex × List UInt8) :=
  if k = 6 then (wantS 32 t).bind fun t1 => (numS t1).bind fun p => (wantS 41 p.2).map fun r => (.mk k p.1 ByteArray.empty ks [], r)
  else if k = 10 then (tiersS 7 t).bind fun p => (wantS 41 p.2).map fun r => (.mk k 0 ByteArray.empty ks p.1, r)
  else (wantS 41 t).map fun r => (.mk k 0 ByteArray.empty ks [], r)
/-- what comes behind a bracket -/
def brS (R : List UInt8 → Option (Ex × List UInt8)) (t : List UInt8) : Option (Ex × List UInt8) :=
  if opK (bytesOf (wordOf t)) = 0 then none
  else (kidS R (kidsK (opK (bytesOf (wordOf t)))).toNat (restOf t)).bind fun p => ownS (opK (bytesOf (wordOf t))) p.1 p.2
/-- an expression, d deep at most -/
def exprS : Nat → List UInt8 → Option (Ex × List UInt8)
  | 0, _ => none
  | d + 1, t => if t.head? = some 40 then brS (exprS d) t.tail else some (leafS (wordOf t), restOf t)

/-! ### words -/
theorem word_split {w r : List UInt8} (hw : ∀ b ∈ w, stopB b = false) (hr : r = [] ∨ ∃ b t, r = b :: t ∧ stopB b = true) : wordOf (w ++ r) = w ∧ restOf (w ++ r) = r := by
  have h1 : ∀ x ∈ w, (fun b => !stopB b) x = true := fun x hx => by simp [hw x hx]
  unfold wordOf restOf
  rcases hr with rfl | ⟨b, t, rfl, hb⟩
  · have e1 := List.takeWhile_append_of_pos (l₂ := []) h1
    have e2 := List.dropWhile_append_of_pos (l₂ := []) h1
    rw [List.append_nil] at e1 e2 ⊢
    rw [e1, e2]; simp
  · rw [List.takeWhile_append_of_pos h1, List.dropWhile_append_of_pos h1]
    simp [hb]
theorem word_rest (t : List UInt8) : wordOf t ++ restOf t = t := List.takeWhile_append_dropWhile
theorem nostop_itoa (n : Int) : ∀ b ∈ Lib.itoa n, stopB b = false := by
  intro b hb
  have h := itoa_bytes n b hb
  unfold stopB
  have e : ∀ c : UInt8, c.toNat = 32 ∨ c.toNat = 40 ∨ c.toNat = 41 ∨ c.toNat = 58 → (b == c) = false := by
    intro c hc
    rw [beq_eq_false_iff_ne]; intro e; subst e; omega
  rw [e 32 (by decide), e 40 (by decide), e 41 (by decide), e 58 (by decide)]; rfl
theorem nostop_letters {l : List UInt8} (h : Letters l) : ∀ b ∈ l, stopB b = false := by
  intro b hb
  have h := h b hb
  unfold stopB
  have e : ∀ c : UInt8, c.toNat = 32 ∨ c.toNat = 40 ∨ c.toNat = 41 ∨ c.toNat = 58 → (b == c) = false := by
    intro c hc
    rw [beq_eq_false_iff_ne]; intro e; subst e; omega
  rw [e 32 (by decide), e 40 (by decide), e 41 (by decide), e 58 (by decide)]; rfl
/-- what may stand behind an expression -/
def Tail (r : List UInt8) : Prop := r = [] ∨ ∃ b t, r = b :: t ∧ (b = 32 ∨ b = 41)
theorem Tail.stop {r : List UInt8} (h : Tail r) : r = [] ∨ ∃ b t, r = b :: t ∧ stopB b = true := by
  rcases h with h | ⟨b, t, rfl, hb⟩
  · exact .inl h
  · exact .inr ⟨b, t, rfl, by rcases hb with rfl | rfl <;> decide⟩
theorem numS_itoa {n : Int} (h : numOk n) {r : List UInt8} (hr : r = [] ∨ ∃ b t, r = b :: t ∧ stopB b = true) : numS (Lib.itoa n ++ r) = some (n, r) := by
  obtain ⟨h1, h2⟩ := word_split (nostop_itoa n) hr
  unfold numS
  rw [h1, h2, numL_itoa h]; rfl

/-! ### what is right -/
theorem letters_of {m : ByteArray} (h : nameB m = true) : Letters m.data.toList ∧ m.data.toList.length ≤ 8 ∧ m.data.toList ≠ [] := by
  unfold nameB at h
  simp only [Bool.and_eq_true, decide_eq_true_eq] at h
  obtain ⟨⟨⟨h1, h2⟩, _⟩, _⟩ := h
  have hs : m.data.toList.length = m.size := Array.length_toList
  refine ⟨?_, by omega, fun e => by rw [e] at hs; simp at hs; omega⟩
  intro b hb
  unfold lettersB at h2
  have := List.all_eq_true.1 h2 b hb
  simp at this
  omega
theorem tier_ok {ts : List (Int × Int)} (h : rightB ts = true) : ts.length ≤ 6 ∧ 1 ≤ ts.length ∧ ∀ t ∈ ts, numOk t.1 ∧ numOk t.2 := by
  unfold rightB at h
  simp only [Bool.and_eq_true, decide_eq_true_eq] at h
  obtain ⟨⟨h1, h2⟩, h3⟩ := h
  refine ⟨h2, h1, fun t ht => ?_⟩
  obtain ⟨i, hi, rfl⟩ := List.getElem_of_mem ht
  have := List.all_eq_true.1 h3 i (List.mem_range.2 hi)
  have e : ts.getD i T0 = ts[i] := by simp [List.getD, hi]
  rw [e] at this
  unfold okT numB at this
  simp only [Bool.and_eq_true, decide_eq_true_eq] at this
  unfold numOk
  omega
end Go.Proofs.YtnchgeiinkaefaaGreatDoor.Rule
end
