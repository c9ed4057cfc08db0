/-
  Steps that are right (spec.l2Tiers, impl.stepsRight).
-/
import Derived.Test.YtdpefmjlmpjjbaaTiers
namespace Go.Proofs.Ytdpefmjlmpjjbaa.Tiers
set_option linter.unusedVariables false
open Go.RowKit

def numB (x : Int) : Bool := decide (0 ≤ x ∧ x ≤ 1000000000)
/-- is step i of n right? -/
def okT (n i : Nat) (t : T) : Bool := (decide (i + 1 = n) == decide (t.1 = 0)) && numB t.1 && numB t.2
/-- are the steps right? -/
def rightB (l : List T) : Bool := decide (1 ≤ l.length ∧ l.length ≤ 6) && (List.range l.length).all fun i => okT l.length i (l.getD i T0)

theorem rightB_size {l : List T} (h : ¬ (1 ≤ l.length ∧ l.length ≤ 6)) : rightB l = false := by unfold rightB; rw [decide_eq_false h]; simp
theorem rightB_bad {l : List T} {k : Nat} (hk : k < l.length) (h : okT l.length k (l.getD k T0) = false) : rightB l = false := by
  have : ((List.range l.length).all fun i => okT l.length i (l.getD i T0)) = false := by
    rw [List.all_eq_false]
    exact ⟨k, List.mem_range.2 hk, by rw [h]; simp⟩
  unfold rightB; rw [this]; simp
theorem rightB_yes {l : List T} (h : 1 ≤ l.length ∧ l.length ≤ 6) (hd : ∀ i, i < l.length → okT l.length i (l.getD i T0) = true) : rightB l = true := by
  have : ((List.range l.length).all fun i => okT l.length i (l.getD i T0)) = true := by
    rw [List.all_eq_true]
    exact fun i hi => hd i (List.mem_range.1 hi)
  unfold rightB; rw [this, decide_eq_true h]; rfl
theorem rightB_len {l : List T} (h : rightB l = true) : 1 ≤ l.length ∧ l.length ≤ 6 := by
  by_cases h' : 1 ≤ l.length ∧ l.length ≤ 6
  · exact h'
  · rw [rightB_size h'] at h; cases h
theorem rightB_at {l : List T} (h : rightB l = true) {k : Nat} (hk : k < l.length) : okT l.length k (l.getD k T0) = true := by
  cases e : okT l.length k (l.getD k T0)
  · rw [rightB_bad hk e] at h; cases h
  · rfl
theorem okT_of {n i : Nat} {t : T} (h : okT n i t = true) : (i + 1 = n ↔ t.1 = 0) ∧ 0 ≤ t.1 ∧ t.1 ≤ 1000000000 ∧ 0 ≤ t.2 ∧ t.2 ≤ 1000000000 := by
  unfold okT numB at h
  simp only [Bool.and_eq_true, beq_iff_eq, decide_eq_decide, decide_eq_true_eq] at h
  exact ⟨h.1.1, h.1.2.1, h.1.2.2, h.2.1, h.2.2⟩
theorem okT_mk {n i : Nat} {t : T} (h : (i + 1 = n ↔ t.1 = 0) ∧ 0 ≤ t.1 ∧ t.1 ≤ 1000000000 ∧ 0 ≤ t.2 ∧ t.2 ≤ 1000000000) : okT n i t = true := by
  unfold okT numB
  simp only [Bool.and_eq_true, beq_iff_eq, decide_eq_decide, decide_eq_true_eq]
  exact ⟨⟨h.1, h.2.1, h.2.2.1⟩, h.2.2.2.1, h.2.2.2.2⟩

set_option maxHeartbeats 2000000 in
/-- spec.l2Tiers -/
theorem rightS (v : Value) (l : List T) (w : World) (h : TR w v l) (hl : l.length ≤ 1048576) :
    Calls Try.prog 38 #[v] w fun e w' => e = .returned (.bool (rightB l)) ∧ Below w.heap.size w w' := by
  by_cases hsz : 1 ≤ l.length ∧ l.length ≤ 6
  · rcases h with ⟨rfl, a, c, rfl⟩ | ⟨b, o, cap, rfl, hc⟩
    · simp at hsz
    obtain ⟨z1, z2⟩ := hsz
    have y1 : (1 : Int) ≤ (l.length : Int) := by omega
    have y2 : (l.length : Int) ≤ 6 := by omega
    generalize hr : rightB l = r
    have HR := hide hr
    have HC := hide hc
    clear hr hc
    go_enter Try.func38, Try.ntmps38
    go_wp2
    go_loop [3] (fun i => ∃ k : Nat, k ≤ l.length ∧ i = .int .i64 k ∧ Hid (∀ j, j < k → okT l.length j (l.getD j T0) = true)) (fun i => l.length - (intOf i).toNat)
    case atStart => exact ⟨0, Nat.zero_le _, rfl, hide (fun j hj => by omega)⟩
    case round =>
      obtain ⟨k, hk, rfl, hd⟩ := hrel
      by_cases hlt : k < l.length
      · obtain ⟨c0, c1⟩ := (unhide HC).2 k hlt
        have i1 : (0 : Int) ≤ (k : Int) := by omega
        have i2 : (k : Int) < (l.length : Int) := by omega
        cases ho : okT l.length k (l.getD k T0)
        · have hr : r = false := (unhide HR).symm.trans (rightB_bad hlt ho)
          subst hr
          have hno := mt okT_mk (by rw [ho]; simp)
          clear ho hd
          generalize (l.getD k T0).1 = x at *
          generalize (l.getD k T0).2 = y at *
          by_cases a1 : k + 1 = l.length
          all_goals by_cases a2 : x = 0
          all_goals by_cases x1 : x < 0
          all_goals by_cases x2 : 1000000000 < x
          all_goals by_cases q1 : y < 0
          all_goals by_cases q2 : 1000000000 < y
          all_goals first | (exfalso; omega) | skip
          all_goals clear hno
          all_goals first | (have b1 : ((k : Int) == (l.length : Int) - 1) = true := beq_iff_eq.2 (by omega)) | (have b1 : ((k : Int) == (l.length : Int) - 1) = false := beq_eq_false_iff_ne.2 (by omega))
          all_goals first | (have b2 : (x == 0) = true := beq_iff_eq.2 (by omega)) | (have b2 : (x == 0) = false := beq_eq_false_iff_ne.2 (by omega))
          all_goals clear a1 a2
          all_goals go_wp2
          all_goals go_ret
          all_goals exact ⟨rfl, Below.refl _ _⟩
        · obtain ⟨o1, o2, o3, o4, o5⟩ := okT_of ho
          have hd' : Hid (∀ j, j < k + 1 → okT l.length j (l.getD j T0) = true) := hide (fun j hj => by
            by_cases e : j < k
            · exact unhide hd j e
            · obtain rfl : j = k := by omega
              exact ho)
          clear ho hd
          generalize (l.getD k T0).1 = x at *
          generalize (l.getD k T0).2 = y at *
          by_cases a1 : k + 1 = l.length
          · have b1 : ((k : Int) == (l.length : Int) - 1) = true := beq_iff_eq.2 (by omega)
            have b2 : (x == 0) = true := beq_iff_eq.2 (o1.1 a1)
            clear a1 o1
            go_wp2
            exact ⟨⟨k + 1, by omega, by go_num, hd'⟩, by simp [intOf]; omega⟩
          · have b1 : ((k : Int) == (l.length : Int) - 1) = false := beq_eq_false_iff_ne.2 (by omega)
            have b2 : (x == 0) = false := beq_eq_false_iff_ne.2 (fun e => a1 (o1.2 e))
            clear a1 o1
            go_wp2
            exact ⟨⟨k + 1, by omega, by go_num, hd'⟩, by simp [intOf]; omega⟩
      · have hr : r = true := (unhide HR).symm.trans (rightB_yes ⟨z1, z2⟩ (fun i hi => unhide hd i (by omega)))
        subst hr
        go_wp2
        go_ret
        exact ⟨rfl, Below.refl _ _⟩
  · rw [rightB_size hsz]
    have e1 : ∃ a c, v = .slice a l.length c := by
      rcases h with ⟨rfl, a, c, rfl⟩ | ⟨b, o, cap, rfl, _⟩
      · exact ⟨_, _, rfl⟩
      · exact ⟨_, _, rfl⟩
    obtain ⟨a, c, rfl⟩ := e1
    clear h
    by_cases z1 : (l.length : Int) < 1
    · go_enter Try.func38, Try.ntmps38
      go_wp2
      go_ret
      exact ⟨rfl, Below.refl _ _⟩
    · have z2 : (6 : Int) < l.length := by omega
      go_enter Try.func38, Try.ntmps38
      go_wp2
      go_ret
      exact ⟨rfl, Below.refl _ _⟩
end Go.Proofs.Ytdpefmjlmpjjbaa.Tiers
