/-
  Steps that are right (impl.stepsRight).
-/
import Derived.Test.YtdpefmjlmpjjbaaRight
namespace Go.Proofs.Ytdpefmjlmpjjbaa.Tiers
set_option linter.unusedVariables false
open Go.RowKit

theorem numI (x : Int) (w : World) : Calls Try.prog 90 #[.int .i64 x] w fun e w' => e = .returned (.bool (numB x)) ∧ w' = w := by
  by_cases h1 : 0 ≤ x
  · by_cases h2 : x ≤ 1000000000
    · have e : numB x = true := decide_eq_true ⟨h1, h2⟩
      rw [e]; clear e
      go_enter Try.func90, Try.ntmps90
      go_wp2
      go_ret
      exact ⟨rfl, rfl⟩
    · have e : numB x = false := decide_eq_false (by omega)
      rw [e]; clear e
      go_enter Try.func90, Try.ntmps90
      go_wp2
      go_ret
      exact ⟨rfl, rfl⟩
  · have e : numB x = false := decide_eq_false (by omega)
    rw [e]; clear e
    go_enter Try.func90, Try.ntmps90
    go_wp2
    go_ret
    exact ⟨rfl, rfl⟩

set_option maxHeartbeats 2000000 in
/-- impl.stepsRight -/
theorem rightI (v : Value) (l : List T) (w : World) (h : TR w v l) (hl : l.length ≤ 1048576) :
    Calls Try.prog 88 #[v] w fun e w' => e = .returned (.bool (rightB l)) ∧ Below w.heap.size w w' := by
  by_cases hsz : 1 ≤ l.length ∧ l.length ≤ 6
  · rcases h with ⟨rfl, a, c, rfl⟩ | ⟨b, o, cap, rfl, hc⟩
    · simp at hsz
    obtain ⟨z1, z2⟩ := hsz
    have y1 : (1 : Int) ≤ (l.length : Int) := by omega
    have y2 : (l.length : Int) ≤ 6 := by omega
    generalize hr : rightB l = r
    have HR := hide hr
    have HC := hide hc
    clear hr hc
    go_enter Try.func88, Try.ntmps88
    go_wp2
    go_loopw [16] (fun i wr => ∃ k : Nat, k ≤ l.length ∧ i = .int .i64 k ∧ Hid (∀ j, j < k → okT l.length j (l.getD j T0) = true) ∧ Hid (Below w.heap.size w wr)) (fun i _ => l.length - (intOf i).toNat)
    case atStart => exact ⟨0, Nat.zero_le _, rfl, hide (fun j hj => by omega), hide (Below.refl _ _)⟩
    case round =>
      obtain ⟨k, hk, rfl, hd, hb⟩ := hrel
      by_cases hlt : k < l.length
      · obtain ⟨c0, c1⟩ := ((unhide HC).kept (unhide hb)).2 k hlt
        have i1 : (0 : Int) ≤ (k : Int) := by omega
        have i2 : (k : Int) < (l.length : Int) := by omega
        have HB : Hid (∀ o, Below w.heap.size w (wr.alloc o)) := hide (fun o => (unhide hb).alloc (unhide hb).size o)
        cases ho : okT l.length k (l.getD k T0)
        · have hr : r = false := (unhide HR).symm.trans (rightB_bad hlt ho)
          subst hr
          have hno := mt okT_mk (by rw [ho]; simp)
          clear ho hd
          generalize (l.getD k T0).1 = x at *
          generalize (l.getD k T0).2 = y at *
          by_cases a1 : k + 1 = l.length
          all_goals by_cases a2 : x = 0
          all_goals by_cases x1 : 0 ≤ x ∧ x ≤ 1000000000
          all_goals by_cases q1 : 0 ≤ y ∧ y ≤ 1000000000
          all_goals first | (exfalso; omega) | skip
          all_goals clear hno
          all_goals first | (have b1 : ((k : Int) == (l.length : Int) - 1) = true := beq_iff_eq.2 (by omega)) | (have b1 : ((k : Int) == (l.length : Int) - 1) = false := beq_eq_false_iff_ne.2 (by omega))
          all_goals first | (have b2 : (x == 0) = true := beq_iff_eq.2 (by omega)) | (have b2 : (x == 0) = false := beq_eq_false_iff_ne.2 (by omega))
          all_goals first | (have b3 : numB x = true := decide_eq_true x1) | (have b3 : numB x = false := decide_eq_false x1)
          all_goals first | (have b4 : numB y = true := decide_eq_true q1) | (have b4 : numB y = false := decide_eq_false q1)
          all_goals clear a1 a2 x1 q1
          all_goals go_wp2_with (go_at_call 90; refine (numI _ _).mono ?_; rintro e w1 ⟨rfl, rfl⟩)
          all_goals go_ret
          all_goals exact ⟨rfl, unhide HB _⟩
        · obtain ⟨o1, o2, o3, o4, o5⟩ := okT_of ho
          have hd' : Hid (∀ j, j < k + 1 → okT l.length j (l.getD j T0) = true) := hide (fun j hj => by
            by_cases e : j < k
            · exact unhide hd j e
            · obtain rfl : j = k := by omega
              exact ho)
          clear ho hd
          generalize (l.getD k T0).1 = x at *
          generalize (l.getD k T0).2 = y at *
          have b3 : numB x = true := decide_eq_true ⟨o2, o3⟩
          have b4 : numB y = true := decide_eq_true ⟨o4, o5⟩
          by_cases a1 : k + 1 = l.length
          · have b1 : ((k : Int) == (l.length : Int) - 1) = true := beq_iff_eq.2 (by omega)
            have b2 : (x == 0) = true := beq_iff_eq.2 (o1.1 a1)
            clear a1 o1
            go_wp2_with (go_at_call 90; refine (numI _ _).mono ?_; rintro e w1 ⟨rfl, rfl⟩)
            exact ⟨⟨k + 1, by omega, by go_num, hd', hide (unhide HB _)⟩, by simp [intOf]; omega⟩
          · have b1 : ((k : Int) == (l.length : Int) - 1) = false := beq_eq_false_iff_ne.2 (by omega)
            have b2 : (x == 0) = false := beq_eq_false_iff_ne.2 (fun e => a1 (o1.2 e))
            clear a1 o1
            go_wp2_with (go_at_call 90; refine (numI _ _).mono ?_; rintro e w1 ⟨rfl, rfl⟩)
            exact ⟨⟨k + 1, by omega, by go_num, hd', hide (unhide HB _)⟩, by simp [intOf]; omega⟩
      · have hr : r = true := (unhide HR).symm.trans (rightB_yes ⟨z1, z2⟩ (fun i hi => unhide hd i (by omega)))
        subst hr
        go_wp2
        go_ret
        exact ⟨rfl, unhide hb⟩
  · rw [rightB_size hsz]
    have e1 : ∃ a c, v = .slice a l.length c := by
      rcases h with ⟨rfl, a, c, rfl⟩ | ⟨b, o, cap, rfl, _⟩
      · exact ⟨_, _, rfl⟩
      · exact ⟨_, _, rfl⟩
    obtain ⟨a, c, rfl⟩ := e1
    clear h
    by_cases z1 : (l.length : Int) < 1
    · go_enter Try.func88, Try.ntmps88
      go_wp2
      go_ret
      exact ⟨rfl, Below.refl _ _⟩
    · have z2 : (6 : Int) < l.length := by omega
      go_enter Try.func88, Try.ntmps88
      go_wp2
      go_ret
      exact ⟨rfl, Below.refl _ _⟩
end Go.Proofs.Ytdpefmjlmpjjbaa.Tiers
