/-
  The sum of weights (impl.weightSum, spec.l1Weights).
-/
import Derived.Test.YthhkjbhkginecaaInts
namespace Go.Proofs.Ythhkjbhkginecaa.Share
set_option linter.unusedVariables false
open Go.RowKit Ints

def okW (x : Int) : Bool := decide (0 ≤ x ∧ x ≤ 1000000)
def allW (ws : List Int) : Bool := ws.all okW
def wgtV (ws : List Int) : Int := if ws.length ≤ 16 ∧ allW ws = true then ws.sum else 0
def wgtB (ws : List Int) : Bool := decide (ws.length ≤ 16) && allW ws && decide (0 < ws.sum)

theorem sum_take (ws : List Int) (k : Nat) (h : k < ws.length) : (ws.take (k + 1)).sum = (ws.take k).sum + ws.getD k 0 := by
  have e : ws.take (k + 1) = ws.take k ++ [ws.getD k 0] := by rw [List.take_add_one, List.getElem?_eq_getElem h]; simp [List.getD, h]
  rw [e, List.sum_append]; simp
theorem sum_bd (ws : List Int) : ∀ k, (∀ j, j < k → okW (ws.getD j 0) = true) → k ≤ ws.length → 0 ≤ (ws.take k).sum ∧ (ws.take k).sum ≤ 1000000 * k := by
  intro k
  induction k with
  | zero => intro _ _; simp
  | succ k ih =>
    intro h hk
    have h1 := ih (fun j hj => h j (by omega)) (by omega)
    have h2 := h k (by omega)
    unfold okW at h2
    simp only [decide_eq_true_eq] at h2
    rw [sum_take ws k (by omega)]
    omega
theorem allW_of {ws : List Int} (h : ∀ j, j < ws.length → okW (ws.getD j 0) = true) : allW ws = true := by
  unfold allW
  rw [List.all_eq_true]
  intro x hx
  obtain ⟨j, hj, rfl⟩ := List.getElem_of_mem hx
  have := h j hj
  simpa [List.getD, hj] using this
theorem allW_not {ws : List Int} {j : Nat} (hj : j < ws.length) (h : okW (ws.getD j 0) = false) : allW ws = false := by
  cases ha : allW ws
  · rfl
  · unfold allW at ha
    rw [List.all_eq_true] at ha
    have := ha (ws.getD j 0) (by simp [List.getD, hj])
    rw [h] at this; cases this

theorem wgt_bad {ws : List Int} (h : 16 < ws.length ∨ allW ws = false) : wgtV ws = 0 ∧ wgtB ws = false := by
  unfold wgtV wgtB
  rcases h with h | h
  · constructor
    · rw [if_neg (by omega)]
    · have : decide (ws.length ≤ 16) = false := by simp; omega
      rw [this]; rfl
  · constructor
    · rw [if_neg (by simp [h])]
    · simp [h]

theorem slice_form {W : World} {v : Value} {l : List Int} (h : IR W v l) : ∃ a c, v = .slice a l.length c := by
  rcases h with ⟨rfl, rfl⟩ | ⟨b, o, cap, rfl, _⟩
  · exact ⟨_, _, rfl⟩
  · exact ⟨_, _, rfl⟩

set_option maxHeartbeats 800000 in
theorem wgtI (v : Value) (ws : List Int) (w : World) (h : IR w v ws) :
    Calls Try.prog 29 #[v] w fun e w' => e = .returned (.tuple #[.int .i64 (wgtV ws), .bool (wgtB ws)]) ∧ w' = w := by
  by_cases h16 : 16 < ws.length
  · obtain ⟨a, c, rfl⟩ := slice_form h
    have hl := h.len
    obtain ⟨e1, e2⟩ := wgt_bad (.inl h16)
    rw [e1, e2]
    clear h e1 e2
    go_enter Try.func29, Try.ntmps29
    go_wp2
    go_ret2
    exact ⟨rfl, rfl⟩
  · rcases h with ⟨rfl, rfl⟩ | ⟨b, o, cap, rfl, _, hc⟩
    · clear h16
      go_enter Try.func29, Try.ntmps29
      go_wp2
      refine wp_loop_rounds 1 ?_
      rw [rounds_succ]
      go_wp2
      go_ret2
      exact ⟨by simp [wgtV, wgtB, allW], rfl⟩
    · have HC := hide hc; clear hc
      generalize hV : wgtV ws = V
      generalize hB : wgtB ws = B
      have HV := hide hV; have HB := hide hB; clear hV hB
      go_enter Try.func29, Try.ntmps29
      go_wp2
      go_loop [4, 12] (fun s i => ∃ k : Nat, k ≤ ws.length ∧ i = .int .i64 k ∧ s = .int .i64 ((ws.take k).sum) ∧ Hid (∀ j, j < k → okW (ws.getD j 0) = true)) (fun _ i => ws.length - (intOf i).toNat)
      case atStart => exact ⟨0, Nat.zero_le _, rfl, rfl, fun j hj => by omega⟩
      case round =>
        obtain ⟨k, hk, rfl, rfl, hd⟩ := hrel
        have hb := sum_bd ws k (unhide hd) hk
        by_cases hlt : k < ws.length
        · have hx := ((unhide HC).2 k hlt).1
          have hs := sum_take ws k hlt
          cases hok : okW (ws.getD k 0)
          · obtain ⟨e1, e2⟩ := wgt_bad (.inr (allW_not hlt hok))
            have e3 := unhide HV
            have e4 := unhide HB
            rw [e1] at e3; rw [e2] at e4
            subst e3; subst e4
            have hdd : ws.getD k 0 < 0 ∨ (¬ ws.getD k 0 < 0 ∧ 1000000 < ws.getD k 0) := by unfold okW at hok; simp only [decide_eq_false_iff_not] at hok; omega
            clear hs hok e1 e2
            generalize ws.getD k 0 = x at *
            generalize (ws.take k).sum = y at *
            rcases hdd with h1 | ⟨h1, h2⟩
            · go_wp2
              go_ret2
              exact ⟨rfl, rfl⟩
            · go_wp2
              go_ret2
              exact ⟨rfl, rfl⟩
          · have hd' : Hid (∀ j, j < k + 1 → okW (ws.getD j 0) = true) := fun j hj => by
              by_cases e : j < k
              · exact unhide hd j e
              · obtain rfl : j = k := by omega
                exact hok
            have hr : 0 ≤ ws.getD k 0 ∧ ws.getD k 0 ≤ 1000000 := by unfold okW at hok; simpa using hok
            have HS := hide hs
            clear hs hok
            generalize ws.getD k 0 = x at *
            generalize (ws.take k).sum = y at *
            go_wp2
            exact ⟨⟨k + 1, by omega, by go_num, by rw [unhide HS], hd'⟩, by simp [intOf]; omega⟩
        · obtain rfl : k = ws.length := by omega
          have hall := allW_of (unhide hd)
          rw [List.take_length] at hb ⊢
          have e3 := unhide HV
          have e4 := unhide HB
          unfold wgtV at e3; unfold wgtB at e4
          rw [if_pos ⟨by omega, hall⟩] at e3
          rw [hall, show decide (ws.length ≤ 16) = true by simp; omega] at e4
          simp only [Bool.true_and] at e4
          subst e3; subst e4
          clear hall hd
          go_wp2
          go_ret2
          exact ⟨rfl, rfl⟩

set_option maxHeartbeats 800000 in
theorem wgtS (v : Value) (ws : List Int) (w : World) (h : IR w v ws) :
    Calls Try.prog 33 #[v] w fun e w' => e = .returned (.tuple #[.int .i64 (wgtV ws), .bool (wgtB ws)]) ∧ w' = w := by
  by_cases h16 : 16 < ws.length
  · obtain ⟨a, c, rfl⟩ := slice_form h
    have hl := h.len
    obtain ⟨e1, e2⟩ := wgt_bad (.inl h16)
    rw [e1, e2]
    clear h e1 e2
    go_enter Try.func33, Try.ntmps33
    go_wp2
    go_ret2
    exact ⟨rfl, rfl⟩
  · rcases h with ⟨rfl, rfl⟩ | ⟨b, o, cap, rfl, _, hc⟩
    · clear h16
      go_enter Try.func33, Try.ntmps33
      go_wp2
      go_ret2
      exact ⟨by simp [wgtV, wgtB, allW], rfl⟩
    · by_cases h0 : ws.length = 0
      · obtain rfl : ws = [] := List.length_eq_zero_iff.1 h0
        clear hc h16
        go_enter Try.func33, Try.ntmps33
        go_wp2
        go_ret2
        exact ⟨by simp [wgtV, wgtB, allW], rfl⟩
      have HC := hide hc; clear hc
      generalize hV : wgtV ws = V
      generalize hB : wgtB ws = B
      have HV := hide hV; have HB := hide hB; clear hV hB
      go_enter Try.func33, Try.ntmps33
      go_wp2
      go_loop [4, 5] (fun s i => ∃ k : Nat, k ≤ ws.length ∧ i = .int .i64 k ∧ s = .int .i64 ((ws.take k).sum) ∧ Hid (∀ j, j < k → okW (ws.getD j 0) = true)) (fun _ i => ws.length - (intOf i).toNat)
      case atStart => exact ⟨0, Nat.zero_le _, rfl, rfl, fun j hj => by omega⟩
      case round =>
        obtain ⟨k, hk, rfl, rfl, hd⟩ := hrel
        have hb := sum_bd ws k (unhide hd) hk
        by_cases hlt : k < ws.length
        · have hx := ((unhide HC).2 k hlt).1
          have hs := sum_take ws k hlt
          cases hok : okW (ws.getD k 0)
          · obtain ⟨e1, e2⟩ := wgt_bad (.inr (allW_not hlt hok))
            have e3 := unhide HV
            have e4 := unhide HB
            rw [e1] at e3; rw [e2] at e4
            subst e3; subst e4
            have hdd : ws.getD k 0 < 0 ∨ (¬ ws.getD k 0 < 0 ∧ 1000000 < ws.getD k 0) := by unfold okW at hok; simp only [decide_eq_false_iff_not] at hok; omega
            clear hs hok e1 e2
            generalize ws.getD k 0 = x at *
            generalize (ws.take k).sum = y at *
            rcases hdd with h1 | ⟨h1, h2⟩
            · go_wp2
              go_ret2
              exact ⟨rfl, rfl⟩
            · go_wp2
              go_ret2
              exact ⟨rfl, rfl⟩
          · have hd' : Hid (∀ j, j < k + 1 → okW (ws.getD j 0) = true) := fun j hj => by
              by_cases e : j < k
              · exact unhide hd j e
              · obtain rfl : j = k := by omega
                exact hok
            have hr : 0 ≤ ws.getD k 0 ∧ ws.getD k 0 ≤ 1000000 := by unfold okW at hok; simpa using hok
            have HS := hide hs
            clear hs hok
            generalize ws.getD k 0 = x at *
            generalize (ws.take k).sum = y at *
            go_wp2
            exact ⟨⟨k + 1, by omega, by go_num, by rw [unhide HS], hd'⟩, by simp [intOf]; omega⟩
        · obtain rfl : k = ws.length := by omega
          have hall := allW_of (unhide hd)
          rw [List.take_length] at hb ⊢
          have e3 := unhide HV
          have e4 := unhide HB
          unfold wgtV at e3; unfold wgtB at e4
          rw [if_pos ⟨by omega, hall⟩] at e3
          rw [hall, show decide (ws.length ≤ 16) = true by simp; omega] at e4
          simp only [Bool.true_and] at e4
          subst e3; subst e4
          clear hall hd
          go_wp2
          go_ret2
          exact ⟨rfl, rfl⟩
end Go.Proofs.Ythhkjbhkginecaa.Share
