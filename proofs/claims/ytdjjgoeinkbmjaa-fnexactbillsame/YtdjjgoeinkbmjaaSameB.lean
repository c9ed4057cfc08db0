/-
  BillSame: lists held against each other.
-/
import Derived.Test.YtdjjgoeinkbmjaaInvs3
namespace Go.Proofs.Ytdjjgoeinkbmjaa.Bills
set_option linter.unusedVariables false
open Go.RowKit
open Evs (E E0 ER EN EC EOwn)
open BRow (R R0 RR RN RC ROwn)

theorem same_of {α : Type} {l l' : List α} (z : α) (hl : l.length = l'.length) (h : ∀ j, j < l.length → l.getD j z = l'.getD j z) : l = l' := by
  apply List.ext_getElem hl
  intro i h1 h2
  have := h i h1
  simpa [List.getD, h1, h2] using this
theorem ne_at {α : Type} {l l' : List α} (z : α) {k : Nat} (h : l.getD k z ≠ l'.getD k z) : l ≠ l' := fun e => h (by rw [e])
theorem neB {s t : ByteArray} (h : s ≠ t) : (s.toList == t.toList) = false := by
  rw [beq_eq_false_iff_ne]; intro e
  rw [Lib.toList_data, Lib.toList_data] at e
  apply h
  cases s; cases t
  simp only at e
  rw [Array.toList_inj.1 e]
theorem below_drew {w : World} (n : Nat) : Below w.heap.size w (w.drewN n) := ⟨rfl, rfl, rfl, Nat.le_refl _, fun _ _ => rfl⟩

set_option maxHeartbeats 1600000 in
theorem sameEvS (v v' : Value) (l l' : List E) (w : World) (h : ER w v l) (h' : ER w v' l') (hl : l.length ≤ 1048576) (hl' : l'.length ≤ 1048576) :
    Calls Try.prog 75 #[v, v'] w fun e w' => e = .returned (.bool (decide (l = l'))) ∧ Below w.heap.size w w' := by
  by_cases hn : l.length = l'.length
  · have hn1 : (((l.length : Int)) != (l.length : Int)) = false := by simp
    by_cases h0 : l.length = 0
    · obtain rfl : l = [] := List.length_eq_zero_iff.1 h0
      obtain rfl : l' = [] := List.length_eq_zero_iff.1 (by omega)
      obtain ⟨a, c, rfl⟩ := h.slice
      obtain ⟨a', c', rfl⟩ := h'.slice
      clear h h' h0 hl hl' hn hn1
      go_enter Try.func75, Try.ntmps75
      go_wp2
      refine wp_loop_rounds 1 ?_
      rw [rounds_succ]
      go_wp2
      go_ret
      exact ⟨rfl, Below.refl _ _⟩
    · rcases h with ⟨rfl, _⟩ | ⟨b, o, cap, rfl, hc⟩
      · simp at h0
      rcases h' with ⟨rfl, _⟩ | ⟨b', o', cap', hv', hc'⟩
      · simp at hn; simp [hn] at h0
      rw [← hn] at hv'
      subst hv'
      have HN0 := hide hn
      clear hn
      have HC := hide hc; have HC' := hide hc'
      clear hc hc' h0
      generalize hr : decide (l = l') = r
      have HR := hide hr
      clear hr
      go_enter Try.func75, Try.ntmps75
      go_wp2
      go_loopw [5] (fun i wr => ∃ k : Nat, k ≤ l.length ∧ i = .int .i64 k ∧ Hid (Below w.heap.size w wr) ∧ Hid (∀ j, j < k → l.getD j E0 = l'.getD j E0)) (fun i _ => l.length - (intOf i).toNat)
      case atStart => exact ⟨0, Nat.zero_le _, rfl, hide (Below.refl _ _), hide (fun j hj => by omega)⟩
      case round =>
        obtain ⟨k, hk, rfl, hb, he⟩ := hrel
        by_cases hlt : k < l.length
        · obtain ⟨c0, c1, c2⟩ := ((unhide HC).kept (unhide hb)).2 k hlt
          obtain ⟨d0, d1, d2⟩ := ((unhide HC').kept (unhide hb)).2 k (by rw [← unhide HN0]; exact hlt)
          have HN : Hid (l.getD k E0 ≠ l'.getD k E0 → r = false) := hide (fun h => by rw [← unhide HR]; exact decide_eq_false (ne_at E0 h))
          have HM : Hid (l.getD k E0 = l'.getD k E0 → ∀ j, j < k + 1 → l.getD j E0 = l'.getD j E0) := hide (fun h j hj => by
            by_cases e : j = k
            · subst e; exact h
            · exact unhide he j (by omega))
          have i1 : (0 : Int) ≤ (k : Int) := by omega
          have i2 : (k : Int) < (l.length : Int) := by omega
          clear he
          generalize l.getD k E0 = x at *
          generalize l'.getD k E0 = y at *
          obtain ⟨s, m, q⟩ := x
          obtain ⟨s', m', q'⟩ := y
          simp only at c0 c1 c2 d0 d1 d2
          by_cases hy0 : s = s'
          case neg =>
            have b0 : (s.toList == s'.toList) = false := neB hy0

            obtain rfl := unhide HN (fun e => hy0 (by simp only [Prod.mk.injEq] at e; exact e.1))
            clear hy0
            go_wp2
            go_quiet (fail)
            go_wp2
            go_ret
            exact ⟨rfl, (unhide hb).trans ((below_drew _).mono (unhide hb).size)⟩
          by_cases hy1 : m = m'
          case neg =>
            subst hy0
            have b1 : (m.toList == m'.toList) = false := neB hy1
            have b0 : (s.toList == s.toList) = true := by simp
            obtain rfl := unhide HN (fun e => hy1 (by simp only [Prod.mk.injEq] at e; exact e.2.1))
            clear hy1
            go_wp2
            go_quiet (fail)
            go_wp2
            go_ret
            exact ⟨rfl, (unhide hb).trans ((below_drew _).mono (unhide hb).size)⟩
          by_cases hy2 : q = q'
          case neg =>
            subst hy0
            subst hy1
            have b2 : (q == q') = false := beq_eq_false_iff_ne.2 hy2
            have b0 : (s.toList == s.toList) = true := by simp
            have b1 : (m.toList == m.toList) = true := by simp
            obtain rfl := unhide HN (fun e => hy2 (by simp only [Prod.mk.injEq] at e; exact e.2.2))
            clear hy2
            go_wp2
            go_quiet (fail)
            go_wp2
            go_ret
            exact ⟨rfl, (unhide hb).trans ((below_drew _).mono (unhide hb).size)⟩
          subst hy0 hy1 hy2
          have b0 : (s.toList == s.toList) = true := by simp
          have b1 : (m.toList == m.toList) = true := by simp
          have b2 : (q == q) = true := by simp
          have HM2 := hide (unhide HM rfl)
          clear HM
          go_wp2
          go_quiet (fail)
          go_wp2
          exact ⟨⟨k + 1, by omega, by go_num, hide ((unhide hb).trans ((below_drew _).mono (unhide hb).size)), HM2⟩, by simp [intOf]; omega⟩
        · obtain rfl : r = true := by
            rw [← unhide HR]
            exact decide_eq_true (same_of E0 (unhide HN0) (fun j hj => unhide he j (by omega)))
          obtain rfl : k = l.length := by omega
          go_wp2
          go_ret
          exact ⟨rfl, unhide hb⟩
  · have hn1 : (((l.length : Int)) != (l'.length : Int)) = true := by simp; omega
    obtain ⟨a, c, rfl⟩ := h.slice
    obtain ⟨a', c', rfl⟩ := h'.slice
    rw [decide_eq_false (fun e => hn (by rw [e]))]
    clear h h'
    go_enter Try.func75, Try.ntmps75
    go_wp2
    go_ret
    exact ⟨rfl, Below.refl _ _⟩

set_option maxHeartbeats 1600000 in
theorem sameEvI (v v' : Value) (l l' : List E) (w : World) (h : ER w v l) (h' : ER w v' l') (hl : l.length ≤ 1048576) (hl' : l'.length ≤ 1048576) :
    Calls Try.prog 80 #[v, v'] w fun e w' => e = .returned (.bool (decide (l = l'))) ∧ Below w.heap.size w w' := by
  by_cases hn : l.length = l'.length
  · have hn1 : (((l.length : Int)) != (l.length : Int)) = false := by simp
    by_cases h0 : l.length = 0
    · obtain rfl : l = [] := List.length_eq_zero_iff.1 h0
      obtain rfl : l' = [] := List.length_eq_zero_iff.1 (by omega)
      obtain ⟨a, c, rfl⟩ := h.slice
      obtain ⟨a', c', rfl⟩ := h'.slice
      clear h h' h0 hl hl' hn hn1
      go_enter Try.func80, Try.ntmps80
      go_wp2
      refine wp_loop_rounds 1 ?_
      rw [rounds_succ]
      go_wp2
      go_ret
      exact ⟨rfl, Below.refl _ _⟩
    · rcases h with ⟨rfl, _⟩ | ⟨b, o, cap, rfl, hc⟩
      · simp at h0
      rcases h' with ⟨rfl, _⟩ | ⟨b', o', cap', hv', hc'⟩
      · simp at hn; simp [hn] at h0
      rw [← hn] at hv'
      subst hv'
      have HN0 := hide hn
      clear hn
      have HC := hide hc; have HC' := hide hc'
      clear hc hc' h0
      generalize hr : decide (l = l') = r
      have HR := hide hr
      clear hr
      go_enter Try.func80, Try.ntmps80
      go_wp2
      go_loopw [13] (fun i wr => ∃ k : Nat, k ≤ l.length ∧ i = .int .i64 k ∧ Hid (Below w.heap.size w wr) ∧ Hid (∀ j, j < k → l.getD j E0 = l'.getD j E0)) (fun i _ => l.length - (intOf i).toNat)
      case atStart => exact ⟨0, Nat.zero_le _, rfl, hide (Below.refl _ _), hide (fun j hj => by omega)⟩
      case round =>
        obtain ⟨k, hk, rfl, hb, he⟩ := hrel
        by_cases hlt : k < l.length
        · obtain ⟨c0, c1, c2⟩ := ((unhide HC).kept (unhide hb)).2 k hlt
          obtain ⟨d0, d1, d2⟩ := ((unhide HC').kept (unhide hb)).2 k (by rw [← unhide HN0]; exact hlt)
          have HN : Hid (l.getD k E0 ≠ l'.getD k E0 → r = false) := hide (fun h => by rw [← unhide HR]; exact decide_eq_false (ne_at E0 h))
          have HM : Hid (l.getD k E0 = l'.getD k E0 → ∀ j, j < k + 1 → l.getD j E0 = l'.getD j E0) := hide (fun h j hj => by
            by_cases e : j = k
            · subst e; exact h
            · exact unhide he j (by omega))
          have i1 : (0 : Int) ≤ (k : Int) := by omega
          have i2 : (k : Int) < (l.length : Int) := by omega
          clear he
          generalize l.getD k E0 = x at *
          generalize l'.getD k E0 = y at *
          obtain ⟨s, m, q⟩ := x
          obtain ⟨s', m', q'⟩ := y
          simp only at c0 c1 c2 d0 d1 d2
          by_cases hy0 : s = s'
          case neg =>
            have b0 : (s.toList == s'.toList) = false := neB hy0

            obtain rfl := unhide HN (fun e => hy0 (by simp only [Prod.mk.injEq] at e; exact e.1))
            clear hy0
            go_wp2
            go_quiet (fail)
            go_wp2
            go_ret
            exact ⟨rfl, (unhide hb).trans ((below_drew _).mono (unhide hb).size)⟩
          by_cases hy1 : m = m'
          case neg =>
            subst hy0
            have b1 : (m.toList == m'.toList) = false := neB hy1
            have b0 : (s.toList == s.toList) = true := by simp
            obtain rfl := unhide HN (fun e => hy1 (by simp only [Prod.mk.injEq] at e; exact e.2.1))
            clear hy1
            go_wp2
            go_quiet (fail)
            go_wp2
            go_ret
            exact ⟨rfl, (unhide hb).trans ((below_drew _).mono (unhide hb).size)⟩
          by_cases hy2 : q = q'
          case neg =>
            subst hy0
            subst hy1
            have b2 : (q == q') = false := beq_eq_false_iff_ne.2 hy2
            have b0 : (s.toList == s.toList) = true := by simp
            have b1 : (m.toList == m.toList) = true := by simp
            obtain rfl := unhide HN (fun e => hy2 (by simp only [Prod.mk.injEq] at e; exact e.2.2))
            clear hy2
            go_wp2
            go_quiet (fail)
            go_wp2
            go_ret
            exact ⟨rfl, (unhide hb).trans ((below_drew _).mono (unhide hb).size)⟩
          subst hy0 hy1 hy2
          have b0 : (s.toList == s.toList) = true := by simp
          have b1 : (m.toList == m.toList) = true := by simp
          have b2 : (q == q) = true := by simp
          have HM2 := hide (unhide HM rfl)
          clear HM
          go_wp2
          go_quiet (fail)
          go_wp2
          exact ⟨⟨k + 1, by omega, by go_num, hide ((unhide hb).trans ((below_drew _).mono (unhide hb).size)), HM2⟩, by simp [intOf]; omega⟩
        · obtain rfl : r = true := by
            rw [← unhide HR]
            exact decide_eq_true (same_of E0 (unhide HN0) (fun j hj => unhide he j (by omega)))
          obtain rfl : k = l.length := by omega
          go_wp2
          go_ret
          exact ⟨rfl, unhide hb⟩
  · have hn1 : (((l.length : Int)) != (l'.length : Int)) = true := by simp; omega
    obtain ⟨a, c, rfl⟩ := h.slice
    obtain ⟨a', c', rfl⟩ := h'.slice
    rw [decide_eq_false (fun e => hn (by rw [e]))]
    clear h h'
    go_enter Try.func80, Try.ntmps80
    go_wp2
    go_ret
    exact ⟨rfl, Below.refl _ _⟩

set_option maxHeartbeats 1600000 in
theorem sameLinI (v v' : Value) (l l' : List E) (w : World) (h : ER w v l) (h' : ER w v' l') (hl : l.length ≤ 1048576) (hl' : l'.length ≤ 1048576) :
    Calls Try.prog 79 #[v, v'] w fun e w' => e = .returned (.bool (decide (l = l'))) ∧ Below w.heap.size w w' := by
  by_cases hn : l.length = l'.length
  · have hn1 : (((l.length : Int)) != (l.length : Int)) = false := by simp
    by_cases h0 : l.length = 0
    · obtain rfl : l = [] := List.length_eq_zero_iff.1 h0
      obtain rfl : l' = [] := List.length_eq_zero_iff.1 (by omega)
      obtain ⟨a, c, rfl⟩ := h.slice
      obtain ⟨a', c', rfl⟩ := h'.slice
      clear h h' h0 hl hl' hn hn1
      go_enter Try.func79, Try.ntmps79
      go_wp2
      refine wp_loop_rounds 1 ?_
      rw [rounds_succ]
      go_wp2
      go_ret
      exact ⟨rfl, Below.refl _ _⟩
    · rcases h with ⟨rfl, _⟩ | ⟨b, o, cap, rfl, hc⟩
      · simp at h0
      rcases h' with ⟨rfl, _⟩ | ⟨b', o', cap', hv', hc'⟩
      · simp at hn; simp [hn] at h0
      rw [← hn] at hv'
      subst hv'
      have HN0 := hide hn
      clear hn
      have HC := hide hc; have HC' := hide hc'
      clear hc hc' h0
      generalize hr : decide (l = l') = r
      have HR := hide hr
      clear hr
      go_enter Try.func79, Try.ntmps79
      go_wp2
      go_loopw [13] (fun i wr => ∃ k : Nat, k ≤ l.length ∧ i = .int .i64 k ∧ Hid (Below w.heap.size w wr) ∧ Hid (∀ j, j < k → l.getD j E0 = l'.getD j E0)) (fun i _ => l.length - (intOf i).toNat)
      case atStart => exact ⟨0, Nat.zero_le _, rfl, hide (Below.refl _ _), hide (fun j hj => by omega)⟩
      case round =>
        obtain ⟨k, hk, rfl, hb, he⟩ := hrel
        by_cases hlt : k < l.length
        · obtain ⟨c0, c1, c2⟩ := ((unhide HC).kept (unhide hb)).2 k hlt
          obtain ⟨d0, d1, d2⟩ := ((unhide HC').kept (unhide hb)).2 k (by rw [← unhide HN0]; exact hlt)
          have HN : Hid (l.getD k E0 ≠ l'.getD k E0 → r = false) := hide (fun h => by rw [← unhide HR]; exact decide_eq_false (ne_at E0 h))
          have HM : Hid (l.getD k E0 = l'.getD k E0 → ∀ j, j < k + 1 → l.getD j E0 = l'.getD j E0) := hide (fun h j hj => by
            by_cases e : j = k
            · subst e; exact h
            · exact unhide he j (by omega))
          have i1 : (0 : Int) ≤ (k : Int) := by omega
          have i2 : (k : Int) < (l.length : Int) := by omega
          clear he
          generalize l.getD k E0 = x at *
          generalize l'.getD k E0 = y at *
          obtain ⟨s, m, q⟩ := x
          obtain ⟨s', m', q'⟩ := y
          simp only at c0 c1 c2 d0 d1 d2
          by_cases hy0 : s = s'
          case neg =>
            have b0 : (s.toList == s'.toList) = false := neB hy0

            obtain rfl := unhide HN (fun e => hy0 (by simp only [Prod.mk.injEq] at e; exact e.1))
            clear hy0
            go_wp2
            go_quiet (fail)
            go_wp2
            go_ret
            exact ⟨rfl, (unhide hb).trans ((below_drew _).mono (unhide hb).size)⟩
          by_cases hy1 : m = m'
          case neg =>
            subst hy0
            have b1 : (m.toList == m'.toList) = false := neB hy1
            have b0 : (s.toList == s.toList) = true := by simp
            obtain rfl := unhide HN (fun e => hy1 (by simp only [Prod.mk.injEq] at e; exact e.2.1))
            clear hy1
            go_wp2
            go_quiet (fail)
            go_wp2
            go_ret
            exact ⟨rfl, (unhide hb).trans ((below_drew _).mono (unhide hb).size)⟩
          by_cases hy2 : q = q'
          case neg =>
            subst hy0
            subst hy1
            have b2 : (q == q') = false := beq_eq_false_iff_ne.2 hy2
            have b0 : (s.toList == s.toList) = true := by simp
            have b1 : (m.toList == m.toList) = true := by simp
            obtain rfl := unhide HN (fun e => hy2 (by simp only [Prod.mk.injEq] at e; exact e.2.2))
            clear hy2
            go_wp2
            go_quiet (fail)
            go_wp2
            go_ret
            exact ⟨rfl, (unhide hb).trans ((below_drew _).mono (unhide hb).size)⟩
          subst hy0 hy1 hy2
          have b0 : (s.toList == s.toList) = true := by simp
          have b1 : (m.toList == m.toList) = true := by simp
          have b2 : (q == q) = true := by simp
          have HM2 := hide (unhide HM rfl)
          clear HM
          go_wp2
          go_quiet (fail)
          go_wp2
          exact ⟨⟨k + 1, by omega, by go_num, hide ((unhide hb).trans ((below_drew _).mono (unhide hb).size)), HM2⟩, by simp [intOf]; omega⟩
        · obtain rfl : r = true := by
            rw [← unhide HR]
            exact decide_eq_true (same_of E0 (unhide HN0) (fun j hj => unhide he j (by omega)))
          obtain rfl : k = l.length := by omega
          go_wp2
          go_ret
          exact ⟨rfl, unhide hb⟩
  · have hn1 : (((l.length : Int)) != (l'.length : Int)) = true := by simp; omega
    obtain ⟨a, c, rfl⟩ := h.slice
    obtain ⟨a', c', rfl⟩ := h'.slice
    rw [decide_eq_false (fun e => hn (by rw [e]))]
    clear h h'
    go_enter Try.func79, Try.ntmps79
    go_wp2
    go_ret
    exact ⟨rfl, Below.refl _ _⟩

set_option maxHeartbeats 1600000 in
theorem sameRowI (v v' : Value) (l l' : List R) (w : World) (h : RR w v l) (h' : RR w v' l') (hl : l.length ≤ 1048576) (hl' : l'.length ≤ 1048576) :
    Calls Try.prog 110 #[v, v'] w fun e w' => e = .returned (.bool (decide (l = l'))) ∧ Below w.heap.size w w' := by
  by_cases hn : l.length = l'.length
  · have hn1 : (((l.length : Int)) != (l.length : Int)) = false := by simp
    by_cases h0 : l.length = 0
    · obtain rfl : l = [] := List.length_eq_zero_iff.1 h0
      obtain rfl : l' = [] := List.length_eq_zero_iff.1 (by omega)
      obtain ⟨a, c, rfl⟩ := h.slice
      obtain ⟨a', c', rfl⟩ := h'.slice
      clear h h' h0 hl hl' hn hn1
      go_enter Try.func110, Try.ntmps110
      go_wp2
      refine wp_loop_rounds 1 ?_
      rw [rounds_succ]
      go_wp2
      go_ret
      exact ⟨rfl, Below.refl _ _⟩
    · rcases h with ⟨rfl, _⟩ | ⟨b, o, cap, rfl, hc⟩
      · simp at h0
      rcases h' with ⟨rfl, _⟩ | ⟨b', o', cap', hv', hc'⟩
      · simp at hn; simp [hn] at h0
      rw [← hn] at hv'
      subst hv'
      have HN0 := hide hn
      clear hn
      have HC := hide hc; have HC' := hide hc'
      clear hc hc' h0
      generalize hr : decide (l = l') = r
      have HR := hide hr
      clear hr
      go_enter Try.func110, Try.ntmps110
      go_wp2
      go_loopw [13] (fun i wr => ∃ k : Nat, k ≤ l.length ∧ i = .int .i64 k ∧ Hid (Below w.heap.size w wr) ∧ Hid (∀ j, j < k → l.getD j R0 = l'.getD j R0)) (fun i _ => l.length - (intOf i).toNat)
      case atStart => exact ⟨0, Nat.zero_le _, rfl, hide (Below.refl _ _), hide (fun j hj => by omega)⟩
      case round =>
        obtain ⟨k, hk, rfl, hb, he⟩ := hrel
        by_cases hlt : k < l.length
        · obtain ⟨c0, c1, c2⟩ := ((unhide HC).kept (unhide hb)).2 k hlt
          obtain ⟨d0, d1, d2⟩ := ((unhide HC').kept (unhide hb)).2 k (by rw [← unhide HN0]; exact hlt)
          have HN : Hid (l.getD k R0 ≠ l'.getD k R0 → r = false) := hide (fun h => by rw [← unhide HR]; exact decide_eq_false (ne_at R0 h))
          have HM : Hid (l.getD k R0 = l'.getD k R0 → ∀ j, j < k + 1 → l.getD j R0 = l'.getD j R0) := hide (fun h j hj => by
            by_cases e : j = k
            · subst e; exact h
            · exact unhide he j (by omega))
          have i1 : (0 : Int) ≤ (k : Int) := by omega
          have i2 : (k : Int) < (l.length : Int) := by omega
          clear he
          generalize l.getD k R0 = x at *
          generalize l'.getD k R0 = y at *
          obtain ⟨s, m, q⟩ := x
          obtain ⟨s', m', q'⟩ := y
          simp only at c0 c1 c2 d0 d1 d2
          by_cases hy0 : s = s'
          case neg =>
            have b0 : (s.toList == s'.toList) = false := neB hy0

            obtain rfl := unhide HN (fun e => hy0 (by simp only [Prod.mk.injEq] at e; exact e.1))
            clear hy0
            go_wp2
            go_quiet (fail)
            go_wp2
            go_ret
            exact ⟨rfl, (unhide hb).trans ((below_drew _).mono (unhide hb).size)⟩
          by_cases hy1 : m = m'
          case neg =>
            subst hy0
            have b1 : (m == m') = false := beq_eq_false_iff_ne.2 hy1
            have b0 : (s.toList == s.toList) = true := by simp
            obtain rfl := unhide HN (fun e => hy1 (by simp only [Prod.mk.injEq] at e; exact e.2.1))
            clear hy1
            go_wp2
            go_quiet (fail)
            go_wp2
            go_ret
            exact ⟨rfl, (unhide hb).trans ((below_drew _).mono (unhide hb).size)⟩
          by_cases hy2 : q = q'
          case neg =>
            subst hy0
            subst hy1
            have b2 : (q == q') = false := beq_eq_false_iff_ne.2 hy2
            have b0 : (s.toList == s.toList) = true := by simp
            have b1 : (m == m) = true := by simp
            obtain rfl := unhide HN (fun e => hy2 (by simp only [Prod.mk.injEq] at e; exact e.2.2))
            clear hy2
            go_wp2
            go_quiet (fail)
            go_wp2
            go_ret
            exact ⟨rfl, (unhide hb).trans ((below_drew _).mono (unhide hb).size)⟩
          subst hy0 hy1 hy2
          have b0 : (s.toList == s.toList) = true := by simp
          have b1 : (m == m) = true := by simp
          have b2 : (q == q) = true := by simp
          have HM2 := hide (unhide HM rfl)
          clear HM
          go_wp2
          go_quiet (fail)
          go_wp2
          exact ⟨⟨k + 1, by omega, by go_num, hide ((unhide hb).trans ((below_drew _).mono (unhide hb).size)), HM2⟩, by simp [intOf]; omega⟩
        · obtain rfl : r = true := by
            rw [← unhide HR]
            exact decide_eq_true (same_of R0 (unhide HN0) (fun j hj => unhide he j (by omega)))
          obtain rfl : k = l.length := by omega
          go_wp2
          go_ret
          exact ⟨rfl, unhide hb⟩
  · have hn1 : (((l.length : Int)) != (l'.length : Int)) = true := by simp; omega
    obtain ⟨a, c, rfl⟩ := h.slice
    obtain ⟨a', c', rfl⟩ := h'.slice
    rw [decide_eq_false (fun e => hn (by rw [e]))]
    clear h h'
    go_enter Try.func110, Try.ntmps110
    go_wp2
    go_ret
    exact ⟨rfl, Below.refl _ _⟩

end Go.Proofs.Ytdjjgoeinkbmjaa.Bills
