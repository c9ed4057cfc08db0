/-
  spec.BillSame.
-/
import Derived.Test.YtdjjgoeinkbmjaaSameB
namespace Go.Proofs.Ytdjjgoeinkbmjaa.Bills
set_option linter.unusedVariables false
open Go.RowKit
open Evs (E E0 ER EN EC EOwn)
open BRow (R R0 RR RN RC ROwn)

theorem below2 (w : World) (A B : Obj) : Below w.heap.size w ((w.alloc A).alloc B) := ((Below.refl _ w).alloc (Nat.le_refl _) _).alloc (by simp) _

set_option maxHeartbeats 1600000 in
theorem sameInvS (x y : I) (rv ev rv' ev' : Value) (w : World) (h : IW w rv ev x) (h' : IW w rv' ev' y) (hf : FewI x) (hf' : FewI y) :
    Calls Try.prog 76 #[iV x rv ev, iV y rv' ev'] w fun e w' => e = .returned (.bool (decide (x = y))) ∧ Below w.heap.size w w' := by
  have HW := hide h
  have HW' := hide h'
  have HF := hide hf
  have HF' := hide hf'
  obtain ⟨ra, rc, e1⟩ := h.1.slice
  obtain ⟨ra', rc', e2⟩ := h'.1.slice
  have l1 : x.rows.length ≤ 1048576 := hf.1
  have l2 : y.rows.length ≤ 1048576 := hf'.1
  clear h h' hf hf'
  generalize hr : decide (x = y) = r
  have HR := hide hr
  clear hr
  obtain ⟨no, rows, evs, net, tax, credit⟩ := x
  obtain ⟨no', rows', evs', net', tax', credit'⟩ := y
  simp only at e1 e2 l1 l2
  subst e1 e2
  by_cases h1 : no = no'
  case neg =>
    have b1 : (no != no') = true := by simpa using h1
    obtain rfl : r = false := by rw [← unhide HR]; exact decide_eq_false (fun e => h1 (by injection e))
    clear h1
    go_enter Try.func76, Try.ntmps76
    go_wp2_with (fail)
    go_ret
    exact ⟨rfl, below2 _ _ _⟩
  subst h1
  have b1 : (no != no) = false := by simp
  by_cases h2 : net = net'
  case neg =>
    have b2 : (net != net') = true := by simpa using h2
    obtain rfl : r = false := by rw [← unhide HR]; exact decide_eq_false (fun e => h2 (by injection e))
    clear h2
    go_enter Try.func76, Try.ntmps76
    go_wp2_with (fail)
    go_ret
    exact ⟨rfl, below2 _ _ _⟩
  subst h2
  have b2 : (net != net) = false := by simp
  by_cases h3 : tax = tax'
  case neg =>
    have b3 : (tax != tax') = true := by simpa using h3
    obtain rfl : r = false := by rw [← unhide HR]; exact decide_eq_false (fun e => h3 (by injection e))
    clear h3
    go_enter Try.func76, Try.ntmps76
    go_wp2_with (fail)
    go_ret
    exact ⟨rfl, below2 _ _ _⟩
  subst h3
  have b3 : (tax != tax) = false := by simp
  by_cases h4 : credit = credit'
  case neg =>
    have b4 : (credit != credit') = true := by simpa using h4
    obtain rfl : r = false := by rw [← unhide HR]; exact decide_eq_false (fun e => h4 (by injection e))
    clear h4
    go_enter Try.func76, Try.ntmps76
    go_wp2_with (fail)
    go_ret
    exact ⟨rfl, below2 _ _ _⟩
  subst h4
  have b4 : (credit != credit) = false := by simp
  by_cases h5 : rows.length = rows'.length
  case neg =>
    have b5 : ((rows.length : Int) != (rows'.length : Int)) = true := by simp; omega
    obtain rfl : r = false := by rw [← unhide HR]; exact decide_eq_false (fun e => h5 (by injection e with _ e; rw [e]))
    clear h5
    go_enter Try.func76, Try.ntmps76
    go_wp2_with (fail)
    go_ret
    exact ⟨rfl, below2 _ _ _⟩
  rw [← h5] at HW' ⊢
  have H5 := hide h5
  clear h5 l2
  have b5 : ((rows.length : Int) != (rows.length : Int)) = false := by simp
  by_cases h6 : evs = evs'
  case neg =>
    have H6 : Hid (decide (evs = evs') = false) := hide (decide_eq_false h6)
    obtain rfl : r = false := by rw [← unhide HR]; exact decide_eq_false (fun e => h6 (by injection e))
    clear h6
    go_enter Try.func76, Try.ntmps76
    go_wp2_with (fail)
    refine (sameEvS ev ev' evs evs' _ ((unhide HW).2.kept (below2 _ _ _)) ((unhide HW').2.kept (below2 _ _ _)) (unhide HF).2 (unhide HF').2).mono ?_
    rintro e w1 ⟨rfl, hb1⟩
    obtain ⟨a1, a2, hB, hz⟩ := Boxes.box2 hb1
    have HB := hide hB
    rw [unhide H6]
    clear hb1 hB a1 a2
    go_wp2_with (fail)
    go_ret
    exact ⟨rfl, unhide HB⟩
  subst h6
  go_enter Try.func76, Try.ntmps76
  go_wp2_with (fail)
  refine (sameEvS ev ev' evs evs _ ((unhide HW).2.kept (below2 _ _ _)) ((unhide HW').2.kept (below2 _ _ _)) (unhide HF).2 (unhide HF').2).mono ?_
  rintro e w1 ⟨rfl, hb1⟩
  obtain ⟨a1, a2, hB, hz⟩ := Boxes.box2 hb1
  have HB := hide hB
  have A1 := hide a1
  have A2 := hide a2
  have HRW := hide ((unhide HW).1.kept hB)
  have HRW' := hide ((unhide HW').1.kept hB)
  rw [decide_eq_true rfl]
  clear hb1 hB a1 a2 HW HW'
  have LEN := hide ((unhide H5).symm)
  by_cases h0 : rows.length = 0
  · obtain rfl : rows = [] := List.length_eq_zero_iff.1 h0
    obtain rfl : rows' = [] := List.length_eq_zero_iff.1 (unhide LEN)
    obtain rfl : r = true := by rw [← unhide HR]; exact decide_eq_true rfl
    have c1 := ((unhide A1) 1 _ rfl).1
    have d1 := ((unhide A2) 1 _ rfl).1
    clear h0 l1 b5 A1 A2
    simp only [List.length_nil] at c1 d1
    go_wp2_with (fail)
    refine wp_loop_rounds 1 ?_
    rw [rounds_succ]
    go_wp2_with (fail)
    go_ret
    exact ⟨rfl, unhide HB⟩
  rcases unhide HRW with ⟨rfl, _⟩ | ⟨b, o, cap, ev1, hc⟩
  · exact absurd rfl h0
  rcases unhide HRW' with ⟨rfl, _⟩ | ⟨b', o', cap', ev2, hc'⟩
  · exact absurd (unhide H5) h0
  rw [← unhide H5] at ev2
  simp only [Value.slice.injEq, true_and] at ev1 ev2
  obtain ⟨rfl, rfl⟩ := ev1
  obtain ⟨rfl, rfl⟩ := ev2
  have HC := hide hc
  have HC' := hide hc'
  clear hc hc' h0 HRW HRW'
  go_wp2_with (fail)
  go_loopw [5] (fun i wr => ∃ k : Nat, k ≤ rows.length ∧ i = .int .i64 k ∧ Hid (Below w1.heap.size w1 wr) ∧ Hid (∀ j, j < k → rows.getD j R0 = rows'.getD j R0)) (fun i _ => rows.length - (intOf i).toNat)
  case atStart => exact ⟨0, Nat.zero_le _, rfl, hide (Below.refl _ _), hide (fun j hj => by omega)⟩
  case round =>
    obtain ⟨k, hk, rfl, hb, he⟩ := hrel
    have c1 := ((unhide A1).below (unhide hb) (by omega) 1 _ rfl).1
    have d1 := ((unhide A2).below (unhide hb) (by omega) 1 _ rfl).1
    have HBB := hide (below_trans (unhide HB) (unhide hb))
    by_cases hlt : k < rows.length
    · obtain ⟨c2, c3, c4⟩ := ((unhide HC).kept (unhide hb)).2 k hlt
      obtain ⟨d2, d3, d4⟩ := ((unhide HC').kept (unhide hb)).2 k (by rw [← unhide H5]; exact hlt)
      have HN : Hid (rows.getD k R0 ≠ rows'.getD k R0 → r = false) := hide (fun h => by rw [← unhide HR]; exact decide_eq_false (fun e => ne_at R0 h (by injection e)))
      have HM : Hid (rows.getD k R0 = rows'.getD k R0 → ∀ j, j < k + 1 → rows.getD j R0 = rows'.getD j R0) := hide (fun h j hj => by
        by_cases e : j = k
        · subst e; exact h
        · exact unhide he j (by omega))
      have i1 : (0 : Int) ≤ (k : Int) := by omega
      have i2 : (k : Int) < (rows.length : Int) := by omega
      clear he
      generalize rows.getD k R0 = x at *
      generalize rows'.getD k R0 = y at *
      obtain ⟨s, m, q⟩ := x
      obtain ⟨s', m', q'⟩ := y
      simp only at c2 c3 c4 d2 d3 d4
      by_cases hy0 : s = s'
      case neg =>
        have y0 : (s.toList == s'.toList) = false := neB hy0
        obtain rfl := unhide HN (fun e => hy0 (by simp only [Prod.mk.injEq] at e; exact e.1))
        clear hy0
        go_wp2
        go_quiet (fail)
        go_wp2
        go_ret
        exact ⟨rfl, (unhide HBB).trans ((below_drew _).mono (unhide HBB).size)⟩
      subst hy0
      have y0 : (s.toList == s.toList) = true := by simp
      by_cases hy1 : m = m'
      case neg =>
        have y1 : (m == m') = false := beq_eq_false_iff_ne.2 hy1
        obtain rfl := unhide HN (fun e => hy1 (by simp only [Prod.mk.injEq] at e; exact e.2.1))
        clear hy1
        go_wp2
        go_quiet (fail)
        go_wp2
        go_ret
        exact ⟨rfl, (unhide HBB).trans ((below_drew _).mono (unhide HBB).size)⟩
      subst hy1
      have y1 : (m == m) = true := by simp
      by_cases hy2 : q = q'
      case neg =>
        have y2 : (q == q') = false := beq_eq_false_iff_ne.2 hy2
        obtain rfl := unhide HN (fun e => hy2 (by simp only [Prod.mk.injEq] at e; exact e.2.2))
        clear hy2
        go_wp2
        go_quiet (fail)
        go_wp2
        go_ret
        exact ⟨rfl, (unhide HBB).trans ((below_drew _).mono (unhide HBB).size)⟩
      subst hy2
      have y2 : (q == q) = true := by simp
      have HM2 := hide (unhide HM rfl)
      clear HM
      go_wp2
      go_quiet (fail)
      go_wp2
      exact ⟨⟨k + 1, by omega, by go_num, hide ((unhide hb).trans ((below_drew _).mono (unhide hb).size)), HM2⟩, by simp [intOf]; omega⟩
    · obtain rfl : k = rows.length := by omega
      obtain rfl : rows = rows' := same_of R0 (unhide H5) (fun j hj => unhide he j hj)
      obtain rfl : r = true := by rw [← unhide HR]; exact decide_eq_true rfl
      go_wp2
      go_ret
      exact ⟨rfl, unhide HBB⟩
end Go.Proofs.Ytdjjgoeinkbmjaa.Bills
