/-
  spec.BillSame: bills.
-/
import Derived.Test.YtdjjgoeinkbmjaaSameS
namespace Go.Proofs.Ytdjjgoeinkbmjaa.Bills
set_option linter.unusedVariables false
open Go.RowKit
open Evs (E E0 ER EN EC EOwn)
open BRow (R R0 RR RN RC ROwn)

theorem IW.drewN {W : World} {rv ev : Value} {x : I} (h : IW W rv ev x) (n : Nat) : IW (W.drewN n) rv ev x := h.kept (below_drew n)

set_option maxHeartbeats 3200000 in
theorem sameS (v v' : Value) (x y : B) (w : World) (h : BV w v x) (h' : BV w v' y) (hf : FewB x) (hf' : FewB y) :
    Calls Try.prog 40 #[v, v'] w fun e w' => e = .returned (.bool (decide (x = y))) ∧ Below w.heap.size w w' := by
  obtain ⟨tv, ev, iv, rfl, ht, he, hi⟩ := h
  obtain ⟨tv', ev', iv', rfl, ht', he', hi'⟩ := h'
  have HT := hide ht
  have HE := hide he
  have HI := hide hi
  have HT' := hide ht'
  have HE' := hide he'
  have HI' := hide hi'
  have HF := hide hf
  have HF' := hide hf'
  obtain ⟨ta, tc, e1⟩ := ht.slice
  obtain ⟨ta', tc', e2⟩ := ht'.slice
  obtain ⟨ia, ic, e3⟩ := hi.slice
  obtain ⟨ia', ic', e4⟩ := hi'.slice
  have l1 : x.tar.length ≤ 1048576 := hf.1
  have l2 : y.tar.length ≤ 1048576 := hf'.1
  have l3 : x.invs.length ≤ 1048576 := hf.2.2.1
  have l4 : y.invs.length ≤ 1048576 := hf'.2.2.1
  clear ht he hi ht' he' hi' hf hf'
  generalize hr : decide (x = y) = r
  have HR := hide hr
  clear hr
  obtain ⟨tar, evs, invs, paid⟩ := x
  obtain ⟨tar', evs', invs', paid'⟩ := y
  simp only at e1 e2 e3 e4 l1 l2 l3 l4 HT HE HI HT' HE' HI'
  subst e1 e2 e3 e4
  by_cases h1 : paid = paid'
  case neg =>
    have b1 : (paid != paid') = true := by simpa using h1
    obtain rfl : r = false := by rw [← unhide HR]; exact decide_eq_false (fun e => h1 (by injection e))
    clear h1
    go_enter Try.func40, Try.ntmps40
    go_wp2_with (fail)
    go_ret
    exact ⟨rfl, below2 _ _ _⟩
  subst h1
  have b1 : (paid != paid) = false := by simp
  by_cases h2 : tar.length = tar'.length
  case neg =>
    have b2 : ((tar.length : Int) != (tar'.length : Int)) = true := by simp; omega
    obtain rfl : r = false := by rw [← unhide HR]; exact decide_eq_false (fun e => h2 (by injection e with e; rw [e]))
    clear h2
    go_enter Try.func40, Try.ntmps40
    go_wp2_with (fail)
    go_ret
    exact ⟨rfl, below2 _ _ _⟩
  rw [← h2] at HT' ⊢
  have H2 := hide h2
  clear h2 l2
  have b2 : ((tar.length : Int) != (tar.length : Int)) = false := by simp
  by_cases h3 : invs.length = invs'.length
  case neg =>
    have b3 : ((invs.length : Int) != (invs'.length : Int)) = true := by simp; omega
    obtain rfl : r = false := by rw [← unhide HR]; exact decide_eq_false (fun e => h3 (by injection e with _ _ e; rw [e]))
    clear h3
    go_enter Try.func40, Try.ntmps40
    go_wp2_with (fail)
    go_ret
    exact ⟨rfl, below2 _ _ _⟩
  rw [← h3] at HI' ⊢
  have H3 := hide h3
  clear h3 l4
  have b3 : ((invs.length : Int) != (invs.length : Int)) = false := by simp
  by_cases h6 : evs = evs'
  case neg =>
    have H6 : Hid (decide (evs = evs') = false) := hide (decide_eq_false h6)
    obtain rfl : r = false := by rw [← unhide HR]; exact decide_eq_false (fun e => h6 (by injection e))
    clear h6
    go_enter Try.func40, Try.ntmps40
    go_wp2_with (fail)
    refine (sameEvS ev ev' evs evs' _ ((unhide HE).kept (below2 _ _ _)) ((unhide HE').kept (below2 _ _ _)) (unhide HF).2.1 (unhide HF').2.1).mono ?_
    rintro e w1 ⟨rfl, hb1⟩
    obtain ⟨a1, a2, hB, hz⟩ := Boxes.box2 hb1
    have HB := hide hB
    rw [unhide H6]
    clear hb1 hB a1 a2
    go_wp2_with (fail)
    go_ret
    exact ⟨rfl, unhide HB⟩
  subst h6
  go_enter Try.func40, Try.ntmps40
  go_wp2_with (fail)
  refine (sameEvS ev ev' evs evs _ ((unhide HE).kept (below2 _ _ _)) ((unhide HE').kept (below2 _ _ _)) (unhide HF).2.1 (unhide HF').2.1).mono ?_
  rintro e w1 ⟨rfl, hb1⟩
  obtain ⟨a1, a2, hB, hz⟩ := Boxes.box2 hb1
  have HB := hide hB
  have A1 := hide a1
  have A2 := hide a2
  have HT1 := hide ((unhide HT).kept hB)
  have HT1' := hide ((unhide HT').kept hB)
  rw [decide_eq_true rfl]
  clear hb1 hB a1 a2 HT HT' HE HE'
  go_wp2_with (fail)
  -- the first loop
  go_loopw [5] (fun i wr => ∃ k : Nat, k ≤ tar.length ∧ i = .int .i64 k ∧ Hid (Below w1.heap.size w1 wr) ∧ Hid (∀ j, j < k → tar.getD j E0 = tar'.getD j E0)) (fun i _ => tar.length - (intOf i).toNat)
  case atStart => exact ⟨0, Nat.zero_le _, rfl, hide (Below.refl _ _), hide (fun j hj => by omega)⟩
  case round =>
    obtain ⟨k, hk, rfl, hb, he⟩ := hrel
    have c1 := ((unhide A1).below (unhide hb) (by omega) 0 _ rfl).1
    have d1 := ((unhide A2).below (unhide hb) (by omega) 0 _ rfl).1
    have HBB := hide (below_trans (unhide HB) (unhide hb))
    by_cases hlt : k < tar.length
    · rcases unhide HT1 with ⟨h0, _⟩ | ⟨b, o, cap, ev1, hc⟩
      · rw [h0] at hlt; exact absurd hlt (by simp)
      rcases unhide HT1' with ⟨h0, _⟩ | ⟨b', o', cap', ev2, hc'⟩
      · have := unhide H2; rw [h0] at this; rw [this] at hlt; exact absurd hlt (by simp)
      rw [← unhide H2] at ev2
      simp only [Value.slice.injEq, true_and] at ev1 ev2
      obtain ⟨rfl, rfl⟩ := ev1
      obtain ⟨rfl, rfl⟩ := ev2
      obtain ⟨c2, c3, c4⟩ := (hc.kept (unhide hb)).2 k hlt
      obtain ⟨d2, d3, d4⟩ := (hc'.kept (unhide hb)).2 k (by rw [← unhide H2]; exact hlt)
      clear hc hc'
      have HN : Hid (tar.getD k E0 ≠ tar'.getD k E0 → r = false) := hide (fun h => by rw [← unhide HR]; exact decide_eq_false (fun e => ne_at E0 h (by injection e)))
      have HM : Hid (tar.getD k E0 = tar'.getD k E0 → ∀ j, j < k + 1 → tar.getD j E0 = tar'.getD j E0) := hide (fun h j hj => by
        by_cases e : j = k
        · subst e; exact h
        · exact unhide he j (by omega))
      have i1 : (0 : Int) ≤ (k : Int) := by omega
      have i2 : (k : Int) < (tar.length : Int) := by omega
      clear he
      generalize tar.getD k E0 = x at *
      generalize tar'.getD k E0 = y at *
      obtain ⟨s, m, q⟩ := x
      obtain ⟨s', m', q'⟩ := y
      simp only at c2 c3 c4 d2 d3 d4
      by_cases hy0 : s = s'
      case neg =>
        have y0 : (s.toList == s'.toList) = false := neB hy0
        obtain rfl := unhide HN (fun e => hy0 (by simp only [Prod.mk.injEq] at e; exact e.1))
        clear hy0
        go_wp2
        go_quiet (fail)
        go_wp2
        go_ret
        exact ⟨rfl, (unhide HBB).trans ((below_drew _).mono (unhide HBB).size)⟩
      subst hy0
      have y0 : (s.toList == s.toList) = true := by simp
      by_cases hy1 : m = m'
      case neg =>
        have y1 : (m.toList == m'.toList) = false := neB hy1
        obtain rfl := unhide HN (fun e => hy1 (by simp only [Prod.mk.injEq] at e; exact e.2.1))
        clear hy1
        go_wp2
        go_quiet (fail)
        go_wp2
        go_ret
        exact ⟨rfl, (unhide HBB).trans ((below_drew _).mono (unhide HBB).size)⟩
      subst hy1
      have y1 : (m.toList == m.toList) = true := by simp
      by_cases hy2 : q = q'
      case neg =>
        have y2 : (q == q') = false := beq_eq_false_iff_ne.2 hy2
        obtain rfl := unhide HN (fun e => hy2 (by simp only [Prod.mk.injEq] at e; exact e.2.2))
        clear hy2
        go_wp2
        go_quiet (fail)
        go_wp2
        go_ret
        exact ⟨rfl, (unhide HBB).trans ((below_drew _).mono (unhide HBB).size)⟩
      subst hy2
      have y2 : (q == q) = true := by simp
      have HM2 := hide (unhide HM rfl)
      clear HM
      go_wp2
      go_quiet (fail)
      go_wp2
      exact ⟨⟨k + 1, by omega, by go_num, hide ((unhide hb).trans ((below_drew _).mono (unhide hb).size)), HM2⟩, by simp [intOf]; omega⟩
    · obtain rfl : k = tar.length := by omega
      obtain rfl : tar = tar' := same_of E0 (unhide H2) (fun j hj => unhide he j hj)
      clear he d1 HBB HT1 HT1'
      have HI1 := hide ((unhide HI).kept (unhide HB))
      have HI1' := hide ((unhide HI').kept (unhide HB))
      have HB0 := hb
      clear HI HI' hb
      go_wp2
      go_loopw [6] (fun i wr' => ∃ k : Nat, k ≤ invs.length ∧ i = .int .i64 k ∧ Hid (Below w1.heap.size w1 wr') ∧ Hid (∀ j, j < k → invs.getD j I0 = invs'.getD j I0)) (fun i _ => invs.length - (intOf i).toNat)
      case atStart => exact ⟨0, Nat.zero_le _, rfl, HB0, hide (fun j hj => by omega)⟩
      case round =>
        obtain ⟨k, hk, rfl, hb, he⟩ := hrel
        clear c1 HB0
        have c1 := ((unhide A1).below (unhide hb) (by omega) 2 _ rfl).1
        have d1 := ((unhide A2).below (unhide hb) (by omega) 2 _ rfl).1
        have HBB := hide (below_trans (unhide HB) (unhide hb))
        by_cases hlt : k < invs.length
        · rcases unhide HI1 with ⟨h0, _⟩ | ⟨b, o, cap, ev1, hc⟩
          · rw [h0] at hlt; exact absurd hlt (by simp)
          rcases unhide HI1' with ⟨h0, _⟩ | ⟨b', o', cap', ev2, hc'⟩
          · have := unhide H3; rw [h0] at this; rw [this] at hlt; exact absurd hlt (by simp)
          rw [← unhide H3] at ev2
          simp only [Value.slice.injEq, true_and] at ev1 ev2
          obtain ⟨rfl, rfl⟩ := ev1
          obtain ⟨rfl, rfl⟩ := ev2
          obtain ⟨rv, ew, ⟨c2, c3, c4, c5, c6, c7⟩, hw⟩ := (hc.kept (unhide hb)).2 k hlt
          obtain ⟨rv', ew', ⟨d2, d3, d4, d5, d6, d7⟩, hw'⟩ := (hc'.kept (unhide hb)).2 k (by rw [← unhide H3]; exact hlt)
          have z1 := (hc.kept (unhide hb)).1
          have z2 := (hc'.kept (unhide hb)).1
          have z3 : w.heap.size < 0 + 0 + 0 + (Nat.succ w.heap.size) := by omega
          have HW := hide hw.drew
          have HW' := hide hw'.drew
          have HFk : Hid (FewI (invs.getD k I0)) := hide ((unhide HF).2.2.2 _ (by simp [List.getD, hlt]))
          have HFk' : Hid (FewI (invs'.getD k I0)) := hide ((unhide HF').2.2.2 _ (by have := unhide H3; simp [List.getD]; rw [List.getElem?_eq_getElem (by omega)]; simp))
          clear hc hc' hw hw' z3
          have HN : Hid (invs.getD k I0 ≠ invs'.getD k I0 → r = false) := hide (fun h => by rw [← unhide HR]; exact decide_eq_false (fun e => ne_at I0 h (by injection e)))
          have HM : Hid (invs.getD k I0 = invs'.getD k I0 → ∀ j, j < k + 1 → invs.getD j I0 = invs'.getD j I0) := hide (fun h j hj => by
            by_cases e : j = k
            · subst e; exact h
            · exact unhide he j (by omega))
          have i1 : (0 : Int) ≤ (k : Int) := by omega
          have i2 : (k : Int) < (invs.length : Int) := by omega
          have y1 : w.heap.size < wr.heap.size := by have := (unhide hb).size; omega
          have y2 : w.heap.size + 1 < wr.heap.size := by have := (unhide hb).size; omega
          clear he
          generalize invs.getD k I0 = x at *
          generalize invs'.getD k I0 = y at *
          generalize hd : decide (x = y) = d
          have HD := hide hd
          clear hd
          obtain ⟨no, rows, evs1, net, tax, credit⟩ := x
          obtain ⟨no', rows', evs2, net', tax', credit'⟩ := y
          simp only at c2 c5 c6 c7 d2 d5 d6 d7
          go_wp2
          go_region_held3 (fun w2 => w2.cell? ⟨w.heap.size, 2, none⟩ = some (.slice (some ⟨b, o, none⟩) invs.length ic) ∧ w2.cell? ⟨w.heap.size + 1, 2, none⟩ = some (.slice (some ⟨b', o', none⟩) invs.length ic') ∧ w2.cell? ⟨b, o + k * 6, none⟩ = some (.int .i64 no) ∧ w2.cell? ⟨b, o + k * 6 + 1, none⟩ = some rv ∧ w2.cell? ⟨b, o + k * 6 + 2, none⟩ = some ew ∧ w2.cell? ⟨b, o + k * 6 + 3, none⟩ = some (.int .i64 net) ∧ w2.cell? ⟨b, o + k * 6 + 4, none⟩ = some (.int .i64 tax) ∧ w2.cell? ⟨b, o + k * 6 + 5, none⟩ = some (.int .i64 credit) ∧ w2.cell? ⟨b', o' + k * 6, none⟩ = some (.int .i64 no') ∧ w2.cell? ⟨b', o' + k * 6 + 1, none⟩ = some rv' ∧ w2.cell? ⟨b', o' + k * 6 + 2, none⟩ = some ew' ∧ w2.cell? ⟨b', o' + k * 6 + 3, none⟩ = some (.int .i64 net') ∧ w2.cell? ⟨b', o' + k * 6 + 4, none⟩ = some (.int .i64 tax') ∧ w2.cell? ⟨b', o' + k * 6 + 5, none⟩ = some (.int .i64 credit')) (go_keep) (first | (go_at_call 76; refine (sameInvS ⟨no, rows, evs1, net, tax, credit⟩ ⟨no', rows', evs2, net', tax', credit'⟩ rv ew rv' ew' _ (unhide HW) (unhide HW') (unhide HFk) (unhide HFk')).mono ?_; rintro e wz ⟨rfl, hb1⟩; rw [unhide HD]; have q8 := hb1.cell (p := ⟨w.heap.size, 2, none⟩) y1; have q9 := hb1.cell (p := ⟨w.heap.size + 1, 2, none⟩) y2; have q0 := hb1.cell (p := ⟨b, o + k * 6, none⟩) z1; have r0 := hb1.cell (p := ⟨b', o' + k * 6, none⟩) z2; have q1 := hb1.cell (p := ⟨b, o + k * 6 + 1, none⟩) z1; have r1 := hb1.cell (p := ⟨b', o' + k * 6 + 1, none⟩) z2; have q2 := hb1.cell (p := ⟨b, o + k * 6 + 2, none⟩) z1; have r2 := hb1.cell (p := ⟨b', o' + k * 6 + 2, none⟩) z2; have q3 := hb1.cell (p := ⟨b, o + k * 6 + 3, none⟩) z1; have r3 := hb1.cell (p := ⟨b', o' + k * 6 + 3, none⟩) z2; have q4 := hb1.cell (p := ⟨b, o + k * 6 + 4, none⟩) z1; have r4 := hb1.cell (p := ⟨b', o' + k * 6 + 4, none⟩) z2; have q5 := hb1.cell (p := ⟨b, o + k * 6 + 5, none⟩) z1; have r5 := hb1.cell (p := ⟨b', o' + k * 6 + 5, none⟩) z2))
          have HBz := hide (below_of_drew hb1)
          clear hb1 q0 q1 q2 q3 q4 q5 q8 q9 r0 r1 r2 r3 r4 r5 c1 d1 c2 c3 c4 c5 c6 c7 d2 d3 d4 d5 d6 d7
          cases d with
          | false =>
            obtain rfl := unhide HN (of_decide_eq_false (unhide HD))
            go_wp2
            go_ret
            exact ⟨rfl, below_trans (unhide HBB) (unhide HBz)⟩
          | true =>
            have HM2 := hide (unhide HM (of_decide_eq_true (unhide HD)))
            clear HM HN HD
            go_wp2
            exact ⟨⟨k + 1, by omega, by go_num, hide (below_trans (unhide hb) (unhide HBz)), HM2⟩, by simp [intOf]; omega⟩
        · obtain rfl : k = invs.length := by omega
          obtain rfl : invs = invs' := same_of I0 (unhide H3) (fun j hj => unhide he j hj)
          obtain rfl : r = true := by rw [← unhide HR]; exact decide_eq_true rfl
          go_wp2
          go_ret
          exact ⟨rfl, unhide HBB⟩
end Go.Proofs.Ytdjjgoeinkbmjaa.Bills
