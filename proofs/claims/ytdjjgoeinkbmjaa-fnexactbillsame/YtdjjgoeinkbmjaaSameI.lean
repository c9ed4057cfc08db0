/-
  impl.BillSame.
-/
import Derived.Test.YtdjjgoeinkbmjaaSameS
namespace Go.Proofs.Ytdjjgoeinkbmjaa.Bills
set_option linter.unusedVariables false
open Go.RowKit
open Evs (E E0 ER EN EC EOwn)
open BRow (R R0 RR RN RC ROwn)

set_option maxHeartbeats 1600000 in
theorem sameInvI (x y : I) (rv ev rv' ev' : Value) (w : World) (h : IW w rv ev x) (h' : IW w rv' ev' y) (hf : FewI x) (hf' : FewI y) :
    Calls Try.prog 82 #[iV x rv ev, iV y rv' ev'] w fun e w' => e = .returned (.bool (decide (x = y))) ∧ Below w.heap.size w w' := by
  have HW := hide h
  have HW' := hide h'
  have HF := hide hf
  have HF' := hide hf'
  clear h h' hf hf'
  generalize hr : decide (x = y) = r
  have HR := hide hr
  clear hr
  obtain ⟨no, rows, evs, net, tax, credit⟩ := x
  obtain ⟨no', rows', evs', net', tax', credit'⟩ := y
  by_cases h1 : no = no'
  case neg =>
    have b1 : (no == no') = false := by simpa using h1
    obtain rfl : r = false := by rw [← unhide HR]; exact decide_eq_false (fun e => h1 (by injection e))
    clear h1
    go_enter Try.func82, Try.ntmps82
    go_wp2_with (fail)
    go_ret
    exact ⟨rfl, below2 _ _ _⟩
  subst h1
  have b1 : (no == no) = true := by simp
  go_enter Try.func82, Try.ntmps82
  go_wp2_with (fail)
  refine (sameRowI rv rv' rows rows' _ ((unhide HW).1.kept (below2 _ _ _)) ((unhide HW').1.kept (below2 _ _ _)) (unhide HF).1 (unhide HF').1).mono ?_
  rintro e w1 ⟨rfl, hb1⟩
  obtain ⟨a1, a2, hB, hz⟩ := Boxes.box2 hb1
  have HB := hide hB
  have HE := hide ((unhide HW).2.kept hB)
  have HE' := hide ((unhide HW').2.kept hB)
  have A1 := hide a1
  have A2 := hide a2
  clear hb1 hB HW HW'
  by_cases h5 : rows = rows'
  case neg =>
    obtain rfl : r = false := by rw [← unhide HR]; exact decide_eq_false (fun e => h5 (by injection e))
    rw [decide_eq_false h5]
    clear a1 a2 h5
    go_wp2_with (fail)
    go_ret
    exact ⟨rfl, unhide HB⟩
  subst h5
  rw [decide_eq_true rfl]
  have c1 := (a1 2 _ rfl).1
  have d1 := (a2 2 _ rfl).1
  clear a1 a2
  go_wp2_with (fail)
  refine (sameEvI ev ev' evs evs' _ (unhide HE) (unhide HE') (unhide HF).2 (unhide HF').2).mono ?_
  rintro e w2 ⟨rfl, hb2⟩
  have HB2 := hide (below_trans (unhide HB) hb2)
  have a1 := (unhide A1).below hb2 (by omega)
  have a2 := (unhide A2).below hb2 (by omega)
  clear A1 A2 hb2 HB c1 d1
  by_cases h6 : evs = evs'
  case neg =>
    obtain rfl : r = false := by rw [← unhide HR]; exact decide_eq_false (fun e => h6 (by injection e))
    rw [decide_eq_false h6]
    clear a1 a2 h6
    go_wp2_with (fail)
    go_ret
    exact ⟨rfl, unhide HB2⟩
  subst h6
  rw [decide_eq_true rfl]
  have c3 := (a1 3 _ rfl).1
  have c4 := (a1 4 _ rfl).1
  have c5 := (a1 5 _ rfl).1
  have d3 := (a2 3 _ rfl).1
  have d4 := (a2 4 _ rfl).1
  have d5 := (a2 5 _ rfl).1
  clear a1 a2
  by_cases h2 : net = net'
  case neg =>
    have b2 : (net == net') = false := by simpa using h2
    obtain rfl : r = false := by rw [← unhide HR]; exact decide_eq_false (fun e => h2 (by injection e))
    clear h2
    go_wp2_with (fail)
    go_ret
    exact ⟨rfl, unhide HB2⟩
  subst h2
  have b2 : (net == net) = true := by simp
  by_cases h3 : tax = tax'
  case neg =>
    have b3 : (tax == tax') = false := by simpa using h3
    obtain rfl : r = false := by rw [← unhide HR]; exact decide_eq_false (fun e => h3 (by injection e))
    clear h3
    go_wp2_with (fail)
    go_ret
    exact ⟨rfl, unhide HB2⟩
  subst h3
  have b3 : (tax == tax) = true := by simp
  by_cases h4 : credit = credit'
  case neg =>
    have b4 : (credit == credit') = false := by simpa using h4
    obtain rfl : r = false := by rw [← unhide HR]; exact decide_eq_false (fun e => h4 (by injection e))
    clear h4
    go_wp2_with (fail)
    go_ret
    exact ⟨rfl, unhide HB2⟩
  subst h4
  have b4 : (credit == credit) = true := by simp
  obtain rfl : r = true := by rw [← unhide HR]; exact decide_eq_true rfl
  go_wp2_with (fail)
  go_ret
  exact ⟨rfl, unhide HB2⟩

abbrev sameF : Value := .func (.func 82) #[] #[]

set_option maxHeartbeats 1600000 in
theorem sameInvsI (v v' : Value) (l l' : List I) (w : World) (h : IR w v l) (h' : IR w v' l') (hf : FewIs l) (hf' : FewIs l') :
    Calls Try.prog 81 #[v, v', sameF] w fun e w' => e = .returned (.bool (decide (l = l'))) ∧ Below w.heap.size w w' := by
  obtain ⟨hl, hf⟩ := hf
  obtain ⟨hl', hf'⟩ := hf'
  have HF := hide hf
  have HF' := hide hf'
  clear hf hf'
  by_cases hn : l.length = l'.length
  · have hn1 : (((l.length : Int)) != (l.length : Int)) = false := by simp
    by_cases h0 : l.length = 0
    · obtain rfl : l = [] := List.length_eq_zero_iff.1 h0
      obtain rfl : l' = [] := List.length_eq_zero_iff.1 (by omega)
      obtain ⟨a, c, rfl⟩ := h.slice
      obtain ⟨a', c', rfl⟩ := h'.slice
      clear h h' h0 hl hl' hn hn1
      go_enter Try.func81, Try.ntmps81
      go_wp2
      refine wp_loop_rounds 1 ?_
      rw [rounds_succ]
      go_wp2
      go_ret
      exact ⟨rfl, Below.refl _ _⟩
    · rcases h with ⟨rfl, _⟩ | ⟨b, o, cap, rfl, hc⟩
      · simp at h0
      rcases h' with ⟨rfl, _⟩ | ⟨b', o', cap', hv', hc'⟩
      · simp at hn; simp [hn] at h0
      rw [← hn] at hv'
      subst hv'
      have HN0 := hide hn
      clear hn
      have HC := hide hc; have HC' := hide hc'
      clear hc hc' h0
      generalize hr : decide (l = l') = r
      have HR := hide hr
      clear hr
      go_enter Try.func81, Try.ntmps81
      go_wp2
      go_loopw [17] (fun i wr => ∃ k : Nat, k ≤ l.length ∧ i = .int .i64 k ∧ Hid (Below w.heap.size w wr) ∧ Hid (∀ j, j < k → l.getD j I0 = l'.getD j I0)) (fun i _ => l.length - (intOf i).toNat)
      case atStart => exact ⟨0, Nat.zero_le _, rfl, hide (Below.refl _ _), hide (fun j hj => by omega)⟩
      case round =>
        obtain ⟨k, hk, rfl, hb, he⟩ := hrel
        by_cases hlt : k < l.length
        · obtain ⟨rv, ew, ⟨c2, c3, c4, c5, c6, c7⟩, hw⟩ := ((unhide HC).kept (unhide hb)).2 k hlt
          obtain ⟨rv', ew', ⟨d2, d3, d4, d5, d6, d7⟩, hw'⟩ := ((unhide HC').kept (unhide hb)).2 k (by rw [← unhide HN0]; exact hlt)
          have z1 := ((unhide HC).kept (unhide hb)).1
          have z2 := ((unhide HC').kept (unhide hb)).1
          have HW := hide hw
          have HW' := hide hw'
          obtain ⟨ra, rc, rfl⟩ := hw.1.slice
          obtain ⟨ea, ec, rfl⟩ := hw.2.slice
          obtain ⟨ra', rc', rfl⟩ := hw'.1.slice
          obtain ⟨ea', ec', rfl⟩ := hw'.2.slice
          have HFk : Hid (FewI (l.getD k I0)) := hide (unhide HF _ (by simp [List.getD, hlt]))
          have HFk' : Hid (FewI (l'.getD k I0)) := hide (unhide HF' _ (by have := unhide HN0; simp [List.getD]; rw [List.getElem?_eq_getElem (by omega)]; simp))
          have HN : Hid (l.getD k I0 ≠ l'.getD k I0 → r = false) := hide (fun h => by rw [← unhide HR]; exact decide_eq_false (ne_at I0 h))
          have HM : Hid (l.getD k I0 = l'.getD k I0 → ∀ j, j < k + 1 → l.getD j I0 = l'.getD j I0) := hide (fun h j hj => by
            by_cases e : j = k
            · subst e; exact h
            · exact unhide he j (by omega))
          clear he hw hw'
          generalize l.getD k I0 = x at *
          generalize l'.getD k I0 = y at *
          generalize hd : decide (x = y) = d
          have HD := hide hd
          clear hd
          obtain ⟨no, rows, evs1, net, tax, credit⟩ := x
          obtain ⟨no', rows', evs2, net', tax', credit'⟩ := y
          simp only at c2 c5 c6 c7 d2 d5 d6 d7
          go_wp2_with (fail)
          refine (sameInvI ⟨no, rows, evs1, net, tax, credit⟩ ⟨no', rows', evs2, net', tax', credit'⟩ _ _ _ _ _ ((unhide HW).kept (below2 _ _ _)) ((unhide HW').kept (below2 _ _ _)) (unhide HFk) (unhide HFk')).mono ?_
          rintro e wz ⟨rfl, hb1⟩
          rw [unhide HD]
          have HBz := hide (below_trans (unhide hb) (Boxes.box2 hb1).2.2.1)
          clear hb1 hb c2 c3 c4 c5 c6 c7 d2 d3 d4 d5 d6 d7
          cases d with
          | false =>
            obtain rfl := unhide HN (of_decide_eq_false (unhide HD))
            go_wp2
            go_ret
            exact ⟨rfl, unhide HBz⟩
          | true =>
            have HM2 := hide (unhide HM (of_decide_eq_true (unhide HD)))
            clear HM HN HD
            go_wp2
            exact ⟨⟨k + 1, by omega, by go_num, HBz, HM2⟩, by simp [intOf]; omega⟩
        · obtain rfl : r = true := by
            rw [← unhide HR]
            exact decide_eq_true (same_of I0 (unhide HN0) (fun j hj => unhide he j (by omega)))
          obtain rfl : k = l.length := by omega
          go_wp2
          go_ret
          exact ⟨rfl, unhide hb⟩
  · have hn1 : (((l.length : Int)) != (l'.length : Int)) = true := by simp; omega
    obtain ⟨a, c, rfl⟩ := h.slice
    obtain ⟨a', c', rfl⟩ := h'.slice
    rw [decide_eq_false (fun e => hn (by rw [e]))]
    clear h h'
    go_enter Try.func81, Try.ntmps81
    go_wp2
    go_ret
    exact ⟨rfl, Below.refl _ _⟩

set_option maxHeartbeats 1600000 in
theorem sameI (v v' : Value) (x y : B) (w : World) (h : BV w v x) (h' : BV w v' y) (hf : FewB x) (hf' : FewB y) :
    Calls Try.prog 42 #[v, v'] w fun e w' => e = .returned (.bool (decide (x = y))) ∧ Below w.heap.size w w' := by
  obtain ⟨tv, ev, iv, rfl, ht, he, hi⟩ := h
  obtain ⟨tv', ev', iv', rfl, ht', he', hi'⟩ := h'
  have HT := hide ht
  have HE := hide he
  have HI := hide hi
  have HT' := hide ht'
  have HE' := hide he'
  have HI' := hide hi'
  have HF := hide hf
  have HF' := hide hf'
  clear ht he hi ht' he' hi' hf hf'
  generalize hr : decide (x = y) = r
  have HR := hide hr
  clear hr
  obtain ⟨tar, evs, invs, paid⟩ := x
  obtain ⟨tar', evs', invs', paid'⟩ := y
  simp only at HT HE HI HT' HE' HI'
  go_enter Try.func42, Try.ntmps42
  go_wp2_with (fail)
  refine (sameLinI tv tv' tar tar' _ ((unhide HT).kept (below2 _ _ _)) ((unhide HT').kept (below2 _ _ _)) (unhide HF).1 (unhide HF').1).mono ?_
  rintro e w1 ⟨rfl, hb1⟩
  obtain ⟨a1, a2, hB, hz⟩ := Boxes.box2 hb1
  have HB := hide hB
  have A1 := hide a1
  have A2 := hide a2
  clear hb1 hB
  by_cases h5 : tar = tar'
  case neg =>
    obtain rfl : r = false := by rw [← unhide HR]; exact decide_eq_false (fun e => h5 (by injection e))
    rw [decide_eq_false h5]
    clear a1 a2 h5
    go_wp2_with (fail)
    go_ret
    exact ⟨rfl, unhide HB⟩
  subst h5
  rw [decide_eq_true rfl]
  have c1 := (a1 1 _ rfl).1
  have d1 := (a2 1 _ rfl).1
  clear a1 a2
  go_wp2_with (fail)
  refine (sameEvI ev ev' evs evs' _ ((unhide HE).kept (unhide HB)) ((unhide HE').kept (unhide HB)) (unhide HF).2.1 (unhide HF').2.1).mono ?_
  rintro e w2 ⟨rfl, hb2⟩
  have HB2 := hide (below_trans (unhide HB) hb2)
  have a1 := (unhide A1).below hb2 (by omega)
  have a2 := (unhide A2).below hb2 (by omega)
  have hz2 : w.heap.size + 2 ≤ w2.heap.size := Nat.le_trans hz hb2.size
  clear A1 A2 hb2 HB c1 d1
  have A1 := hide a1
  have A2 := hide a2
  by_cases h6 : evs = evs'
  case neg =>
    obtain rfl : r = false := by rw [← unhide HR]; exact decide_eq_false (fun e => h6 (by injection e))
    rw [decide_eq_false h6]
    clear a1 a2 h6
    go_wp2_with (fail)
    go_ret
    exact ⟨rfl, unhide HB2⟩
  subst h6
  rw [decide_eq_true rfl]
  have c2 := (a1 2 _ rfl).1
  have d2 := (a2 2 _ rfl).1
  clear a1 a2
  go_wp2_with (fail)
  refine (sameInvsI iv iv' invs invs' _ ((unhide HI).kept (unhide HB2)) ((unhide HI').kept (unhide HB2)) (unhide HF).2.2 (unhide HF').2.2).mono ?_
  rintro e w3 ⟨rfl, hb3⟩
  have HB3 := hide (below_trans (unhide HB2) hb3)
  have a1 := (unhide A1).below hb3 (by omega)
  have a2 := (unhide A2).below hb3 (by omega)
  clear A1 A2 hb3 HB2 c2 d2
  by_cases h7 : invs = invs'
  case neg =>
    obtain rfl : r = false := by rw [← unhide HR]; exact decide_eq_false (fun e => h7 (by injection e))
    rw [decide_eq_false h7]
    clear a1 a2 h7
    go_wp2_with (fail)
    go_ret
    exact ⟨rfl, unhide HB3⟩
  subst h7
  rw [decide_eq_true rfl]
  have c3 := (a1 3 _ rfl).1
  have d3 := (a2 3 _ rfl).1
  clear a1 a2
  by_cases h1 : paid = paid'
  case neg =>
    have b1 : (paid == paid') = false := by simpa using h1
    obtain rfl : r = false := by rw [← unhide HR]; exact decide_eq_false (fun e => h1 (by injection e))
    clear h1
    go_wp2_with (fail)
    go_ret
    exact ⟨rfl, unhide HB3⟩
  subst h1
  have b1 : (paid == paid) = true := by simp
  obtain rfl : r = true := by rw [← unhide HR]; exact decide_eq_true rfl
  go_wp2_with (fail)
  go_ret
  exact ⟨rfl, unhide HB3⟩
end Go.Proofs.Ytdjjgoeinkbmjaa.Bills
