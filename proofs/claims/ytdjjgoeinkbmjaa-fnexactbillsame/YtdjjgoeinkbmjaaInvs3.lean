/-
  Bills: the copy; invoices and bills compared with what they were.
-/
import Derived.Test.YtdjjgoeinkbmjaaInvs2
namespace Go.Proofs.Ytdjjgoeinkbmjaa.Bills
set_option linter.unusedVariables false
open Go.RowKit
open Evs (E E0 ER EN EC EOwn)
open BRow (R R0 RR RN RC ROwn)

set_option maxHeartbeats 1600000 in
theorem toBill (v : Value) (x : B) (w : World) (h : BV w v x) (hf : FewB x) :
    Calls Try.prog 41 #[v] w fun e w' => ∃ v', e = .returned v' ∧ BV w' v' x ∧ Below w.heap.size w w' := by
  obtain ⟨tv, ev, iv, rfl, ht, he, hi⟩ := h
  have HT := hide ht
  have HE := hide he
  have HI := hide hi
  have HF := hide hf
  clear ht he hi hf
  obtain ⟨tar, evs, invs, paid⟩ := x
  simp only at HT HE HI
  go_enter Try.func41, Try.ntmps41
  go_wp2_with (fail)
  refine (Evs.toLins tv tar _ ((unhide HT).kept (Boxes.below3 _ _ _ _)) (unhide HF).1).mono ?_
  rintro x w1 ⟨tv', rfl, ht', hb1⟩
  obtain ⟨a1, a2, a3, hB, hz⟩ := Boxes.box3 hb1
  have HT1 : Hid (EN (w.heap.size + 3) w1 tv' tar) := hide (ht'.low (by simp))
  obtain ⟨ta, tc, rfl⟩ := en_slice ht'
  have HB := hide hB
  have A2 := hide a2
  have A3 := hide a3
  have c1 := (a1 1 _ rfl).1
  have A1 := hide a1
  obtain ⟨o0, f0⟩ := a3 0 _ rfl
  clear hb1 hB ht' a1 a2 a3 HT
  go_wp2_with (fail)
  refine (Evs.toEvs ev evs _ ((unhide HE).kept ((unhide HB).setCell (p := ⟨w.heap.size + 1 + 1, 0, none⟩) (by simp; omega) _)) (unhide HF).2.1).mono ?_
  rintro x w2 ⟨ev', rfl, he', hb2⟩
  have HB2 : Hid (Below w.heap.size w w2) := hide (((unhide HB).setCell (p := ⟨w.heap.size + 1 + 1, 0, none⟩) (by simp; omega) _).trans (hb2.mono (by simp; omega)))
  have hz2 : w.heap.size + 3 ≤ w2.heap.size := by have := hb2.size; simp at this; omega
  have HT2 : Hid (EN (w.heap.size + 3) w2 (.slice ta tar.length tc) tar) := hide ((en_low (unhide HT1) (by omega)).kept hb2)
  have HE2 : Hid (EN (w.heap.size + 3) w2 ev' evs) := hide (he'.low (by simp; omega))
  have a1 := (Boxes.At.other (unhide A1) (g := w.heap.size + 1 + 1) (k := 0) (.slice ta tar.length tc) (by omega)).below hb2 (by simp; omega)
  have a2 := (Boxes.At.other (unhide A2) (g := w.heap.size + 1 + 1) (k := 0) (.slice ta tar.length tc) (by omega)).below hb2 (by simp; omega)
  have a3 := (Boxes.At.set (unhide A3) 0 (.slice ta tar.length tc)).below hb2 (by simp; omega)
  obtain ⟨ea, ec, rfl⟩ := en_slice he'
  clear c1 o0 f0 hb2 he' HB HT1 A1 A2 A3 HE
  have A1 := hide a1
  have A2 := hide a2
  have A3 := hide a3
  have c2 := (a1 2 _ rfl).1
  obtain ⟨o1, f1⟩ := a3 1 _ rfl
  clear a1 a2 a3
  go_wp2_with (fail)
  refine (toInvs iv invs _ ((unhide HI).kept ((unhide HB2).setCell (p := ⟨w.heap.size + 1 + 1, 1, none⟩) (by simp; omega) _)) (unhide HF).2.2).mono ?_
  rintro x w3 ⟨iv', rfl, hi', hb3⟩
  have HB3 : Hid (Below w.heap.size w w3) := hide (((unhide HB2).setCell (p := ⟨w.heap.size + 1 + 1, 1, none⟩) (by simp; omega) _).trans (hb3.mono (by simp; omega)))
  have hz3 : w.heap.size + 3 ≤ w3.heap.size := by have := hb3.size; simp at this; omega
  have HT3 : Hid (EN (w.heap.size + 3) w3 (.slice ta tar.length tc) tar) := hide ((en_low (unhide HT2) (by omega)).kept hb3)
  have HE3 : Hid (EN (w.heap.size + 3) w3 (.slice ea evs.length ec) evs) := hide ((en_low (unhide HE2) (by omega)).kept hb3)
  have HI3 : Hid (IN (w.heap.size + 3) w3 iv' invs) := hide (hi'.low (by simp; omega))
  have a1 := (Boxes.At.other (unhide A1) (g := w.heap.size + 1 + 1) (k := 1) (.slice ea evs.length ec) (by omega)).below hb3 (by simp; omega)
  have a2 := (Boxes.At.other (unhide A2) (g := w.heap.size + 1 + 1) (k := 1) (.slice ea evs.length ec) (by omega)).below hb3 (by simp; omega)
  have a3 := (Boxes.At.set (unhide A3) 1 (.slice ea evs.length ec)).below hb3 (by simp; omega)
  obtain ⟨ia, ic, rfl⟩ := in_slice hi'
  clear c2 o1 f1 hb3 hi' HB2 HT2 HE2 A1 A2 A3 HI HF
  have c3 := (a1 3 _ rfl).1
  obtain ⟨o0, f0⟩ := a3 0 _ rfl
  obtain ⟨o1, f1⟩ := a3 1 _ rfl
  obtain ⟨o2, f2⟩ := a3 2 _ rfl
  obtain ⟨o3, f3⟩ := a3 3 _ rfl
  obtain ⟨p0, q0⟩ := a2 0 _ rfl
  obtain ⟨p1, q1⟩ := a2 1 _ rfl
  obtain ⟨p2, q2⟩ := a2 2 _ rfl
  obtain ⟨p3, q3⟩ := a2 3 _ rfl
  clear a1 a2 a3
  go_wp2_with (fail)
  refine bodyPost_ret (v := .agg #[.slice ta tar.length tc, .slice ea evs.length ec, .slice ia invs.length ic, .int .i64 paid]) (by simp [results, Try.results41, go_sem, p0, p1, p2, p3]) rfl ⟨_, rfl, ⟨_, _, _, rfl, ?_, ?_, ?_⟩, ?_⟩
  · refine EN.er (B := w.heap.size + 3) ?_
    iterate 6 refine en_low ?_ (by omega)
    exact unhide HT3
  · refine EN.er (B := w.heap.size + 3) ?_
    iterate 6 refine en_low ?_ (by omega)
    exact unhide HE3
  · refine IN.ir (B := w.heap.size + 3) ?_
    iterate 6 refine in_low ?_ (by omega)
    exact unhide HI3
  · iterate 6 refine Below.setCell ?_ (by simp; try omega) _
    exact unhide HB3

/-! ### compared with what they were -/
set_option maxHeartbeats 1600000 in
theorem eqInv (x : I) (rv ev rv' ev' : Value) (w : World) (h : IW w rv ev x) (h' : IW w rv' ev' x) (hf : FewI x) :
    Calls Try.prog 112 #[iV x rv ev, iV x rv' ev'] w fun e w' => e = .returned (.bool true) ∧ Below w.heap.size w w' := by
  have HW := hide h
  have HW' := hide h'
  have HF := hide hf
  clear h h' hf
  obtain ⟨no, rows, evs, net, tax, credit⟩ := x
  have n1 : (no != no) = false := by simp
  have n2 : (net != net) = false := by simp
  have n3 : (tax != tax) = false := by simp
  have n4 : (credit != credit) = false := by simp
  go_enter Try.func112, Try.ntmps112
  go_wp2_with (fail)
  refine (BRow.eqRows rv rv' rows _ ((unhide HW).1.kept (((Below.refl _ _).alloc (Nat.le_refl _) _).alloc (by simp) _)) ((unhide HW').1.kept (((Below.refl _ _).alloc (Nat.le_refl _) _).alloc (by simp) _)) (unhide HF).1).mono ?_
  rintro x w1 ⟨rfl, hb1⟩
  obtain ⟨a1, a2, hB, hz⟩ := Boxes.box2 hb1
  have HE := hide ((unhide HW).2.kept hB)
  have HE' := hide ((unhide HW').2.kept hB)
  have HB := hide hB
  have c2 := (a1 2 _ rfl).1
  have d2 := (a2 2 _ rfl).1
  have A1 := hide a1
  have A2 := hide a2
  clear hb1 hB a1 a2 HW HW'
  go_wp2_with (fail)
  refine (Evs.eqEvs ev ev' evs _ (unhide HE) (unhide HE') (unhide HF).2).mono ?_
  rintro x w2 ⟨rfl, hb2⟩
  have HB2 := hide (below_trans (unhide HB) hb2)
  have a1 := (unhide A1).below hb2 (by omega)
  have a2 := (unhide A2).below hb2 (by omega)
  clear c2 d2 hb2 HB A1 A2 HE HE'
  have c3 := (a1 3 _ rfl).1
  have c4 := (a1 4 _ rfl).1
  have c5 := (a1 5 _ rfl).1
  have d3 := (a2 3 _ rfl).1
  have d4 := (a2 4 _ rfl).1
  have d5 := (a2 5 _ rfl).1
  clear a1 a2
  go_wp2_with (fail)
  go_ret
  exact ⟨rfl, unhide HB2⟩

theorem below_of_drew {B : Nat} {a w : World} (h : Below B a.drew w) : Below B a w := ⟨h.os, h.tape, h.output, h.size, h.block⟩
theorem IW.drew {W : World} {rv ev : Value} {x : I} (h : IW W rv ev x) : IW W.drew rv ev x := h.kept ⟨rfl, rfl, rfl, Nat.le_refl _, fun _ _ => rfl⟩

set_option maxHeartbeats 1600000 in
theorem eqInvs (v v' : Value) (l : List I) (w : World) (h : IR w v l) (h' : IR w v' l) (hf : FewIs l) :
    Calls Try.prog 84 #[v, v'] w fun e w' => e = .returned (.bool true) ∧ Below w.heap.size w w' := by
  obtain ⟨hl, hf⟩ := hf
  have HF := hide hf
  clear hf
  have hn : (((l.length : Int)) != (l.length : Int)) = false := by simp
  by_cases h0 : l.length = 0
  · obtain rfl : l = [] := List.length_eq_zero_iff.1 h0
    obtain ⟨a, c, rfl⟩ := h.slice
    obtain ⟨a', c', rfl⟩ := h'.slice
    clear h h' h0 hl hn
    go_enter Try.func84, Try.ntmps84
    go_wp2
    refine wp_loop_rounds 1 ?_
    rw [rounds_succ]
    go_wp2
    go_ret
    exact ⟨rfl, Below.refl _ _⟩
  · rcases h with ⟨rfl, _⟩ | ⟨b, o, cap, rfl, hc⟩
    · simp at h0
    rcases h' with ⟨rfl, _⟩ | ⟨b', o', cap', rfl, hc'⟩
    · simp at h0
    have HC := hide hc; have HC' := hide hc'
    have hbs := hc.1
    have hbs' := hc'.1
    clear hc hc' h0
    go_enter Try.func84, Try.ntmps84
    go_wp2
    go_loopw [5] (fun i wr => ∃ k : Nat, k ≤ l.length ∧ i = .int .i64 k ∧ Hid (Below w.heap.size w wr)) (fun i _ => l.length - (intOf i).toNat)
    case atStart => exact ⟨0, Nat.zero_le _, rfl, hide (Below.refl _ _)⟩
    case round =>
      obtain ⟨k, hk, rfl, hb⟩ := hrel
      by_cases hlt : k < l.length
      · obtain ⟨rv, ev, ⟨c0, c1, c2, c3, c4, c5⟩, hw⟩ := ((unhide HC).kept (unhide hb)).2 k hlt
        obtain ⟨rv', ev', ⟨d0, d1, d2, d3, d4, d5⟩, hw'⟩ := ((unhide HC').kept (unhide hb)).2 k hlt
        have i1 : (0 : Int) ≤ (k : Int) := by omega
        have i2 : (k : Int) < (l.length : Int) := by omega
        have z1 : b < wr.heap.size := Nat.lt_of_lt_of_le hbs (unhide hb).size
        have z2 : b' < wr.heap.size := Nat.lt_of_lt_of_le hbs' (unhide hb).size
        have HW := hide hw.drew
        have HW' := hide hw'.drew
        have HFk : Hid (FewI (l.getD k I0)) := hide (unhide HF _ (by simp [List.getD, hlt]))
        clear hw hw'
        generalize l.getD k I0 = x at *
        obtain ⟨no, rows, evs, net, tax, credit⟩ := x
        simp only at c0 c3 c4 c5 d0 d3 d4 d5
        go_wp2
        go_region_held3 (fun w2 => w2.cell? ⟨b, o + k * 6, none⟩ = some (.int .i64 no) ∧ w2.cell? ⟨b, o + k * 6 + 1, none⟩ = some rv ∧ w2.cell? ⟨b, o + k * 6 + 2, none⟩ = some ev ∧ w2.cell? ⟨b, o + k * 6 + 3, none⟩ = some (.int .i64 net) ∧ w2.cell? ⟨b, o + k * 6 + 4, none⟩ = some (.int .i64 tax) ∧ w2.cell? ⟨b, o + k * 6 + 5, none⟩ = some (.int .i64 credit) ∧ w2.cell? ⟨b', o' + k * 6, none⟩ = some (.int .i64 no) ∧ w2.cell? ⟨b', o' + k * 6 + 1, none⟩ = some rv' ∧ w2.cell? ⟨b', o' + k * 6 + 2, none⟩ = some ev' ∧ w2.cell? ⟨b', o' + k * 6 + 3, none⟩ = some (.int .i64 net) ∧ w2.cell? ⟨b', o' + k * 6 + 4, none⟩ = some (.int .i64 tax) ∧ w2.cell? ⟨b', o' + k * 6 + 5, none⟩ = some (.int .i64 credit)) (go_keep) (first | (go_at_call 112; refine (eqInv ⟨no, rows, evs, net, tax, credit⟩ rv ev rv' ev' _ (unhide HW) (unhide HW') (unhide HFk)).mono ?_; rintro e w1 ⟨rfl, hb1⟩; have q0 := hb1.cell (p := ⟨b, o + k * 6, none⟩) z1; have r0 := hb1.cell (p := ⟨b', o' + k * 6, none⟩) z2; have q1 := hb1.cell (p := ⟨b, o + k * 6 + 1, none⟩) z1; have r1 := hb1.cell (p := ⟨b', o' + k * 6 + 1, none⟩) z2; have q2 := hb1.cell (p := ⟨b, o + k * 6 + 2, none⟩) z1; have r2 := hb1.cell (p := ⟨b', o' + k * 6 + 2, none⟩) z2; have q3 := hb1.cell (p := ⟨b, o + k * 6 + 3, none⟩) z1; have r3 := hb1.cell (p := ⟨b', o' + k * 6 + 3, none⟩) z2; have q4 := hb1.cell (p := ⟨b, o + k * 6 + 4, none⟩) z1; have r4 := hb1.cell (p := ⟨b', o' + k * 6 + 4, none⟩) z2; have q5 := hb1.cell (p := ⟨b, o + k * 6 + 5, none⟩) z1; have r5 := hb1.cell (p := ⟨b', o' + k * 6 + 5, none⟩) z2))
        have HB : Hid (Below w.heap.size w w1) := hide (below_trans (unhide hb) (below_of_drew hb1))
        clear hb1 hb q0 q1 q2 q3 q4 q5 r0 r1 r2 r3 r4 r5
        go_wp2
        exact ⟨⟨k + 1, by omega, by go_num, HB⟩, by simp [intOf]; omega⟩
      · go_wp2
        go_ret
        exact ⟨rfl, unhide hb⟩

set_option maxHeartbeats 1600000 in
theorem eqBill (v v' : Value) (x : B) (w : World) (h : BV w v x) (h' : BV w v' x) (hf : FewB x) :
    Calls Try.prog 43 #[v, v'] w fun e w' => e = .returned (.bool true) ∧ Below w.heap.size w w' := by
  obtain ⟨tv, ev, iv, rfl, ht, he, hi⟩ := h
  obtain ⟨tv', ev', iv', rfl, ht', he', hi'⟩ := h'
  have HT := hide ht
  have HE := hide he
  have HI := hide hi
  have HT' := hide ht'
  have HE' := hide he'
  have HI' := hide hi'
  have HF := hide hf
  clear ht he hi ht' he' hi' hf
  obtain ⟨tar, evs, invs, paid⟩ := x
  simp only at HT HE HI HT' HE' HI'
  have n1 : (paid != paid) = false := by simp
  go_enter Try.func43, Try.ntmps43
  go_wp2_with (fail)
  refine (Evs.eqLins tv tv' tar _ ((unhide HT).kept (((Below.refl _ _).alloc (Nat.le_refl _) _).alloc (by simp) _)) ((unhide HT').kept (((Below.refl _ _).alloc (Nat.le_refl _) _).alloc (by simp) _)) (unhide HF).1).mono ?_
  rintro x w1 ⟨rfl, hb1⟩
  obtain ⟨a1, a2, hB, hz⟩ := Boxes.box2 hb1
  have HB := hide hB
  have c1 := (a1 1 _ rfl).1
  have d1 := (a2 1 _ rfl).1
  have A1 := hide a1
  have A2 := hide a2
  clear hb1 hB a1 a2 HT HT'
  go_wp2_with (fail)
  refine (Evs.eqEvs ev ev' evs _ ((unhide HE).kept (unhide HB)) ((unhide HE').kept (unhide HB)) (unhide HF).2.1).mono ?_
  rintro x w2 ⟨rfl, hb2⟩
  have HB2 := hide (below_trans (unhide HB) hb2)
  have a1 := (unhide A1).below hb2 (by omega)
  have a2 := (unhide A2).below hb2 (by omega)
  have hz2 : w.heap.size + 2 ≤ w2.heap.size := Nat.le_trans hz hb2.size
  clear c1 d1 hb2 HB A1 A2 HE HE'
  have c2 := (a1 2 _ rfl).1
  have d2 := (a2 2 _ rfl).1
  have A1 := hide a1
  have A2 := hide a2
  clear a1 a2
  go_wp2_with (fail)
  refine (eqInvs iv iv' invs _ ((unhide HI).kept (unhide HB2)) ((unhide HI').kept (unhide HB2)) (unhide HF).2.2).mono ?_
  rintro x w3 ⟨rfl, hb3⟩
  have HB3 := hide (below_trans (unhide HB2) hb3)
  have a1 := (unhide A1).below hb3 (by omega)
  have a2 := (unhide A2).below hb3 (by omega)
  clear c2 d2 hb3 HB2 A1 A2 HI HI'
  have c3 := (a1 3 _ rfl).1
  have d3 := (a2 3 _ rfl).1
  clear a1 a2
  go_wp2_with (fail)
  go_ret
  exact ⟨rfl, unhide HB3⟩
end Go.Proofs.Ytdjjgoeinkbmjaa.Bills
