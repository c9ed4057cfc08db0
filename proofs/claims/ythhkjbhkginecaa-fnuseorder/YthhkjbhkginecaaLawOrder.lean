/-
  The law FnUseOrder: events put in their order, and the other way round, come to the same.
-/
import Derived.Test.YthhkjbhkginecaaDrawOk
import Derived.Test.YthhkjbhkginecaaOrdM
import Derived.Test.YthhkjbhkginecaaLawBack
namespace Go.Proofs.Ythhkjbhkginecaa.Evs
set_option linter.unusedVariables false
open Go.RowKit Go.Maps MapM

theorem putO_len' {l : List E} {e : E} : (putO l e).length ≤ l.length + 1 := Draw.putO_len
/-- of a set in which a name is one event's -/
def InA (A acc : List E) : Prop := ∀ u ∈ acc, u ∈ A
theorem out_of {W W' : World} {B : Nat} {v : Value} {l : List E} (h : EN W.heap.size W' v l) (hB : B ≤ W.heap.size) : EN B W' v l := h.low hB

set_option maxHeartbeats 16000000 in
set_option maxRecDepth 100000 in
theorem useOrder (a0 : Option Addr) (len0 cap0 : Nat) (a1 : Option Addr) (len1 cap1 : Nat) (w : World) (hB : Draw.Bytes w a0 len0 cap0) (hC : Draw.Bytes w a1 len1 cap1) :
    Calls Try.prog 5 #[.slice a0 len0 cap0, .slice a1 len1 cap1] w fun e w' => e = .returned (.bool true) ∧ Below w.heap.size w w' := by
  by_cases hl : 1048576 < len0
  · go_enter Try.func5, Try.ntmps5
    go_wp2
    go_ret
    exact ⟨rfl, Below.refl _ _⟩
  by_cases hl1 : 1048576 < len1
  · go_enter Try.func5, Try.ntmps5
    go_wp2
    go_ret
    exact ⟨rfl, Below.refl _ _⟩
  go_enter Try.func5, Try.ntmps5
  go_wp2_with fail
  refine (Draw.drawOk a0 len0 cap0 w hB).mono ?_
  rintro x w1 ⟨v1, rfl, l1, n1, hE1, hg1, hb1⟩
  have E1 := hide hE1
  have B1 := hide hb1
  have C1 := hide (hC.kept hb1)
  clear hB hC hl hl1 hE1 hb1
  go_wp2_with fail
  refine (Draw.drawSums a1 len1 cap1 _ (unhide C1)).mono ?_
  rintro x w2 ⟨v2, rfl, l2, n2, hE2, hg2, hb2⟩
  have E2 := hide ((unhide E1).kept hb2)
  have F2 := hide (hE2.low (unhide B1).size)
  have B2 := hide (below_trans (unhide B1) hb2)
  have HG : Hid (∀ u ∈ l1 ++ l2, Draw.goodE u) := hide (fun u hu => by
    rcases List.mem_append.1 hu with h | h
    · exact hg1 u h
    · exact hg2 u h)
  clear E1 B1 C1 hE2 hb2 hg1 hg2
  have X2 := hide (XO.made w2 w.heap.size (unhide B2).size 31 rfl)
  have ba := (Below.refl w2.heap.size w2).alloc (Nat.le_refl _) (.cells #[] 31)
  have E3 := hide ((unhide E2).er.kept ba)
  have B3 := hide (below_trans (unhide B2) ba)
  have z2 := (unhide B2).size
  go_wp2_with (first
    | (at_builtin; refine listAppE _ rfl _ _ rfl w.heap.size b4 k4 l1.length ([] ++ l1) l2 _ (by simp) rfl (unhide X4) rfl (unhide F4) (by simp; omega) (unhide B4).size ?_; intro b5 k5 w5 hx5 hg5 hat5 hlt5; have X5 := hide hx5; have B5 := hide (grown_below (unhide B4) hg5 (unhide X4).own.1); have K5 := hide ((unhide K4).grown hg5 (by simpa using (unhide K4).size) (fun j hj => by cases hj; exact hb4)); clear hx5 hg5 hat5 hlt5)
    | (at_builtin; refine listAppE _ rfl _ _ rfl w.heap.size w2.heap.size 0 0 [] l1 _ rfl rfl (unhide X2) rfl (unhide E3) (by simp; omega) (unhide B3).size ?_; intro b4 k4 w4 hx4 hg4 hat4 hlt4; have X4 := hide hx4; have B4 := hide (grown_below (unhide B3) hg4 z2); have K4 := hide (ba.grown hg4 (by simp) (fun j hj => by cases hj; exact Nat.le_refl _)); have hb4 : w2.heap.size ≤ b4 := (by simp at hat4; omega); have F4 := hide ((unhide F2).er.kept (unhide K4)); clear hx4 hg4 hat4 hlt4)
    | fail)
  rw [List.nil_append] at X5
  have HA := hide (unhide X5).own.2.1
  have E5 := hide ((unhide E2).kept (unhide K5))
  have F5 := hide ((unhide F2).kept (unhide K5))
  have hN : (l1 ++ l2).length = l1.length + l2.length := List.length_append
  have HMA : Hid (∀ u, u ∈ l1 ++ l2 ↔ u ∈ l1 ∨ u ∈ l2) := hide (fun u => List.mem_append)
  generalize l1 ++ l2 = A at *
  generalize hNN : l1.length + l2.length = N at *
  have hNs : N ≤ 50 := by omega
  have hAl := hN
  have HAL := hide hAl
  clear E2 F2 B2 X2 ba E3 B3 X4 B4 K4 F4 X5 K5 hN
  go_loopw [8] (fun t8 wr => ∃ i : Nat, i ≤ N ∧ t8 = .int .i64 i ∧ Hid (∀ x y, x < i → y < x → (A.getD x E0).1 = (A.getD y E0).1 → A.getD x E0 = A.getD y E0) ∧ Hid (Below w5.heap.size w5 wr)) (fun t8 _ => N - (intOf t8).toNat)
  case atStart => exact ⟨0, Nat.zero_le _, rfl, hide (fun x y h => by omega), hide (Below.refl _ _)⟩
  case round =>
    obtain ⟨i, hi, rfl, hal, hb⟩ := hrel
    by_cases hlt : i < N
    · have i1 : (0 : Int) ≤ (i : Int) := by omega
      have i2 : (i : Int) < (N : Int) := by omega
      go_wp2
      go_loopw [9] (fun t9 wr2 => ∃ j : Nat, j ≤ i ∧ t9 = .int .i64 j ∧ Hid (∀ y, y < j → (A.getD i E0).1 = (A.getD y E0).1 → A.getD i E0 = A.getD y E0) ∧ Hid (Below w5.heap.size w5 wr2)) (fun t9 _ => i - (intOf t9).toNat)
      case atStart => exact ⟨0, Nat.zero_le _, rfl, hide (fun y h => by omega), hb⟩
      case round =>
        obtain ⟨j, hj, rfl, hin, hb2⟩ := hrel
        clear hb
        by_cases hji : j < i
        · have j1 : (0 : Int) ≤ (j : Int) := by omega
          have j2 : (j : Int) < (N : Int) := by omega
          have j3 : (j : Int) < (i : Int) := by omega
          obtain ⟨c0, c1, c2⟩ := ((unhide HA).kept (unhide hb2)).2 i (by omega)
          obtain ⟨d0, d1, d2⟩ := ((unhide HA).kept (unhide hb2)).2 j (by omega)
          rw [Nat.zero_add] at c0 c1 c2 d0 d1 d2
          have hnx : Hid ((A.getD i E0).1 = (A.getD j E0).1 → A.getD i E0 = A.getD j E0 → True) := hide (fun _ _ => trivial)
          by_cases hid : (A.getD i E0).1 = (A.getD j E0).1
          · by_cases hall : A.getD i E0 = A.getD j E0
            · have hin2 : Hid (∀ y, y < j + 1 → (A.getD i E0).1 = (A.getD y E0).1 → A.getD i E0 = A.getD y E0) := hide (fun y hy he => by
                by_cases e : y = j
                · subst e; exact hall
                · exact unhide hin y (by omega) he)
              rw [hall] at c0 c1 c2
              clear hin hid hall hnx
              generalize A.getD j E0 = x at *
              obtain ⟨s, m, q⟩ := x
              simp only at c0 c1 c2 d0 d1 d2
              have ss : (s.toList == s.toList) = true := by simp
              go_wp2
              go_quiet (fail)
              go_wp2
              exact ⟨⟨j + 1, by omega, by go_num, hin2, hide (below_drewN' (unhide hb2) _)⟩, by simp [intOf]; omega⟩
            · have hx : A.getD i E0 ≠ A.getD j E0 := hall
              clear hnx hin
              generalize A.getD i E0 = x at *
              generalize A.getD j E0 = y at *
              obtain ⟨s, m, q⟩ := x
              obtain ⟨s', m', q'⟩ := y
              simp only at c0 c1 c2 d0 d1 d2 hid
              subst hid
              have ss : (s.toList == s.toList) = true := by simp
              by_cases hm : m = m'
              · subst hm
                have hq : q ≠ q' := fun e => hx (by rw [e])
                have hqb : (q == q') = false := by simpa using hq
                clear hx hall
                go_wp2
                go_quiet (fail)
                go_wp2
                go_ret
                exact ⟨rfl, below_drewN' (below_trans (unhide B5) (unhide hb2)) _⟩
              · have hmb : (m.toList == m'.toList) = false := by
                  rw [beq_eq_false_iff_ne]; intro e; exact hm (ext_toList e)
                clear hx hall
                go_wp2
                go_quiet (fail)
                go_wp2
                go_ret
                exact ⟨rfl, below_drewN' (below_trans (unhide B5) (unhide hb2)) _⟩
          · have hin2 : Hid (∀ y, y < j + 1 → (A.getD i E0).1 = (A.getD y E0).1 → A.getD i E0 = A.getD y E0) := hide (fun y hy he => by
              by_cases e : y = j
              · subst e; exact absurd he hid
              · exact unhide hin y (by omega) he)
            have ss : ((A.getD i E0).1.toList == (A.getD j E0).1.toList) = false := by
              rw [beq_eq_false_iff_ne]; intro e; exact hid (ext_toList e)
            clear hin hid hnx
            generalize A.getD i E0 = x at *
            generalize A.getD j E0 = y at *
            obtain ⟨s, m, q⟩ := x
            obtain ⟨s', m', q'⟩ := y
            simp only at c0 c1 c2 d0 d1 d2 ss
            go_wp2
            go_quiet (fail)
            go_wp2
            exact ⟨⟨j + 1, by omega, by go_num, hin2, hide (below_drewN' (unhide hb2) _)⟩, by simp [intOf]; omega⟩
        · obtain rfl : j = i := by omega
          have hal2 : Hid (∀ x y, x < j + 1 → y < x → (A.getD x E0).1 = (A.getD y E0).1 → A.getD x E0 = A.getD y E0) := hide (fun x y hx hy he => by
            by_cases e : x = j
            · subst e; exact unhide hin y hy he
            · exact unhide hal x y (by omega) hy he)
          clear hal hin
          go_wp2
          exact ⟨⟨j + 1, by omega, by go_num, hal2, hb2⟩, by simp [intOf]; omega⟩
    · obtain rfl : i = N := by omega
      have HCO := hide (alike_of (unhide HAL).symm (unhide hal))
      clear hal
      have HS : Hid (∀ u ∈ A, u.1.size ≤ maxLen ∧ u.2.1.size ≤ maxLen) := hide (fun u hu => (unhide HG u hu).size)
      have HS1 : Hid (∀ u ∈ l1, u.1.size ≤ maxLen ∧ u.2.1.size ≤ maxLen) := hide (fun u hu => unhide HS u ((unhide HMA u).2 (.inl hu)))
      have HS2 : Hid (∀ u ∈ l2, u.1.size ≤ maxLen ∧ u.2.1.size ≤ maxLen) := hide (fun u hu => unhide HS u ((unhide HMA u).2 (.inr hu)))
      have E6 := hide ((unhide E5).kept (unhide hb))
      have F6 := hide ((unhide F5).kept (unhide hb))
      have A6 := hide ((unhide HA).kept (unhide hb))
      have B6 := hide (below_trans (unhide B5) (unhide hb))
      have hNN' := hide hNN
      clear E5 F5 HA B5 hb hAl hNN HG
      by_cases h20 : (20 : Int) < (i : Int)
      · go_wp2_with fail
        refine (okI v1 l1 _ (unhide E6).er (by omega) (unhide HS1)).mono ?_
        rintro x wa ⟨rfl, hba⟩
        have Ea := hide ((unhide E6).kept hba)
        have Ba := hide (below_trans (unhide B6) hba)
        clear hba
        go_wp2_with fail
        refine (okS v1 l1 _ (unhide Ea).er (by omega) (unhide HS1)).mono ?_
        rintro x wb ⟨rfl, hbb⟩
        have Bb := hide (below_trans (unhide Ba) hbb)
        have hee : (okB l1 == okB l1) = true := by simp
        clear hbb
        go_wp2
        go_ret
        exact ⟨rfl, unhide Bb⟩
      go_wp2_with fail
      refine (okS v1 l1 _ (unhide E6).er (by omega) (unhide HS1)).mono ?_
      rintro x w7 ⟨rfl, hb7⟩
      have E7 := hide ((unhide E6).kept hb7)
      have F7 := hide ((unhide F6).kept hb7)
      have A7 := hide ((unhide A6).kept hb7)
      have B7 := hide (below_trans (unhide B6) hb7)
      clear E6 F6 A6 B6 hb7
      cases hok1 : okB l1 with
      | false =>
        go_wp2_with fail
        refine (okI v1 l1 _ (unhide E7).er (by omega) (unhide HS1)).mono ?_
        rintro x wa ⟨rfl, hba⟩
        have Ea := hide ((unhide E7).kept hba)
        have Ba := hide (below_trans (unhide B7) hba)
        clear hba
        go_wp2_with fail
        refine (okS v1 l1 _ (unhide Ea).er (by omega) (unhide HS1)).mono ?_
        rintro x wb ⟨rfl, hbb⟩
        have Bb := hide (below_trans (unhide Ba) hbb)
        have hee : (okB l1 == okB l1) = true := by simp
        clear hbb
        go_wp2
        go_ret
        exact ⟨rfl, unhide Bb⟩
      | true =>
        go_wp2_with fail
        refine (okS v2 l2 _ (unhide F7).er (by omega) (unhide HS2)).mono ?_
        rintro x w8 ⟨rfl, hb8⟩
        have E8 := hide ((unhide E7).kept hb8)
        have F8 := hide ((unhide F7).kept hb8)
        have A8 := hide ((unhide A7).kept hb8)
        have B8 := hide (below_trans (unhide B7) hb8)
        clear E7 F7 A7 B7 hb8
        cases hok2 : okB l2 with
        | false =>
          go_wp2_with fail
          refine (okI v1 l1 _ (unhide E8).er (by omega) (unhide HS1)).mono ?_
          rintro x wa ⟨rfl, hba⟩
          have Ea := hide ((unhide E8).kept hba)
          have Ba := hide (below_trans (unhide B8) hba)
          clear hba
          go_wp2_with fail
          refine (okS v1 l1 _ (unhide Ea).er (by omega) (unhide HS1)).mono ?_
          rintro x wb ⟨rfl, hbb⟩
          have Bb := hide (below_trans (unhide Ba) hbb)
          have hee : (okB l1 == okB l1) = true := by simp
          clear hbb
          go_wp2
          go_ret
          exact ⟨rfl, unhide Bb⟩
        | true =>
          have HR : Hid (∀ u ∈ A, rightE u = true) := hide (fun u hu => by
            rcases (unhide HMA u).1 hu with h | h
            · exact okB_mem hok1 u h
            · exact okB_mem hok2 u h)
          have h00 : okB [] = true := okB_of (by simp) (fun u hu => by simp at hu) (by simp [Asc])
          have hbx := ((Below.refl w8.heap.size w8).alloc (Nat.le_refl _) (.cells #[] 31)).alloc (by simp) (.cells #[] 31)
          have zz8 := (unhide B8).size
          go_wp2_with fail
          go_loopw [10, 11, 12] (fun ta tb ti wr2 => ∃ (k : Nat) (P Q : List E), k ≤ i ∧ ti = .int .i64 k ∧ Hid (EN w.heap.size wr2 ta P) ∧ Hid (EN w.heap.size wr2 tb Q) ∧ (okB P = true ∧ okB Q = true) ∧ (P.length ≤ k ∧ Q.length ≤ k) ∧ Hid (∀ u, u ∈ P ↔ u ∈ A.take k) ∧ Hid (∀ u, u ∈ Q ↔ u ∈ A.drop (i - k)) ∧ Hid (Below w8.heap.size w8 wr2)) (fun _ _ ti _ => i - (intOf ti).toNat)
          case atStart => exact ⟨0, [], [], Nat.zero_le _, rfl, hide (.inl ⟨rfl, _, _, rfl⟩), hide (.inl ⟨rfl, _, _, rfl⟩), ⟨h00, h00⟩, ⟨Nat.le_refl _, Nat.le_refl _⟩, hide (fun u => by simp), hide (fun u => by rw [Nat.sub_zero, ← unhide HAL, List.drop_length]), hide hbx⟩
          case round =>
            obtain ⟨k, P, Q, hk, rfl, hP, hQ, ⟨okP, okQ⟩, ⟨lP, lQ⟩, mP, mQ, hb2⟩ := hrel
            by_cases hlt2 : k < i
            · have i1 : (0 : Int) ≤ (k : Int) := by omega
              have i2 : (k : Int) < (i : Int) := by omega
              have j1 : (0 : Int) ≤ (i : Int) - 1 - (k : Int) := by omega
              have j2 : (i : Int) - 1 - (k : Int) < (i : Int) := by omega
              have htn : ((i : Int) - 1 - (k : Int)).toNat = i - 1 - k := by omega
              have hkA : k < A.length := by rw [unhide HAL]; exact hlt2
              have hkB : i - 1 - k < A.length := by rw [unhide HAL]; omega
              have gx : A.getD k E0 ∈ A := by simp [List.getD, hkA]
              have gy : A.getD (i - 1 - k) E0 ∈ A := by simp [List.getD, hkB]
              obtain ⟨sx1, sx2⟩ := unhide HS _ gx
              obtain ⟨sy1, sy2⟩ := unhide HS _ gy
              have HPA : Hid (∀ u ∈ P, u ∈ A) := hide (fun u hu => List.mem_of_mem_take ((unhide mP u).1 hu))
              have HQA : Hid (∀ u ∈ Q, u ∈ A) := hide (fun u hu => List.mem_of_mem_drop ((unhide mQ u).1 hu))
              obtain ⟨okP2, mP2⟩ := put_step okP (unhide HR _ gx) (fun u hu he => unhide HCO u (unhide HPA u hu) _ gx he) (by omega)
              obtain ⟨okQ2, mQ2⟩ := put_step okQ (unhide HR _ gy) (fun u hu he => unhide HCO u (unhide HQA u hu) _ gy he) (by omega)
              have MP : Hid (∀ u, u ∈ putO P (A.getD k E0) ↔ u ∈ A.take (k + 1)) := hide (fun u => by rw [mP2, unhide mP, takeE_step hkA])
              have MQ : Hid (∀ u, u ∈ putO Q (A.getD (i - 1 - k) E0) ↔ u ∈ A.drop (i - (k + 1))) := hide (fun u => by
                have e1 : i - (k + 1) = i - 1 - k := by omega
                have e2 : i - 1 - k + 1 = i - k := by omega
                rw [mQ2, unhide mQ, e1, dropE_step hkB, e2])
              have lP2 : (putO P (A.getD k E0)).length ≤ k + 1 := Nat.le_trans putO_len' (by omega)
              have lQ2 : (putO Q (A.getD (i - 1 - k) E0)).length ≤ k + 1 := Nat.le_trans putO_len' (by omega)
              obtain ⟨c0, c1, c2⟩ := ((unhide A8).kept (unhide hb2)).2 k hkA
              have HCB : Hid (∀ W, Below w8.heap.size w8 W → W.cell? ⟨b5, (i - 1 - k) * 3, none⟩ = some (.string (A.getD (i - 1 - k) E0).1) ∧ W.cell? ⟨b5, (i - 1 - k) * 3 + 1, none⟩ = some (.string (A.getD (i - 1 - k) E0).2.1) ∧ W.cell? ⟨b5, (i - 1 - k) * 3 + 2, none⟩ = some (.int .i64 (A.getD (i - 1 - k) E0).2.2)) := hide (fun W hW => by
                have := ((unhide A8).kept hW).2 (i - 1 - k) hkB
                rw [Nat.zero_add] at this
                exact this)
              rw [Nat.zero_add] at c0 c1 c2
              have HU1 := hide (usePutI _ P (A.getD k E0) wr (unhide hP).er (by omega) (fun u hu => unhide HS u (unhide HPA u hu)) sx1 sx2)
              have HU2 : Hid (∀ W u, ER W u Q → Calls Try.prog 12 #[u, eV (A.getD (i - 1 - k) E0)] W fun x w' => ∃ v', x = .returned (.tuple #[v', .int .i64 (putD Q (A.getD (i - 1 - k) E0))]) ∧ EN W.heap.size w' v' (putO Q (A.getD (i - 1 - k) E0)) ∧ Below W.heap.size W w') := hide (fun W u hu => usePutI u Q _ W hu (by omega) (fun u hu => unhide HS u (unhide HQA u hu)) sy1 sy2)
              clear mP mQ mP2 mQ2 gx gy
              generalize putO P (A.getD k E0) = P2 at *
              generalize putD P (A.getD k E0) = DP at *
              generalize putO Q (A.getD (i - 1 - k) E0) = Q2 at *
              generalize putD Q (A.getD (i - 1 - k) E0) = DQ at *
              generalize A.getD k E0 = x at *
              generalize A.getD (i - 1 - k) E0 = y at *
              obtain ⟨s, m, q⟩ := x
              obtain ⟨s', m', q'⟩ := y
              dsimp only at c0 c1 c2 HCB HU1 HU2
              have zb := (unhide hb2).size
              go_wp2_with fail
              refine (unhide HU1).mono ?_
              rintro x w9 ⟨pv, rfl, n9, hb9⟩
              have P9 := hide (n9.low (Nat.le_trans zz8 zb))
              have Q9 := hide ((unhide hQ).kept hb9)
              have K9 := hide (below_trans (unhide hb2) hb9)
              obtain ⟨d0, d1, d2⟩ := unhide HCB _ (unhide K9)
              clear n9 hb9 hP hQ HU1 c0 c1 c2
              have zb9 := (unhide K9).size
              go_wp2_with fail
              refine (unhide HU2 _ _ (unhide Q9).er).mono ?_
              rintro x w10 ⟨qv, rfl, n10, hb10⟩
              have Q10 := hide (n10.low (Nat.le_trans zz8 zb9))
              have P10 := hide ((unhide P9).kept hb10)
              have K10 := hide (below_trans (unhide K9) hb10)
              clear n10 hb10 P9 Q9 HU2
              go_wp2
              exact ⟨⟨k + 1, P2, Q2, by omega, by go_num, P10, Q10, ⟨okP2, okQ2⟩, ⟨lP2, lQ2⟩, MP, MQ, K10⟩, by simp [intOf]; omega⟩
            · obtain rfl : k = i := by omega
              have hPA : ∀ u, u ∈ P ↔ u ∈ A := fun u => by rw [unhide mP, ← unhide HAL, List.take_length]
              have hQA : ∀ u, u ∈ Q ↔ u ∈ A := fun u => by rw [unhide mQ, Nat.sub_self, List.drop_zero]
              have hPQ : P = Q := asc_ext (okB_asc okP) (okB_asc okQ) (fun u => by rw [hPA, hQA])
              subst hPQ
              have HPA := hide hPA
              have hl1 : l1.length + l2.length ≤ 20 := by have := unhide hNN'; omega
              have E9 := hide ((unhide E8).kept (unhide hb2))
              clear mP mQ hPA hQA okQ lQ
              rcases (unhide F8) with ⟨hl2, va, vc, rfl⟩ | ⟨gb, vc, rfl, _, hO⟩
              · have hP1 : P = l1 := asc_ext (okB_asc okP) (okB_asc hok1) (fun u => by rw [unhide HPA, unhide HMA, hl2]; simp)
                subst hP1
                have PP := hP
                have QQ := hQ
                have CC := E9
                have BB := hide (below_trans (unhide B8) (unhide hb2))
                clear hl2
                go_wp2
                refine wp_loop_rounds 1 ?_
                rw [rounds_succ]
                go_wp2_with fail
                refine (wuSame _ _ P _ (unhide PP).er (unhide QQ).er (by omega)).mono ?_
                rintro x wc ⟨rfl, hbc⟩
                have PP2 := hide ((unhide PP).kept hbc)
                have CC2 := hide ((unhide CC).kept hbc)
                have BB2 := hide (below_trans (unhide BB) hbc)
                clear hbc
                go_wp2_with fail
                refine (wuSame _ _ P _ (unhide PP2).er (unhide CC2).er (by omega)).mono ?_
                rintro x wd ⟨rfl, hbd⟩
                have BB3 := hide (below_trans (unhide BB2) hbd)
                clear hbd
                go_wp2
                go_ret
                exact ⟨rfl, unhide BB3⟩
              · have A9 := hide hO.1
                clear hO
                go_wp2_with fail
                go_loopw [13, 14] (fun tc ti wr3 => ∃ (j : Nat) (C : List E), j ≤ l2.length ∧ ti = .int .i64 j ∧ Hid (EN w.heap.size wr3 tc C) ∧ okB C = true ∧ C.length ≤ l1.length + j ∧ Hid (∀ u, u ∈ C ↔ u ∈ l1 ∨ u ∈ l2.take j) ∧ Hid (Below wr.heap.size wr wr3)) (fun _ ti _ => l2.length - (intOf ti).toNat)
                case atStart => exact ⟨0, l1, Nat.zero_le _, rfl, E9, hok1, Nat.le_refl _, hide (fun u => by simp), hide (Below.refl _ _)⟩
                case round =>
                  obtain ⟨j, C, hj, rfl, hC, okC, lC, mC, hb3⟩ := hrel
                  by_cases hlt3 : j < l2.length
                  · have i1 : (0 : Int) ≤ (j : Int) := by omega
                    have i2 : (j : Int) < (l2.length : Int) := by omega
                    have gx2 : l2.getD j E0 ∈ l2 := by simp [List.getD, hlt3]
                    have gx : l2.getD j E0 ∈ A := (unhide HMA _).2 (.inr gx2)
                    obtain ⟨sx1, sx2⟩ := unhide HS _ gx
                    have HCA : Hid (∀ u ∈ C, u ∈ A) := hide (fun u hu => (unhide HMA u).2 (by
                      rcases (unhide mC u).1 hu with h | h
                      · exact .inl h
                      · exact .inr (List.mem_of_mem_take h)))
                    obtain ⟨okC2, mC2⟩ := put_step okC (unhide HR _ gx) (fun u hu he => unhide HCO u (unhide HCA u hu) _ gx he) (by omega)
                    have MC : Hid (∀ u, u ∈ putO C (l2.getD j E0) ↔ u ∈ l1 ∨ u ∈ l2.take (j + 1)) := hide (fun u => by rw [mC2, unhide mC, takeE_step hlt3, or_assoc])
                    have lC2 : (putO C (l2.getD j E0)).length ≤ l1.length + (j + 1) := Nat.le_trans putO_len' (by omega)
                    obtain ⟨c0, c1, c2⟩ := (((unhide A9).kept (unhide hb2)).kept (unhide hb3)).2 j hlt3
                    rw [Nat.zero_add] at c0 c1 c2
                    have HU := hide (usePutS _ C (l2.getD j E0) wr (unhide hC).er (by omega) (fun u hu => unhide HS u (unhide HCA u hu)) sx1 sx2 (unhide hC).cap)
                    have zb := Nat.le_trans zz8 (Nat.le_trans (unhide hb2).size (unhide hb3).size)
                    clear mC mC2 gx gx2
                    generalize putO C (l2.getD j E0) = C2 at *
                    generalize putD C (l2.getD j E0) = DC at *
                    generalize l2.getD j E0 = x at *
                    obtain ⟨s, m, q⟩ := x
                    dsimp only at c0 c1 c2 HU
                    go_wp2_with fail
                    refine (unhide HU).mono ?_
                    rintro x w9 ⟨cv, rfl, n9, hb9⟩
                    have C9 := hide (n9.low zb)
                    have K9 := hide (below_trans (unhide hb3) hb9)
                    clear n9 hb9 hC HU c0 c1 c2
                    go_wp2
                    exact ⟨⟨j + 1, C2, by omega, by go_num, C9, okC2, lC2, MC, K9⟩, by simp [intOf]; omega⟩
                  · obtain rfl : j = l2.length := by omega
                    have hCP : C = P := asc_ext (okB_asc okC) (okB_asc okP) (fun u => by rw [unhide mC, unhide HPA, unhide HMA, List.take_length])
                    subst hCP
                    have PP := hide ((unhide hP).kept (unhide hb3))
                    have QQ := hide ((unhide hQ).kept (unhide hb3))
                    have CC := hC
                    have BB := hide (below_trans (unhide B8) (below_trans (unhide hb2) (unhide hb3)))
                    go_wp2_with fail
                    refine (wuSame _ _ C _ (unhide PP).er (unhide QQ).er (by omega)).mono ?_
                    rintro x wc ⟨rfl, hbc⟩
                    have PP2 := hide ((unhide PP).kept hbc)
                    have CC2 := hide ((unhide CC).kept hbc)
                    have BB2 := hide (below_trans (unhide BB) hbc)
                    clear hbc
                    go_wp2_with fail
                    refine (wuSame _ _ C _ (unhide PP2).er (unhide CC2).er (by omega)).mono ?_
                    rintro x wd ⟨rfl, hbd⟩
                    have BB3 := hide (below_trans (unhide BB2) hbd)
                    clear hbd
                    go_wp2
                    go_ret
                    exact ⟨rfl, unhide BB3⟩
end Go.Proofs.Ythhkjbhkginecaa.Evs
