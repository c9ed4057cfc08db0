/-
  The law FnUseBack: a correction turns one event alone, and can be undone.
-/
import Derived.Test.YthhkjbhkginecaaDrawFx
import Derived.Test.YthhkjbhkginecaaFixM
namespace Go.Proofs.Ythhkjbhkginecaa.Evs
set_option linter.unusedVariables false
open Go.RowKit

set_option maxHeartbeats 800000 in
/-- wuSame, of the same -/
theorem wuSame (v v' : Value) (l : List E) (w : World) (h : ER w v l) (h' : ER w v' l) (hl : l.length ≤ 1048576) :
    Calls Try.prog 14 #[v, v'] w fun e w' => e = .returned (.bool true) ∧ Below w.heap.size w w' := by
  have hn : (((l.length : Int)) != (l.length : Int)) = false := by simp
  by_cases h0 : l.length = 0
  · obtain rfl : l = [] := List.length_eq_zero_iff.1 h0
    obtain ⟨a, c, rfl⟩ := h.slice
    obtain ⟨a', c', rfl⟩ := h'.slice
    clear h h' h0 hl hn
    go_enter Try.func14, Try.ntmps14
    go_wp2
    refine wp_loop_rounds 1 ?_
    rw [rounds_succ]
    go_wp2
    go_ret
    exact ⟨rfl, Below.refl _ _⟩
  · rcases h with ⟨rfl, _⟩ | ⟨b, o, cap, rfl, hc⟩
    · simp at h0
    rcases h' with ⟨rfl, _⟩ | ⟨b', o', cap', rfl, hc'⟩
    · simp at h0
    have HC := hide hc; have HC' := hide hc'
    clear hc hc' h0
    go_enter Try.func14, Try.ntmps14
    go_wp2
    go_loopw [5] (fun i wr => ∃ k : Nat, k ≤ l.length ∧ i = .int .i64 k ∧ Hid (Below w.heap.size w wr)) (fun i _ => l.length - (intOf i).toNat)
    case atStart => exact ⟨0, Nat.zero_le _, rfl, hide (Below.refl _ _)⟩
    case round =>
      obtain ⟨k, hk, rfl, hb⟩ := hrel
      by_cases hlt : k < l.length
      · obtain ⟨c0, c1, c2⟩ := ((unhide HC).kept (unhide hb)).2 k hlt
        obtain ⟨d0, d1, d2⟩ := ((unhide HC').kept (unhide hb)).2 k hlt
        have i1 : (0 : Int) ≤ (k : Int) := by omega
        have i2 : (k : Int) < (l.length : Int) := by omega
        generalize l.getD k E0 = x at *
        obtain ⟨s, m, q⟩ := x
        simp only at c0 c1 c2 d0 d1 d2
        go_wp2
        go_quiet (fail)
        go_wp2
        exact ⟨⟨k + 1, by omega, by go_num, hide (below_drewN' (unhide hb) _)⟩, by simp [intOf]; omega⟩
      · go_wp2
        go_ret
        exact ⟨rfl, unhide hb⟩

/-- what is counted and kept behind i events -/
def nAt (k i : Nat) : Int := if k < i then 1 else 0
def wAt (was : Int) (k i : Nat) : Int := if k < i then was else 0
theorem nAt_self (k : Nat) : nAt k k = 0 := if_neg (Nat.lt_irrefl k)
theorem nAt_hit {k i : Nat} (h : k < i) : nAt k i = 1 := if_pos h
theorem wAt_hit {was : Int} {k i : Nat} (h : k < i) : wAt was k i = was := if_pos h
theorem nAt_next {k i : Nat} (h : i ≠ k) : nAt k (i + 1) = nAt k i := by unfold nAt; split <;> split <;> omega
theorem wAt_next {was : Int} {k i : Nat} (h : i ≠ k) : wAt was k (i + 1) = wAt was k i := by unfold wAt; split <;> split <;> omega

set_option maxHeartbeats 4000000 in
set_option maxRecDepth 100000 in
theorem useBack (a0 : Option Addr) (len0 cap0 : Nat) (w : World) (hB : Draw.Bytes w a0 len0 cap0) :
    Calls Try.prog 7 #[.slice a0 len0 cap0] w fun e w' => e = .returned (.bool true) ∧ Below w.heap.size w w' := by
  by_cases hl : 1048576 < len0
  · go_enter Try.func7, Try.ntmps7
    go_wp2
    go_ret
    exact ⟨rfl, Below.refl _ _⟩
  go_enter Try.func7, Try.ntmps7
  go_wp2_with fail
  refine (Draw.drawFix a0 len0 cap0 w hB).mono ?_
  rintro e w1 ⟨v, id, q, rfl, l, hl25, hE, hgd, hid, hq, hb1⟩
  have E1 := hide hE
  have B1 := hide hb1
  have HS : Hid (∀ u ∈ l, u.1.size ≤ maxLen ∧ u.2.1.size ≤ maxLen) := hide (fun u hu => (hgd u hu).size)
  have hid' : id.size ≤ maxLen := by unfold Draw.isW9 at hid; unfold maxLen; omega
  clear hB hl hE hb1 hgd hid hq
  go_wp2_with fail
  refine (useFixI v l id q _ (unhide E1).er (by omega) (unhide HS) hid').mono ?_
  rintro e w2 ⟨gv, rfl, n2, hb2⟩
  have E2 := hide ((unhide E1).kept hb2)
  have N2 := hide n2
  have B2 := hide (below_trans (unhide B1) hb2)
  clear E1 n2 hb2 B1
  go_wp2_with fail
  refine (useFixS v l id q _ (unhide E2).er (by omega) (unhide HS)).mono ?_
  rintro e w3 ⟨sv, rfl, _, hb3⟩
  have E3 := hide ((unhide E2).kept hb3)
  have N3 := hide ((unhide N2).kept hb3)
  have B3 := hide (below_trans (unhide B2) hb3)
  clear E2 N2 hb3 B2
  have hx : (fixD l id q != fixD l id q) = false := by simp
  by_cases hD : fixD l id q = 0
  · obtain ⟨k, hk, m, was, hlk, hne, hO, hD2, hO2⟩ := fix_back hD
    rw [hD] at hx ⊢
    rw [hO] at N3
    have HLK := hide hlk
    have HD2 := hide hD2
    have HO2 := hide hO2
    clear hx hlk hD2 hO2 hO hD
    rcases (unhide E3) with ⟨rfl, _⟩ | ⟨g, cp, rfl, _, hO3⟩
    · simp at hk
    rcases (unhide N3) with ⟨h, _⟩ | ⟨g', cp', rfl, _, hM3⟩
    · have : (l.set k (id, m, q)).length = 0 := by rw [h]; rfl
      rw [List.length_set] at this; omega
    have C3 := hide hO3.1
    have M3 := hide hM3.1
    rw [List.length_set] at N3 ⊢
    clear hO3 hM3
    go_wp2
    go_loopw [10, 11, 12] (fun tw tn ti wr => ∃ i : Nat, i ≤ l.length ∧ ti = .int .i64 i ∧ tn = .int .i64 (nAt k i) ∧ tw = .int .i64 (wAt was k i) ∧ Hid (Below w3.heap.size w3 wr)) (fun _ _ i _ => l.length - (intOf i).toNat)
    case atStart => exact ⟨0, Nat.zero_le _, rfl, rfl, rfl, hide (Below.refl _ _)⟩
    case round =>
      obtain ⟨i, hi, rfl, rfl, rfl, hb⟩ := hrel
      by_cases hlt : i < l.length
      · obtain ⟨c0, c1, c2⟩ := ((unhide C3).kept (unhide hb)).2 i hlt
        obtain ⟨d0, d1, d2⟩ := ((unhide M3).kept (unhide hb)).2 i (by rw [List.length_set]; exact hlt)
        rw [Nat.zero_add] at c0 c1 c2 d0 d1 d2
        have i1 : (0 : Int) ≤ (i : Int) := by omega
        have i2 : (i : Int) < (l.length : Int) := by omega
        have i3 : ¬ (l.length : Int) ≤ (i : Int) := by omega
        by_cases hik : i = k
        · subst hik
          have g1 : l.getD i E0 = (id, m, was) := by rw [← unhide HLK]; simp [List.getD, hlt]
          have g2 : (l.set i (id, m, q)).getD i E0 = (id, m, q) := by simp [List.getD, hlt]
          rw [g1] at c0 c1 c2
          rw [g2] at d0 d1 d2
          simp only at c0 c1 c2 d0 d1 d2
          clear g1 g2
          have hqw : (q == was) = false := by simpa using fun e => hne e.symm
          have s1 : (!id.toList == id.toList) = false := by simp
          have s2 : (!m.toList == m.toList) = false := by simp
          rw [nAt_self i]
          go_wp2
          go_quiet (fail)
          go_wp2
          go_quiet (fail)
          go_wp2
          exact ⟨⟨i + 1, by omega, by go_num, by rw [nAt_hit (Nat.lt_succ_self i)], by rw [wAt_hit (Nat.lt_succ_self i)], hide (below_drewN' (unhide hb) _)⟩, by simp [intOf]; omega⟩
        · have g2 : (l.set k (id, m, q)).getD i E0 = l.getD i E0 := by simp [List.getD, List.getElem?_set_ne (fun e => hik e.symm)]
          rw [g2] at d0 d1 d2
          clear g2
          generalize l.getD i E0 = x at *
          obtain ⟨s, m', q'⟩ := x
          simp only at c0 c1 c2 d0 d1 d2
          have s1 : (!s.toList == s.toList) = false := by simp
          have s2 : (!m'.toList == m'.toList) = false := by simp
          go_wp2
          go_quiet (fail)
          go_wp2
          go_quiet (fail)
          go_wp2
          exact ⟨⟨i + 1, by omega, by go_num, by rw [nAt_next hik], by rw [wAt_next hik], hide (below_drewN' (unhide hb) _)⟩, by simp [intOf]; omega⟩
      · obtain rfl : i = l.length := by omega
        rw [nAt_hit hk, wAt_hit hk]
        have hm3 := ((unhide N3).kept (unhide hb)).er
        have B4 := hide (below_trans (unhide B3) (unhide hb))
        have C4 := hide ((unhide E3).kept (unhide hb))
        have hsz : Hid (∀ u ∈ l.set k (id, m, q), u.1.size ≤ maxLen ∧ u.2.1.size ≤ maxLen) := hide (fun u hu => by
          rcases List.mem_or_eq_of_mem_set hu with h1 | rfl
          · exact unhide HS u h1
          · have := unhide HS l[k] (List.getElem_mem hk)
            rw [unhide HLK] at this
            exact this)
        have HU := hide (useFixI _ (l.set k (id, m, q)) id was wr hm3 (by rw [List.length_set]; omega) (unhide hsz) hid')
        rw [unhide HD2, unhide HO2] at HU
        clear hm3
        go_wp2_with fail
        refine (unhide HU).mono ?_
        rintro e w5 ⟨yv, rfl, n5, hb5⟩
        have N5 := hide n5.er
        have C5 := hide ((unhide C4).kept hb5).er
        have B5 := hide (below_trans (unhide B4) hb5)
        clear n5 hb5
        go_wp2_with fail
        refine (wuSame _ _ l _ (unhide N5) (unhide C5) (by omega)).mono ?_
        rintro e w6 ⟨rfl, hb6⟩
        have B6 := hide (below_trans (unhide B5) hb6)
        clear hb6
        go_wp2
        go_ret
        exact ⟨rfl, unhide B6⟩
  · have hD0 : (fixD l id q != 0) = true := by simpa using hD
    have hD1 : (fixD l id q == fixD l id q) = true := by simp
    generalize fixD l id q = D at *
    go_wp2
    go_ret
    exact ⟨rfl, unhide B3⟩
end Go.Proofs.Ythhkjbhkginecaa.Evs
