/-
  FnChainClash.
-/
import Derived.Test.YtgaflnkefjmblaaDrawCk
import Derived.Test.YtgaflnkefjmblaaClashM
import Derived.Test.YtgaflnkefjmblaaClashI
namespace Go.Proofs.Ytgaflnkefjmblaa.Chain
set_option linter.unusedVariables false
open Go.RowKit
open Txt (S0 TC TR waSm txt_eq txt_ne)
open Draw (Bytes drawClash IsTx IsTf)

theorem headT {l : List ByteArray} {W : World} {B g c : Nat} (h : Ints.Own W B g c (headsF l)) {n i : Nat} (hn : cnt l = n) (hi : i ≤ n) : W.cell? ⟨g, i, none⟩ = some (.int .i64 (hdK l i)) := by
  subst hn
  have := h.at_ (j := i) (by rw [headsF_len]; omega)
  rwa [headsF_at l hi] at this
theorem mixQ (k : Int) (s : ByteArray) (w : World) (hs : s.size ≤ 100000000) : Calls Try.prog 18 #[.int .i64 k, .string s] w fun e w' => e = .returned (.int .i64 (mixT k s)) ∧ w' = w := mixI k s w hs

set_option maxRecDepth 100000 in
set_option maxHeartbeats 8000000 in
theorem lawClashF (a : Option Addr) (len cap : Nat) (w : World) (h : Bytes w a len cap) :
    Calls Try.prog 3 #[.slice a len cap] w fun e w' => e = .returned (.bool true) ∧ Below w.heap.size w w' := by
  have HB := hide h
  obtain ⟨l1, l2, l3⟩ := h
  clear l3
  by_cases hbig : 1048576 < len
  · go_enter Try.func3, Try.ntmps3
    go_wp2
    go_ret
    exact ⟨rfl, Below.refl _ _⟩
  go_enter Try.func3, Try.ntmps3
  go_wp2_with fail
  refine (drawClash a len cap w (unhide HB)).mono ?_
  rintro e w1 ⟨va, vb, A, B, rfl, ta, tb, iA, iB, ⟨xa, ca, rfl⟩, ⟨xb, cb, rfl⟩, hb1⟩
  have TA := hide ta
  have TB := hide tb
  have lA := iA.1
  have lB := iB.1
  have ZA : Hid (∀ u ∈ A, u.size ≤ 100000000) := hide (fun u hu => by have := iA.2 u hu; omega)
  have ZB : Hid (∀ u ∈ B, u.size ≤ 100000000) := hide (fun u hu => by have := iB.2 u hu; omega)
  have MA : Hid (A.length ≤ maxLen) := hide (by unfold maxLen; omega)
  have MB : Hid (B.length ≤ maxLen) := hide (by unfold maxLen; omega)
  have CA := hide (cnt_all (A := A) (by omega))
  have CB := hide (cnt_all (A := B) (by omega))
  clear ta tb iA iB HB
  by_cases hAB : A = B
  · have hC : clashF A B = (0, 0, false) := by rw [← hAB]; exact clash_self (by omega)
    have hH : headF A = headF B := by rw [hAB]
    have hdec : decide (A = B) = true := decide_eq_true hAB
    have HAB := hide hAB
    clear hAB
    have HCI := hide (fun W (ha : TR W (.slice xa A.length ca) A) (hb : TR W (.slice xb B.length cb) B) => clashI _ _ A B W ha hb (unhide MA) (unhide MB) (unhide ZA) (unhide ZB))
    have HCS := hide (fun W (ha : TR W (.slice xa A.length ca) A) (hb : TR W (.slice xb B.length cb) B) => clashS _ _ A B W ha hb (unhide MA) (unhide MB) (unhide ZA) (unhide ZB))
    rw [hC] at HCI HCS
    clear hC
    go_wp2_with fail
    refine (unhide HCI _ (unhide TA) (unhide TB)).mono ?_
    rintro e w2 ⟨rfl, b2⟩
    have TA2 := hide ((unhide TA).kept b2)
    have TB2 := hide ((unhide TB).kept b2)
    have hb2 := below_trans hb1 b2
    clear TA TB b2 hb1 HCI
    go_wp2_with fail
    refine (unhide HCS _ (unhide TA2) (unhide TB2)).mono ?_
    rintro e w3 ⟨rfl, b3⟩
    have TA3 := hide ((unhide TA2).kept b3)
    have TB3 := hide ((unhide TB2).kept b3)
    have hb3 := below_trans hb2 b3
    clear TA2 TB2 b3 hb2 HCS
    go_wp2_with fail
    refine (headsI _ A w3 (unhide TA3) (unhide MA) (unhide ZA)).mono ?_
    rintro e w4 ⟨gx, cx, rfl, ox, b4⟩
    rw [unhide CA]
    have TA4 := hide ((unhide TA3).kept b4)
    have TB4 := hide ((unhide TB3).kept b4)
    have OX4 := hide ox
    have hb4 := below_trans hb3 b4
    clear TA3 TB3 b4 hb3 ox
    go_wp2_with fail
    refine (headsI _ B w4 (unhide TB4) (unhide MB) (unhide ZB)).mono ?_
    rintro e w5 ⟨gy, cy, rfl, oy, b5⟩
    rw [unhide CB]
    have TA5 := hide ((unhide TA4).kept b5)
    have TB5 := hide ((unhide TB4).kept b5)
    have OX5 := hide ((unhide OX4).below b5)
    have OY5 := hide oy
    have hb5 := below_trans hb4 b5
    clear TA4 TB4 b5 hb4 oy OX4
    go_wp2_with fail
    refine (headI _ A w5 (unhide TA5) (unhide MA) (unhide ZA)).mono ?_
    rintro e w6 ⟨rfl, b6⟩
    have TA6 := hide ((unhide TA5).kept b6)
    have TB6 := hide ((unhide TB5).kept b6)
    have OX6 := hide ((unhide OX5).below b6)
    have OY6 := hide ((unhide OY5).below b6)
    have hb6 := below_trans hb5 b6
    clear TA5 TB5 b6 hb5 OX5 OY5
    go_wp2_with fail
    refine (headI _ B w6 (unhide TB6) (unhide MB) (unhide ZB)).mono ?_
    rintro e w7 ⟨rfl, b7⟩
    have TA7 := hide ((unhide TA6).kept b7)
    have TB7 := hide ((unhide TB6).kept b7)
    have OX7 := hide ((unhide OX6).below b7)
    have OY7 := hide ((unhide OY6).below b7)
    have hb7 := below_trans hb6 b7
    clear TA6 TB6 b7 hb6 OX6 OY6
    go_wp2_with fail
    refine (waSm _ _ A B w7 (unhide TA7) (unhide TB7) (unhide MA) (unhide MB)).mono ?_
    rintro e w8 ⟨rfl, nd, rfl⟩
    have bd : Below w7.heap.size w7 (w7.drewN nd) := ⟨rfl, rfl, rfl, Nat.le_refl _, fun _ _ => rfl⟩
    have TA8 := hide ((unhide TA7).kept bd)
    have TB8 := hide ((unhide TB7).kept bd)
    have OX8 := hide ((unhide OX7).below bd)
    have OY8 := hide ((unhide OY7).below bd)
    have hb8 := below_trans hb7 bd
    clear TA7 TB7 bd hb7 OX7 OY7
    generalize w7.drewN nd = w8 at *
    rw [hdec]
    go_wp2
    go_ret
    exact ⟨rfl, hb8⟩
  have hdec : decide (A = B) = false := decide_eq_false hAB
  by_cases hH : headF A = headF B
  · obtain ⟨p, q, hC, hp, hq, hpq, hun⟩ := clash_true (A := A) (B := B) (by omega) (by omega) hH hAB
    have HUN := hide hun
    have HPQ := hide hpq
    clear hun hpq hAB
    have hp' : (p : Int) ≤ (A.length : Int) := by omega
    have hq' : (q : Int) ≤ (B.length : Int) := by omega
    have HCI := hide (fun W (ha : TR W (.slice xa A.length ca) A) (hb : TR W (.slice xb B.length cb) B) => clashI _ _ A B W ha hb (unhide MA) (unhide MB) (unhide ZA) (unhide ZB))
    have HCS := hide (fun W (ha : TR W (.slice xa A.length ca) A) (hb : TR W (.slice xb B.length cb) B) => clashS _ _ A B W ha hb (unhide MA) (unhide MB) (unhide ZA) (unhide ZB))
    rw [hC] at HCI HCS
    clear hC
    go_wp2_with fail
    refine (unhide HCI _ (unhide TA) (unhide TB)).mono ?_
    rintro e w2 ⟨rfl, b2⟩
    have TA2 := hide ((unhide TA).kept b2)
    have TB2 := hide ((unhide TB).kept b2)
    have hb2 := below_trans hb1 b2
    clear TA TB b2 hb1 HCI
    go_wp2_with fail
    refine (unhide HCS _ (unhide TA2) (unhide TB2)).mono ?_
    rintro e w3 ⟨rfl, b3⟩
    have TA3 := hide ((unhide TA2).kept b3)
    have TB3 := hide ((unhide TB2).kept b3)
    have hb3 := below_trans hb2 b3
    clear TA2 TB2 b3 hb2 HCS
    go_wp2_with fail
    refine (headsI _ A w3 (unhide TA3) (unhide MA) (unhide ZA)).mono ?_
    rintro e w4 ⟨gx, cx, rfl, ox, b4⟩
    rw [unhide CA]
    have TA4 := hide ((unhide TA3).kept b4)
    have TB4 := hide ((unhide TB3).kept b4)
    have OX4 := hide ox
    have hb4 := below_trans hb3 b4
    clear TA3 TB3 b4 hb3 ox
    go_wp2_with fail
    refine (headsI _ B w4 (unhide TB4) (unhide MB) (unhide ZB)).mono ?_
    rintro e w5 ⟨gy, cy, rfl, oy, b5⟩
    rw [unhide CB]
    have TA5 := hide ((unhide TA4).kept b5)
    have TB5 := hide ((unhide TB4).kept b5)
    have OX5 := hide ((unhide OX4).below b5)
    have OY5 := hide oy
    have hb5 := below_trans hb4 b5
    clear TA4 TB4 b5 hb4 oy OX4
    go_wp2_with fail
    refine (headI _ A w5 (unhide TA5) (unhide MA) (unhide ZA)).mono ?_
    rintro e w6 ⟨rfl, b6⟩
    have TA6 := hide ((unhide TA5).kept b6)
    have TB6 := hide ((unhide TB5).kept b6)
    have OX6 := hide ((unhide OX5).below b6)
    have OY6 := hide ((unhide OY5).below b6)
    have hb6 := below_trans hb5 b6
    clear TA5 TB5 b6 hb5 OX5 OY5
    go_wp2_with fail
    refine (headI _ B w6 (unhide TB6) (unhide MB) (unhide ZB)).mono ?_
    rintro e w7 ⟨rfl, b7⟩
    have TA7 := hide ((unhide TA6).kept b7)
    have TB7 := hide ((unhide TB6).kept b7)
    have OX7 := hide ((unhide OX6).below b7)
    have OY7 := hide ((unhide OY6).below b7)
    have hb7 := below_trans hb6 b7
    clear TA6 TB6 b7 hb6 OX6 OY6
    go_wp2_with fail
    refine (waSm _ _ A B w7 (unhide TA7) (unhide TB7) (unhide MA) (unhide MB)).mono ?_
    rintro e w8 ⟨rfl, nd, rfl⟩
    have bd : Below w7.heap.size w7 (w7.drewN nd) := ⟨rfl, rfl, rfl, Nat.le_refl _, fun _ _ => rfl⟩
    have TA8 := hide ((unhide TA7).kept bd)
    have TB8 := hide ((unhide TB7).kept bd)
    have OX8 := hide ((unhide OX7).below bd)
    have OY8 := hide ((unhide OY7).below bd)
    have hb8 := below_trans hb7 bd
    clear TA7 TB7 bd hb7 OX7 OY7
    generalize w7.drewN nd = w8 at *
    rw [hdec]
    by_cases hpq0 : 0 < p ∧ 0 < q
    · obtain ⟨p0, q0⟩ := hpq0
      obtain ⟨i, rfl⟩ : ∃ k, p = k + 1 := ⟨p - 1, by omega⟩
      obtain ⟨j, rfl⟩ : ∃ k, q = k + 1 := ⟨q - 1, by omega⟩
      obtain ⟨ba, oa, rfl, ta⟩ := at_text (unhide TA8) (i := i) (by omega)
      obtain ⟨bb, ob, rfl, tb⟩ := at_text (unhide TB8) (i := j) (by omega)
      have h1 := headT (unhide OX8) (unhide CA) (i := i) (by omega)
      have h2 := headT (unhide OY8) (unhide CB) (i := j) (by omega)
      have s1 := hdK_succ (l := A) (k := i) (by omega)
      have s2 := hdK_succ (l := B) (k := j) (by omega)
      have HMM : mixT (hdK A i) (A.getD i S0) = mixT (hdK B j) (B.getD j S0) := by rw [← s1, ← s2]; exact unhide HPQ
      have hun := unhide HUN i j rfl rfl
      have za : (A.getD i S0).size ≤ 100000000 := unhide ZA _ (by simp [List.getD, show i < A.length by omega])
      have zb : (B.getD j S0).size ≤ 100000000 := unhide ZB _ (by simp [List.getD, show j < B.length by omega])
      have HM1 : Hid (∀ (h : Int) (s : ByteArray) (W : World), (h = hdK A i ∧ s = A.getD i S0) ∨ (h = hdK B j ∧ s = B.getD j S0) → Calls Try.prog 18 #[.int .i64 h, .string s] W fun e w' => e = .returned (.int .i64 (mixT (hdK B j) (B.getD j S0))) ∧ w' = W) := hide (by
        intro h s W hc
        rcases hc with ⟨rfl, rfl⟩ | ⟨rfl, rfl⟩
        · rw [← HMM]; exact mixQ _ _ W za
        · exact mixQ _ _ W zb)
      clear s1 s2 HPQ HUN TA8 TB8 OX8 OY8 za zb
      generalize mixT (hdK B j) (B.getD j S0) = mx at *
      generalize A.getD i S0 = x at *
      generalize B.getD j S0 = y at *
      generalize hdK A i = hx at *
      generalize hdK B j = hy at *
      have i1 : (0 : Int) ≤ (i : Int) := by omega
      have i2 : (i : Int) < (A.length : Int) := by omega
      have j1 : (0 : Int) ≤ (j : Int) := by omega
      have j2 : (j : Int) < (B.length : Int) := by omega
      have i3 : (i : Int) < (A.length : Int) + 1 := by omega
      have j3 : (j : Int) < (B.length : Int) + 1 := by omega
      have ip : (0 : Int) < (i : Int) + 1 := by omega
      have jp : (0 : Int) < (j : Int) + 1 := by omega
      clear HMM p0 q0 hp hq
      by_cases ex : x = y
      · have ex' := txt_eq ex
        have eh : hx ≠ hy := fun e => hun ⟨ex, e⟩
        have eh' : (hx != hy) = true := by simpa using eh
        clear ex eh hun
        go_wp2
        go_quiet (fail)
        have ta9 : (w8.drewN nq).cell? ⟨ba, oa + i, none⟩ = some (.string x) := ta
        have tb9 : (w8.drewN nq).cell? ⟨bb, ob + j, none⟩ = some (.string y) := tb
        have h19 : (w8.drewN nq).cell? ⟨gx, i, none⟩ = some (.int .i64 hx) := h1
        have h29 : (w8.drewN nq).cell? ⟨gy, j, none⟩ = some (.int .i64 hy) := h2
        have hb9 := drew_b hb8 nq
        clear ta tb h1 h2 hb8
        generalize w8.drewN nq = w9 at *
        go_wp2
        go_quiet ((go_at_call 18; exact Calls.quiet_of_same (unhide HM1 _ _ _ (by first | exact .inl ⟨rfl, rfl⟩ | exact .inr ⟨rfl, rfl⟩))))
        go_wp2
        go_ret
        exact ⟨rfl, by repeat (first | exact hb9 | refine drew_b ?_ _)⟩
      · have ex' := txt_ne ex
        clear ex hun
        go_wp2
        go_quiet (fail)
        have ta9 : (w8.drewN nq).cell? ⟨ba, oa + i, none⟩ = some (.string x) := ta
        have tb9 : (w8.drewN nq).cell? ⟨bb, ob + j, none⟩ = some (.string y) := tb
        have h19 : (w8.drewN nq).cell? ⟨gx, i, none⟩ = some (.int .i64 hx) := h1
        have h29 : (w8.drewN nq).cell? ⟨gy, j, none⟩ = some (.int .i64 hy) := h2
        have hb9 := drew_b hb8 nq
        clear ta tb h1 h2 hb8
        generalize w8.drewN nq = w9 at *
        go_wp2
        go_quiet ((go_at_call 18; exact Calls.quiet_of_same (unhide HM1 _ _ _ (by first | exact .inl ⟨rfl, rfl⟩ | exact .inr ⟨rfl, rfl⟩))))
        go_wp2
        go_ret
        exact ⟨rfl, by repeat (first | exact hb9 | refine drew_b ?_ _)⟩
    · have h1 := headT (unhide OX8) (unhide CA) (i := p) (by omega)
      have h2 := headT (unhide OY8) (unhide CB) (i := q) (by omega)
      have h27 : hdK A p = 27182 := by
        rcases (show p = 0 ∨ q = 0 by omega) with h | h
        · rw [h]; rfl
        · rw [unhide HPQ, h]; rfl
      rw [← unhide HPQ, h27] at h2
      rw [h27] at h1
      clear HPQ HUN TA8 TB8 OX8 OY8 h27
      have i1 : (0 : Int) ≤ (p : Int) := by omega
      have i3 : (p : Int) < (A.length : Int) + 1 := by omega
      have j1 : (0 : Int) ≤ (q : Int) := by omega
      have j3 : (q : Int) < (B.length : Int) + 1 := by omega
      by_cases p0 : p = 0
      · subst p0
        clear hpq0 hp hq
        go_wp2
        go_quiet (fail)
        go_wp2
        go_ret
        exact ⟨rfl, by repeat (first | exact hb8 | refine drew_b ?_ _)⟩
      · obtain rfl : q = 0 := by omega
        have ip : (0 : Int) < (p : Int) := by omega
        clear hpq0 hp hq
        go_wp2
        go_quiet (fail)
        go_wp2
        go_ret
        exact ⟨rfl, by repeat (first | exact hb8 | refine drew_b ?_ _)⟩
  · have hC : clashF A B = (0, 0, false) := clash_no (.inr (.inr hH))
    have hne : (headF A == headF B) = false := by simpa using hH
    have hck : checkF B (headF A) = false := by unfold checkF; rw [decide_eq_false (fun h => hH h.2.symm)]
    clear hAB
    have HCI := hide (fun W (ha : TR W (.slice xa A.length ca) A) (hb : TR W (.slice xb B.length cb) B) => clashI _ _ A B W ha hb (unhide MA) (unhide MB) (unhide ZA) (unhide ZB))
    have HCS := hide (fun W (ha : TR W (.slice xa A.length ca) A) (hb : TR W (.slice xb B.length cb) B) => clashS _ _ A B W ha hb (unhide MA) (unhide MB) (unhide ZA) (unhide ZB))
    rw [hC] at HCI HCS
    clear hC
    go_wp2_with fail
    refine (unhide HCI _ (unhide TA) (unhide TB)).mono ?_
    rintro e w2 ⟨rfl, b2⟩
    have TA2 := hide ((unhide TA).kept b2)
    have TB2 := hide ((unhide TB).kept b2)
    have hb2 := below_trans hb1 b2
    clear TA TB b2 hb1 HCI
    go_wp2_with fail
    refine (unhide HCS _ (unhide TA2) (unhide TB2)).mono ?_
    rintro e w3 ⟨rfl, b3⟩
    have TA3 := hide ((unhide TA2).kept b3)
    have TB3 := hide ((unhide TB2).kept b3)
    have hb3 := below_trans hb2 b3
    clear TA2 TB2 b3 hb2 HCS
    go_wp2_with fail
    refine (headsI _ A w3 (unhide TA3) (unhide MA) (unhide ZA)).mono ?_
    rintro e w4 ⟨gx, cx, rfl, ox, b4⟩
    rw [unhide CA]
    have TA4 := hide ((unhide TA3).kept b4)
    have TB4 := hide ((unhide TB3).kept b4)
    have OX4 := hide ox
    have hb4 := below_trans hb3 b4
    clear TA3 TB3 b4 hb3 ox
    go_wp2_with fail
    refine (headsI _ B w4 (unhide TB4) (unhide MB) (unhide ZB)).mono ?_
    rintro e w5 ⟨gy, cy, rfl, oy, b5⟩
    rw [unhide CB]
    have TA5 := hide ((unhide TA4).kept b5)
    have TB5 := hide ((unhide TB4).kept b5)
    have OX5 := hide ((unhide OX4).below b5)
    have OY5 := hide oy
    have hb5 := below_trans hb4 b5
    clear TA4 TB4 b5 hb4 oy OX4
    go_wp2_with fail
    refine (headI _ A w5 (unhide TA5) (unhide MA) (unhide ZA)).mono ?_
    rintro e w6 ⟨rfl, b6⟩
    have TA6 := hide ((unhide TA5).kept b6)
    have TB6 := hide ((unhide TB5).kept b6)
    have OX6 := hide ((unhide OX5).below b6)
    have OY6 := hide ((unhide OY5).below b6)
    have hb6 := below_trans hb5 b6
    clear TA5 TB5 b6 hb5 OX5 OY5
    go_wp2_with fail
    refine (headI _ B w6 (unhide TB6) (unhide MB) (unhide ZB)).mono ?_
    rintro e w7 ⟨rfl, b7⟩
    have TA7 := hide ((unhide TA6).kept b7)
    have TB7 := hide ((unhide TB6).kept b7)
    have OX7 := hide ((unhide OX6).below b7)
    have OY7 := hide ((unhide OY6).below b7)
    have hb7 := below_trans hb6 b7
    clear TA6 TB6 b7 hb6 OX6 OY6
    go_wp2_with fail
    refine (waSm _ _ A B w7 (unhide TA7) (unhide TB7) (unhide MA) (unhide MB)).mono ?_
    rintro e w8 ⟨rfl, nd, rfl⟩
    have bd : Below w7.heap.size w7 (w7.drewN nd) := ⟨rfl, rfl, rfl, Nat.le_refl _, fun _ _ => rfl⟩
    have TA8 := hide ((unhide TA7).kept bd)
    have TB8 := hide ((unhide TB7).kept bd)
    have OX8 := hide ((unhide OX7).below bd)
    have OY8 := hide ((unhide OY7).below bd)
    have hb8 := below_trans hb7 bd
    clear TA7 TB7 bd hb7 OX7 OY7
    generalize w7.drewN nd = w8 at *
    rw [hdec]
    go_wp2_with fail
    refine (headI _ A w8 (unhide TA8) (unhide MA) (unhide ZA)).mono ?_
    rintro e w9 ⟨rfl, b9⟩
    have TB9 := hide ((unhide TB8).kept b9)
    have hb9 := below_trans hb8 b9
    go_wp2_with fail
    refine (checkI _ B (headF A) w9 (unhide TB9) (unhide MB) (unhide ZB)).mono ?_
    rintro e w10 ⟨rfl, b10⟩
    have hb10 := below_trans hb9 b10
    rw [hck]
    go_wp2
    go_ret
    exact ⟨rfl, hb10⟩
end Go.Proofs.Ytgaflnkefjmblaa.Chain
