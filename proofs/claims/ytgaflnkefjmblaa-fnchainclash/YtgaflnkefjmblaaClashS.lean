/-
  spec.ChainClash and impl.ChainClash: from the ends back to the first place at which not both texts and both heads ahead are the same.
-/
import Derived.Test.YtgaflnkefjmblaaHeadsS
import Derived.Test.YtgaflnkefjmblaaHeadsC
namespace Go.Proofs.Ytgaflnkefjmblaa.Chain
set_option linter.unusedVariables false
open Go.RowKit
open Txt (S0 TC TR txt_eq txt_ne)

abbrev outC (r : Nat × Nat × Bool) : Value := .tuple #[.int .i64 r.1, .int .i64 r.2.1, .bool r.2.2]
theorem clash_no {A B : List ByteArray} (h : 400 < A.length ∨ 400 < B.length ∨ headF A ≠ headF B) : clashF A B = (0, 0, false) := by unfold clashF; rw [if_pos h]
theorem clash_go {A B : List ByteArray} (h1 : A.length ≤ 400) (h2 : B.length ≤ 400) (h3 : headF A = headF B) : clashF A B = seekL A B A.length B.length := by
  unfold clashF; rw [if_neg (by rintro (h | h | h); omega; omega; exact h h3)]
theorem cnt_all {A : List ByteArray} (h : A.length ≤ 400) : cnt A = A.length := by unfold cnt; rw [if_pos h]
theorem at_text {W : World} {a : Option Addr} {n c : Nat} {A : List ByteArray} (h : TR W (.slice a n c) A) {i : Nat} (hi : i < A.length) : ∃ b o, a = some ⟨b, o, none⟩ ∧ W.cell? ⟨b, o + i, none⟩ = some (.string (A.getD i S0)) := by
  rcases h with ⟨rfl, _⟩ | ⟨b, o, cap, he, h⟩
  · simp at hi
  · simp only [Value.slice.injEq] at he
    exact ⟨b, o, he.1, h.2 i hi⟩
theorem at_head {W : World} {B g c : Nat} {A : List ByteArray} (h : Ints.Own W B g c (headsF A)) (hc : A.length ≤ 400) {i : Nat} (hi : i ≤ A.length) : W.cell? ⟨g, i, none⟩ = some (.int .i64 (hdK A i)) := by
  have := h.at_ (j := i) (by rw [headsF_len, cnt_all hc]; omega)
  rwa [headsF_at A (by rw [cnt_all hc]; exact hi)] at this
theorem drewN_below' (w : World) (n : Nat) : Below w.heap.size w (w.drewN n) := ⟨rfl, rfl, rfl, Nat.le_refl _, fun _ _ => rfl⟩
theorem drew_b {B : Nat} {a W : World} (h : Below B a W) (n : Nat) : Below B a (W.drewN n) := ⟨h.os, h.tape, h.output, h.size, h.block⟩
theorem seek_i {A B : List ByteArray} {i j : Nat} {R : Nat × Nat × Bool} (h : seekL A B i j = R) (h0 : i = 0 ∨ j = 0) : R = (i, j, decide (i ≠ j)) := by rw [← h]; exact seek_end A B h0
theorem ne_dec (i j : Nat) : ((i : Int) != (j : Int)) = decide (i ≠ j) := by
  by_cases h : i = j
  · subst h; simp
  · have : ¬ (i : Int) = (j : Int) := by omega
    simp [h, this]

set_option maxHeartbeats 4000000 in
/-- spec.ChainClash -/
theorem clashS (va vb : Value) (A B : List ByteArray) (w : World) (ha : TR w va A) (hb : TR w vb B) (la : A.length ≤ maxLen) (lb : B.length ≤ maxLen) (sa : ∀ u ∈ A, u.size ≤ 100000000) (sb : ∀ u ∈ B, u.size ≤ 100000000) :
    Calls Try.prog 13 #[va, vb] w fun e w' => e = .returned (outC (clashF A B)) ∧ Below w.heap.size w w' := by
  have HA := hide ha
  have HB := hide hb
  have SA := hide sa
  have SB := hide sb
  have LA := hide la
  have LB := hide lb
  obtain ⟨aa, ca, rfl⟩ := ha.form
  obtain ⟨ab, cb, rfl⟩ := hb.form
  unfold maxLen at la lb
  clear ha hb sa sb
  by_cases fa : 400 < A.length
  · have da : decide ((A.length : Int) ≤ 400) = false := decide_eq_false (by omega)
    rw [clash_no (.inl fa)]
    go_enter Try.func13, Try.ntmps13
    go_wp2
    go_ret3
    exact ⟨rfl, Below.refl _ _⟩
  by_cases fb : 400 < B.length
  · have da : decide ((A.length : Int) ≤ 400) = true := decide_eq_true (by omega)
    have db : decide ((B.length : Int) ≤ 400) = false := decide_eq_false (by omega)
    rw [clash_no (.inr (.inl fb))]
    go_enter Try.func13, Try.ntmps13
    go_wp2
    go_ret3
    exact ⟨rfl, Below.refl _ _⟩
  have da : decide ((A.length : Int) ≤ 400) = true := decide_eq_true (by omega)
  have db : decide ((B.length : Int) ≤ 400) = true := decide_eq_true (by omega)
  have FA := hide fa
  have FB := hide fb
  by_cases hh : headF A = headF B
  · have CG := hide (clash_go (A := A) (B := B) (by omega) (by omega) hh)
    have hne : (headF A != headF B) = false := by simp [hh]
    rw [unhide CG]
    obtain ⟨R, hR⟩ : ∃ R, seekL A B A.length B.length = R := ⟨_, rfl⟩
    rw [hR]
    have HR := hide hR
    clear hR
    go_enter Try.func13, Try.ntmps13
    go_wp2_with (fail)
    refine (headS _ A _ (unhide HA) (unhide LA) (unhide SA)).mono ?_
    rintro e w1 ⟨rfl, hb1⟩
    have HB1 := hide ((unhide HB).kept hb1)
    go_wp2_with (fail)
    refine (headS _ B _ (unhide HB1) (unhide LB) (unhide SB)).mono ?_
    rintro e w2 ⟨rfl, hb2⟩
    have b2 := below_trans hb1 hb2
    have HA2 := hide ((unhide HA).kept b2)
    clear hb1 hb2 HB1
    go_wp2_with (fail)
    refine (headsS _ A _ (unhide HA2) (unhide LA) (unhide SA)).mono ?_
    rintro e w3 ⟨ga, ka, rfl, ho3, hb3⟩
    have b3 := below_trans b2 hb3
    have HB3 := hide ((unhide HB).kept b3)
    have HO3 := hide ho3
    clear b2 hb3 HA2 ho3
    go_wp2_with (fail)
    refine (headsS _ B _ (unhide HB3) (unhide LB) (unhide SB)).mono ?_
    rintro e w4 ⟨gb, kb, rfl, ho4, hb4⟩
    have b4 := below_trans b3 hb4
    have HA4 := hide ((unhide HA).kept b4)
    have HB4 := hide ((unhide HB).kept b4)
    have HO4 := hide ho4
    have HO34 := hide ((unhide HO3).below hb4)
    have eA := cnt_all (A := A) (by omega)
    have eB := cnt_all (A := B) (by omega)
    rw [eA, eB]
    clear b3 hb4 HB3 HO3 ho4 hne hh CG eA eB
    have fa' : A.length ≤ 400 := by omega
    have fb' : B.length ≤ 400 := by omega
    clear FA FB da db
    go_wp2
    go_loopw [9, 10] (fun p q wr => ∃ i j n : Nat, i ≤ A.length ∧ j ≤ B.length ∧ p = .int .i64 i ∧ q = .int .i64 j ∧ Hid (seekL A B i j = R) ∧ wr = w4.drewN n) (fun p _ _ => (intOf p).toNat)
    case atStart => exact ⟨A.length, B.length, 0, Nat.le_refl _, Nat.le_refl _, rfl, rfl, HR, rfl⟩
    case round =>
      obtain ⟨i, j, n, hi, hj, rfl, rfl, hs, rfl⟩ := hrel
      by_cases i0 : i = 0
      · subst i0
        have hz := seek_i (unhide hs) (.inl rfl)
        have hnd := hide (ne_dec 0 j)
        have HZ := hide hz
        clear hs HR hz
        go_wp2
        go_ret3
        exact ⟨by rw [unhide HZ]; simp [← unhide hnd], b4.trans ((drewN_below' w4 n).mono b4.size)⟩
      by_cases j0 : j = 0
      · subst j0
        have hz := seek_i (unhide hs) (.inr rfl)
        have hnd := hide (ne_dec i 0)
        have HZ := hide hz
        have ip : (0 : Int) < (i : Int) := by omega
        have in0 : ((i : Int) == 0) = false := by simp; omega
        clear hs HR hz
        go_wp2
        go_ret3
        exact ⟨by rw [unhide HZ]; simp [← unhide hnd], b4.trans ((drewN_below' w4 n).mono b4.size)⟩
      obtain ⟨i, rfl⟩ : ∃ k, i = k + 1 := ⟨i - 1, by omega⟩
      obtain ⟨j, rfl⟩ : ∃ k, j = k + 1 := ⟨j - 1, by omega⟩
      obtain ⟨ba, oa, rfl, ta⟩ := at_text (unhide HA4) (i := i) (by omega)
      obtain ⟨bb, ob, rfl, tb⟩ := at_text (unhide HB4) (i := j) (by omega)
      have h1 := at_head (unhide HO34) fa' (i := i) (by omega)
      have h2 := at_head (unhide HO4) fb' (i := j) (by omega)
      have SS := hide (seek_stop A B (i := i) (j := j))
      have SO := hide (seek_on A B (i := i) (j := j))
      have i1 : (0 : Int) ≤ (i : Int) := by omega
      have i2 : (i : Int) < (A.length : Int) := by omega
      have j1 : (0 : Int) ≤ (j : Int) := by omega
      have j2 : (j : Int) < (B.length : Int) := by omega
      have i3 : (i : Int) < (A.length : Int) + 1 := by omega
      have j3 : (j : Int) < (B.length : Int) + 1 := by omega
      have ip : (0 : Int) < (i : Int) + 1 := by omega
      have jp : (0 : Int) < (j : Int) + 1 := by omega
      have in0 : ((i : Int) + 1 == 0) = false := by simp; omega
      have jn0 : ((j : Int) + 1 == 0) = false := by simp; omega
      have HH := hide hs
      generalize A.getD i S0 = x at *
      generalize B.getD j S0 = y at *
      generalize hdK A i = hx at *
      generalize hdK B j = hy at *
      clear i0 j0
      by_cases ex : x = y
      · have ex' := txt_eq ex
        by_cases eh : hx = hy
        · have eh' : (hx != hy) = false := by simp [eh]
          have HS2 : Hid (seekL A B i j = R) := hide ((unhide SO ⟨ex, eh⟩).symm.trans (unhide hs))
          clear ex eh SS SO HH hs HR
          go_wp2
          go_quiet (fail)
          go_wp2
          exact ⟨⟨i, j, _, by omega, by omega, by go_num, by go_num, HS2, by first | rfl | simp only [World.drewN_drewN]⟩, by simp [intOf]⟩
        · have eh' : (hx != hy) = true := by simpa using eh
          have hz := (unhide hs).symm.trans (unhide SS (fun h => eh h.2))
          have HZ := hide hz
          clear ex eh SS SO HH hs HR hz
          go_wp2
          go_quiet (fail)
          go_wp2
          go_ret3
          exact ⟨by rw [unhide HZ]; simp, by repeat (first | exact b4 | refine drew_b ?_ _)⟩
      · have ex' := txt_ne ex
        have hz := (unhide hs).symm.trans (unhide SS (fun h => ex h.1))
        have HZ := hide hz
        clear ex SS SO HH hs HR hz
        go_wp2
        go_quiet (fail)
        go_wp2
        go_ret3
        exact ⟨by rw [unhide HZ]; simp, by repeat (first | exact b4 | refine drew_b ?_ _)⟩
  · have hne : (headF A != headF B) = true := by simpa using hh
    rw [clash_no (.inr (.inr hh))]
    go_enter Try.func13, Try.ntmps13
    go_wp2_with (fail)
    refine (headS _ A _ (unhide HA) (unhide LA) (unhide SA)).mono ?_
    rintro e w1 ⟨rfl, hb1⟩
    have HB1 := hide ((unhide HB).kept hb1)
    go_wp2_with (fail)
    refine (headS _ B _ (unhide HB1) (unhide LB) (unhide SB)).mono ?_
    rintro e w2 ⟨rfl, hb2⟩
    have b2 := below_trans hb1 hb2
    go_wp2
    go_ret3
    exact ⟨rfl, b2⟩
end Go.Proofs.Ytgaflnkefjmblaa.Chain
