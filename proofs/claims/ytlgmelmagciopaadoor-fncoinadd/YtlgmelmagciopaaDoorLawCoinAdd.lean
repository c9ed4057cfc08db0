/-
  FnCoinAdd: the law's walk.
-/
import Derived.Test.YtlgmelmagciopaaDoorReadI
import Derived.Test.YtlgmelmagciopaaDoorRd2
namespace Go.Proofs.YtlgmelmagciopaaDoor.Law
set_option linter.unusedVariables false
open Go.RowKit

/-- what of sums and products the law asks -/
theorem add_comm' (a b : Int) : Coin.addB b a = Coin.addB a b ∧ Coin.addV b a = Coin.addV a b := by
  have h : Coin.addB b a = Coin.addB a b := by unfold Coin.addB; rw [Bool.and_comm (Coin.okB b), Int.add_comm]
  exact ⟨h, by unfold Coin.addV; rw [h, Int.add_comm]⟩
theorem times_comm' (a b : Int) : Coin.fitB b a = Coin.fitB a b ∧ Coin.timesV b a = Coin.timesV a b := by
  have h := Coin.fit_comm b a
  exact ⟨h, by unfold Coin.timesV; rw [h, Int.mul_comm]⟩
theorem times_bd (a b : Int) : -1000000000000000 ≤ Coin.timesV a b ∧ Coin.timesV a b ≤ 1000000000000000 := by
  cases h : Coin.fitB a b
  · rw [Coin.timesV_no h]; omega
  · rw [Coin.timesV_yes h]; exact (Coin.fit_ok h).2.2
theorem add_bd (a b : Int) : -1000000000000000 ≤ Coin.addV a b ∧ Coin.addV a b ≤ 1000000000000000 := by
  cases h : Coin.addB a b
  · rw [Coin.addV_no h]; omega
  · rw [Coin.addV_yes h]
    unfold Coin.addB at h; simp only [Bool.and_eq_true] at h
    exact Coin.okB_iff.1 h.2


/-- the text of an amount is read as it; no other is -/
theorem read_text (a : Int) : Text.readOf (Text.textL a) = if Coin.okB a = true then some a else none := by
  cases h : Coin.okB a
  · have e : Text.textL a = [] := by simp [Text.textL, h]
    rw [e]
    simp only [Bool.false_eq_true, if_false]
    cases hr : Text.readOf []
    · rfl
    · next v =>
      have := Text.text_of_read hr
      have e2 := Text.textL_eq this.1
      rw [this.2] at e2
      have := congrArg List.length e2
      simp at this
  · rw [if_pos rfl]
    exact Text.read_of_text ⟨h, rfl⟩
theorem text_small (a : Int) : (⟨(Text.textL a).toArray⟩ : ByteArray).size ≤ 2000000 := by
  have e : (⟨(Text.textL a).toArray⟩ : ByteArray).size = (Text.textL a).length := by simp [ByteArray.size]
  rw [e]
  unfold Text.textL
  split
  · next h =>
    have hb := Coin.okB_iff.1 h
    have := Text.textP_len a.natAbs (by omega)
    split <;> simp <;> omega
  · simp
theorem times_div {c d : Int} (h : Coin.fitB c d = true) (hd : ¬ d = 0) : (Coin.timesV c d).tdiv d = c ∧ (Coin.timesV c d).tmod d = 0 := by
  rw [Coin.timesV_yes h]
  exact ⟨Int.mul_tdiv_cancel _ hd, Int.mul_tmod_left _ _⟩
theorem spread {a b d : Int} (h1 : Coin.addB a b = true) (h2 : Coin.fitB a d = true) (h3 : Coin.fitB b d = true) (h4 : Coin.addB (Coin.timesV a d) (Coin.timesV b d) = true) (h5 : Coin.fitB (Coin.addV a b) d = true) : Coin.addV (Coin.timesV a d) (Coin.timesV b d) = Coin.timesV (Coin.addV a b) d := by
  rw [Coin.addV_yes h4, Coin.timesV_yes h2, Coin.timesV_yes h3, Coin.timesV_yes h5, Coin.addV_yes h1, Int.add_mul]

set_option maxHeartbeats 8000000 in
set_option maxRecDepth 100000 in
theorem coinAdd (a0 : Option Addr) (len0 cap0 : Nat) (a1 : Option Addr) (len1 cap1 : Nat) (w : World) (hB : Draw.Bytes w a0 len0 cap0) (hC : Draw.Bytes w a1 len1 cap1) (he : Text.Env w) :
    Calls Tryd.prog 3 #[.slice a0 len0 cap0, .slice a1 len1 cap1] w fun e w' => e = .returned (.bool true) ∧ Below w.heap.size w w' := by
  by_cases hl : 1048576 < len0
  · go_enter Tryd.func3, Tryd.ntmps3
    go_wp2
    go_ret
    exact ⟨rfl, Below.refl _ _⟩
  · by_cases hl1 : 1048576 < len1
    · go_enter Tryd.func3, Tryd.ntmps3
      go_wp2
      go_ret
      exact ⟨rfl, Below.refl _ _⟩
    · go_enter Tryd.func3, Tryd.ntmps3
      go_wp2_with fail
      refine (Draw.drawAdd a0 len0 cap0 w hB).mono ?_
      rintro e w1 ⟨a, b, rfl, ha, hb, hbb⟩
      clear hB hl hl1
      go_wp2_with fail
      refine (Draw.drawTimes a1 len1 cap1 w1 (hC.kept hbb)).mono ?_
      rintro e w2 ⟨c, d, rfl, hc, hd, hbc⟩
      have hbel := Draw.below_trans hbb hbc
      have he2 := he.kept hbel
      clear hC hbb hbc he
      obtain ⟨ha1, ha2⟩ := ha
      obtain ⟨hb1, hb2⟩ := hb
      obtain ⟨hc1, hc2⟩ := hc
      obtain ⟨hd1, hd2⟩ := hd
      obtain ⟨g1, g2⟩ := add_comm' a b
      obtain ⟨g3, g4⟩ := times_comm' c d
      have t1 := times_bd c d
      have s1 := add_bd a b
      have hread := read_text a
      have edata : (⟨(Text.textL a).toArray⟩ : ByteArray).data.toList = Text.textL a := rfl
      rw [← edata] at hread
      cases h0 : Coin.okB a
      · have h1 : Coin.addB a b = false := by simp [Coin.addB, h0]
        rw [h1] at g1
        rw [h0] at hread; simp only [Bool.false_eq_true, if_false] at hread
        cases h3 : Coin.fitB c d
        · rw [h3] at g3
          go_wp2_with (first | (go_at_call 10; refine (Coin.timesS _ _ _).mono ?_; rintro e w' ⟨rfl, rfl⟩) | (go_at_call 9; refine (Coin.timesI _ _ _).mono ?_; rintro e w' ⟨rfl, rfl⟩) | (go_at_call 8; refine (Coin.addI _ _ _).mono ?_; rintro e w' ⟨rfl, rfl⟩) | (go_at_call 13; refine (Coin.okS _ _).mono ?_; rintro e w' ⟨rfl, rfl⟩))
          refine (Text.textI a _ he2.1).mono ?_
          rintro e w3 ⟨rfl, hb3⟩
          go_wp2_with fail
          refine (Text.readI ⟨(Text.textL a).toArray⟩ w3 (text_small a) (he2.kept hb3)).mono ?_
          rintro e w4 ⟨rfl, hb4⟩
          rw [hread]
          go_wp2_with (first | (go_at_call 10; refine (Coin.timesS _ _ _).mono ?_; rintro e w' ⟨rfl, rfl⟩) | (go_at_call 9; refine (Coin.timesI _ _ _).mono ?_; rintro e w' ⟨rfl, rfl⟩) | (go_at_call 8; refine (Coin.addI _ _ _).mono ?_; rintro e w' ⟨rfl, rfl⟩) | (go_at_call 13; refine (Coin.okS _ _).mono ?_; rintro e w' ⟨rfl, rfl⟩))
          go_ret
          exact ⟨rfl, Text.below3 hbel hb3 hb4⟩
        · rw [h3] at g3
          by_cases h4 : d = 0
          · have h4' : (d != 0) = false := by simpa using h4
            clear h4
            go_wp2_with (first | (go_at_call 10; refine (Coin.timesS _ _ _).mono ?_; rintro e w' ⟨rfl, rfl⟩) | (go_at_call 9; refine (Coin.timesI _ _ _).mono ?_; rintro e w' ⟨rfl, rfl⟩) | (go_at_call 8; refine (Coin.addI _ _ _).mono ?_; rintro e w' ⟨rfl, rfl⟩) | (go_at_call 13; refine (Coin.okS _ _).mono ?_; rintro e w' ⟨rfl, rfl⟩))
            refine (Text.textI a _ he2.1).mono ?_
            rintro e w3 ⟨rfl, hb3⟩
            go_wp2_with fail
            refine (Text.readI ⟨(Text.textL a).toArray⟩ w3 (text_small a) (he2.kept hb3)).mono ?_
            rintro e w4 ⟨rfl, hb4⟩
            rw [hread]
            go_wp2_with (first | (go_at_call 10; refine (Coin.timesS _ _ _).mono ?_; rintro e w' ⟨rfl, rfl⟩) | (go_at_call 9; refine (Coin.timesI _ _ _).mono ?_; rintro e w' ⟨rfl, rfl⟩) | (go_at_call 8; refine (Coin.addI _ _ _).mono ?_; rintro e w' ⟨rfl, rfl⟩) | (go_at_call 13; refine (Coin.okS _ _).mono ?_; rintro e w' ⟨rfl, rfl⟩))
            go_ret
            exact ⟨rfl, Text.below3 hbel hb3 hb4⟩
          · have h4' : (d != 0) = true := by simpa using h4
            obtain ⟨q1, q2⟩ := times_div h3 h4
            go_wp2_with (first | (go_at_call 10; refine (Coin.timesS _ _ _).mono ?_; rintro e w' ⟨rfl, rfl⟩) | (go_at_call 9; refine (Coin.timesI _ _ _).mono ?_; rintro e w' ⟨rfl, rfl⟩) | (go_at_call 8; refine (Coin.addI _ _ _).mono ?_; rintro e w' ⟨rfl, rfl⟩) | (go_at_call 13; refine (Coin.okS _ _).mono ?_; rintro e w' ⟨rfl, rfl⟩))
            refine (Text.textI a _ he2.1).mono ?_
            rintro e w3 ⟨rfl, hb3⟩
            go_wp2_with fail
            refine (Text.readI ⟨(Text.textL a).toArray⟩ w3 (text_small a) (he2.kept hb3)).mono ?_
            rintro e w4 ⟨rfl, hb4⟩
            rw [hread]
            go_wp2_with (first | (go_at_call 10; refine (Coin.timesS _ _ _).mono ?_; rintro e w' ⟨rfl, rfl⟩) | (go_at_call 9; refine (Coin.timesI _ _ _).mono ?_; rintro e w' ⟨rfl, rfl⟩) | (go_at_call 8; refine (Coin.addI _ _ _).mono ?_; rintro e w' ⟨rfl, rfl⟩) | (go_at_call 13; refine (Coin.okS _ _).mono ?_; rintro e w' ⟨rfl, rfl⟩))
            go_ret
            exact ⟨rfl, Text.below3 hbel hb3 hb4⟩
      · rw [h0] at hread; simp only [if_true] at hread
        cases h1 : Coin.addB a b
        · rw [h1] at g1
          cases h3 : Coin.fitB c d
          · rw [h3] at g3
            go_wp2_with (first | (go_at_call 10; refine (Coin.timesS _ _ _).mono ?_; rintro e w' ⟨rfl, rfl⟩) | (go_at_call 9; refine (Coin.timesI _ _ _).mono ?_; rintro e w' ⟨rfl, rfl⟩) | (go_at_call 8; refine (Coin.addI _ _ _).mono ?_; rintro e w' ⟨rfl, rfl⟩) | (go_at_call 13; refine (Coin.okS _ _).mono ?_; rintro e w' ⟨rfl, rfl⟩))
            refine (Text.textI a _ he2.1).mono ?_
            rintro e w3 ⟨rfl, hb3⟩
            go_wp2_with fail
            refine (Text.readI ⟨(Text.textL a).toArray⟩ w3 (text_small a) (he2.kept hb3)).mono ?_
            rintro e w4 ⟨rfl, hb4⟩
            rw [hread]
            go_wp2_with (first | (go_at_call 10; refine (Coin.timesS _ _ _).mono ?_; rintro e w' ⟨rfl, rfl⟩) | (go_at_call 9; refine (Coin.timesI _ _ _).mono ?_; rintro e w' ⟨rfl, rfl⟩) | (go_at_call 8; refine (Coin.addI _ _ _).mono ?_; rintro e w' ⟨rfl, rfl⟩) | (go_at_call 13; refine (Coin.okS _ _).mono ?_; rintro e w' ⟨rfl, rfl⟩))
            go_ret
            exact ⟨rfl, Text.below3 hbel hb3 hb4⟩
          · rw [h3] at g3
            by_cases h4 : d = 0
            · have h4' : (d != 0) = false := by simpa using h4
              clear h4
              go_wp2_with (first | (go_at_call 10; refine (Coin.timesS _ _ _).mono ?_; rintro e w' ⟨rfl, rfl⟩) | (go_at_call 9; refine (Coin.timesI _ _ _).mono ?_; rintro e w' ⟨rfl, rfl⟩) | (go_at_call 8; refine (Coin.addI _ _ _).mono ?_; rintro e w' ⟨rfl, rfl⟩) | (go_at_call 13; refine (Coin.okS _ _).mono ?_; rintro e w' ⟨rfl, rfl⟩))
              refine (Text.textI a _ he2.1).mono ?_
              rintro e w3 ⟨rfl, hb3⟩
              go_wp2_with fail
              refine (Text.readI ⟨(Text.textL a).toArray⟩ w3 (text_small a) (he2.kept hb3)).mono ?_
              rintro e w4 ⟨rfl, hb4⟩
              rw [hread]
              go_wp2_with (first | (go_at_call 10; refine (Coin.timesS _ _ _).mono ?_; rintro e w' ⟨rfl, rfl⟩) | (go_at_call 9; refine (Coin.timesI _ _ _).mono ?_; rintro e w' ⟨rfl, rfl⟩) | (go_at_call 8; refine (Coin.addI _ _ _).mono ?_; rintro e w' ⟨rfl, rfl⟩) | (go_at_call 13; refine (Coin.okS _ _).mono ?_; rintro e w' ⟨rfl, rfl⟩))
              go_ret
              exact ⟨rfl, Text.below3 hbel hb3 hb4⟩
            · have h4' : (d != 0) = true := by simpa using h4
              obtain ⟨q1, q2⟩ := times_div h3 h4
              go_wp2_with (first | (go_at_call 10; refine (Coin.timesS _ _ _).mono ?_; rintro e w' ⟨rfl, rfl⟩) | (go_at_call 9; refine (Coin.timesI _ _ _).mono ?_; rintro e w' ⟨rfl, rfl⟩) | (go_at_call 8; refine (Coin.addI _ _ _).mono ?_; rintro e w' ⟨rfl, rfl⟩) | (go_at_call 13; refine (Coin.okS _ _).mono ?_; rintro e w' ⟨rfl, rfl⟩))
              refine (Text.textI a _ he2.1).mono ?_
              rintro e w3 ⟨rfl, hb3⟩
              go_wp2_with fail
              refine (Text.readI ⟨(Text.textL a).toArray⟩ w3 (text_small a) (he2.kept hb3)).mono ?_
              rintro e w4 ⟨rfl, hb4⟩
              rw [hread]
              go_wp2_with (first | (go_at_call 10; refine (Coin.timesS _ _ _).mono ?_; rintro e w' ⟨rfl, rfl⟩) | (go_at_call 9; refine (Coin.timesI _ _ _).mono ?_; rintro e w' ⟨rfl, rfl⟩) | (go_at_call 8; refine (Coin.addI _ _ _).mono ?_; rintro e w' ⟨rfl, rfl⟩) | (go_at_call 13; refine (Coin.okS _ _).mono ?_; rintro e w' ⟨rfl, rfl⟩))
              go_ret
              exact ⟨rfl, Text.below3 hbel hb3 hb4⟩
        · rw [h1] at g1
          have hsub : Coin.addV a b - b = a := by rw [Coin.addV_yes h1]; omega
          cases k0 : Coin.fitB a d
          · skip
            cases h3 : Coin.fitB c d
            · rw [h3] at g3
              go_wp2_with (first | (go_at_call 10; refine (Coin.timesS _ _ _).mono ?_; rintro e w' ⟨rfl, rfl⟩) | (go_at_call 9; refine (Coin.timesI _ _ _).mono ?_; rintro e w' ⟨rfl, rfl⟩) | (go_at_call 8; refine (Coin.addI _ _ _).mono ?_; rintro e w' ⟨rfl, rfl⟩) | (go_at_call 13; refine (Coin.okS _ _).mono ?_; rintro e w' ⟨rfl, rfl⟩))
              refine (Text.textI a _ he2.1).mono ?_
              rintro e w3 ⟨rfl, hb3⟩
              go_wp2_with fail
              refine (Text.readI ⟨(Text.textL a).toArray⟩ w3 (text_small a) (he2.kept hb3)).mono ?_
              rintro e w4 ⟨rfl, hb4⟩
              rw [hread]
              go_wp2_with (first | (go_at_call 10; refine (Coin.timesS _ _ _).mono ?_; rintro e w' ⟨rfl, rfl⟩) | (go_at_call 9; refine (Coin.timesI _ _ _).mono ?_; rintro e w' ⟨rfl, rfl⟩) | (go_at_call 8; refine (Coin.addI _ _ _).mono ?_; rintro e w' ⟨rfl, rfl⟩) | (go_at_call 13; refine (Coin.okS _ _).mono ?_; rintro e w' ⟨rfl, rfl⟩))
              go_ret
              exact ⟨rfl, Text.below3 hbel hb3 hb4⟩
            · rw [h3] at g3
              by_cases h4 : d = 0
              · have h4' : (d != 0) = false := by simpa using h4
                clear h4
                go_wp2_with (first | (go_at_call 10; refine (Coin.timesS _ _ _).mono ?_; rintro e w' ⟨rfl, rfl⟩) | (go_at_call 9; refine (Coin.timesI _ _ _).mono ?_; rintro e w' ⟨rfl, rfl⟩) | (go_at_call 8; refine (Coin.addI _ _ _).mono ?_; rintro e w' ⟨rfl, rfl⟩) | (go_at_call 13; refine (Coin.okS _ _).mono ?_; rintro e w' ⟨rfl, rfl⟩))
                refine (Text.textI a _ he2.1).mono ?_
                rintro e w3 ⟨rfl, hb3⟩
                go_wp2_with fail
                refine (Text.readI ⟨(Text.textL a).toArray⟩ w3 (text_small a) (he2.kept hb3)).mono ?_
                rintro e w4 ⟨rfl, hb4⟩
                rw [hread]
                go_wp2_with (first | (go_at_call 10; refine (Coin.timesS _ _ _).mono ?_; rintro e w' ⟨rfl, rfl⟩) | (go_at_call 9; refine (Coin.timesI _ _ _).mono ?_; rintro e w' ⟨rfl, rfl⟩) | (go_at_call 8; refine (Coin.addI _ _ _).mono ?_; rintro e w' ⟨rfl, rfl⟩) | (go_at_call 13; refine (Coin.okS _ _).mono ?_; rintro e w' ⟨rfl, rfl⟩))
                go_ret
                exact ⟨rfl, Text.below3 hbel hb3 hb4⟩
              · have h4' : (d != 0) = true := by simpa using h4
                obtain ⟨q1, q2⟩ := times_div h3 h4
                go_wp2_with (first | (go_at_call 10; refine (Coin.timesS _ _ _).mono ?_; rintro e w' ⟨rfl, rfl⟩) | (go_at_call 9; refine (Coin.timesI _ _ _).mono ?_; rintro e w' ⟨rfl, rfl⟩) | (go_at_call 8; refine (Coin.addI _ _ _).mono ?_; rintro e w' ⟨rfl, rfl⟩) | (go_at_call 13; refine (Coin.okS _ _).mono ?_; rintro e w' ⟨rfl, rfl⟩))
                refine (Text.textI a _ he2.1).mono ?_
                rintro e w3 ⟨rfl, hb3⟩
                go_wp2_with fail
                refine (Text.readI ⟨(Text.textL a).toArray⟩ w3 (text_small a) (he2.kept hb3)).mono ?_
                rintro e w4 ⟨rfl, hb4⟩
                rw [hread]
                go_wp2_with (first | (go_at_call 10; refine (Coin.timesS _ _ _).mono ?_; rintro e w' ⟨rfl, rfl⟩) | (go_at_call 9; refine (Coin.timesI _ _ _).mono ?_; rintro e w' ⟨rfl, rfl⟩) | (go_at_call 8; refine (Coin.addI _ _ _).mono ?_; rintro e w' ⟨rfl, rfl⟩) | (go_at_call 13; refine (Coin.okS _ _).mono ?_; rintro e w' ⟨rfl, rfl⟩))
                go_ret
                exact ⟨rfl, Text.below3 hbel hb3 hb4⟩
          · skip
            cases k1 : Coin.fitB b d
            · skip
              cases h3 : Coin.fitB c d
              · rw [h3] at g3
                go_wp2_with (first | (go_at_call 10; refine (Coin.timesS _ _ _).mono ?_; rintro e w' ⟨rfl, rfl⟩) | (go_at_call 9; refine (Coin.timesI _ _ _).mono ?_; rintro e w' ⟨rfl, rfl⟩) | (go_at_call 8; refine (Coin.addI _ _ _).mono ?_; rintro e w' ⟨rfl, rfl⟩) | (go_at_call 13; refine (Coin.okS _ _).mono ?_; rintro e w' ⟨rfl, rfl⟩))
                refine (Text.textI a _ he2.1).mono ?_
                rintro e w3 ⟨rfl, hb3⟩
                go_wp2_with fail
                refine (Text.readI ⟨(Text.textL a).toArray⟩ w3 (text_small a) (he2.kept hb3)).mono ?_
                rintro e w4 ⟨rfl, hb4⟩
                rw [hread]
                go_wp2_with (first | (go_at_call 10; refine (Coin.timesS _ _ _).mono ?_; rintro e w' ⟨rfl, rfl⟩) | (go_at_call 9; refine (Coin.timesI _ _ _).mono ?_; rintro e w' ⟨rfl, rfl⟩) | (go_at_call 8; refine (Coin.addI _ _ _).mono ?_; rintro e w' ⟨rfl, rfl⟩) | (go_at_call 13; refine (Coin.okS _ _).mono ?_; rintro e w' ⟨rfl, rfl⟩))
                go_ret
                exact ⟨rfl, Text.below3 hbel hb3 hb4⟩
              · rw [h3] at g3
                by_cases h4 : d = 0
                · have h4' : (d != 0) = false := by simpa using h4
                  clear h4
                  go_wp2_with (first | (go_at_call 10; refine (Coin.timesS _ _ _).mono ?_; rintro e w' ⟨rfl, rfl⟩) | (go_at_call 9; refine (Coin.timesI _ _ _).mono ?_; rintro e w' ⟨rfl, rfl⟩) | (go_at_call 8; refine (Coin.addI _ _ _).mono ?_; rintro e w' ⟨rfl, rfl⟩) | (go_at_call 13; refine (Coin.okS _ _).mono ?_; rintro e w' ⟨rfl, rfl⟩))
                  refine (Text.textI a _ he2.1).mono ?_
                  rintro e w3 ⟨rfl, hb3⟩
                  go_wp2_with fail
                  refine (Text.readI ⟨(Text.textL a).toArray⟩ w3 (text_small a) (he2.kept hb3)).mono ?_
                  rintro e w4 ⟨rfl, hb4⟩
                  rw [hread]
                  go_wp2_with (first | (go_at_call 10; refine (Coin.timesS _ _ _).mono ?_; rintro e w' ⟨rfl, rfl⟩) | (go_at_call 9; refine (Coin.timesI _ _ _).mono ?_; rintro e w' ⟨rfl, rfl⟩) | (go_at_call 8; refine (Coin.addI _ _ _).mono ?_; rintro e w' ⟨rfl, rfl⟩) | (go_at_call 13; refine (Coin.okS _ _).mono ?_; rintro e w' ⟨rfl, rfl⟩))
                  go_ret
                  exact ⟨rfl, Text.below3 hbel hb3 hb4⟩
                · have h4' : (d != 0) = true := by simpa using h4
                  obtain ⟨q1, q2⟩ := times_div h3 h4
                  go_wp2_with (first | (go_at_call 10; refine (Coin.timesS _ _ _).mono ?_; rintro e w' ⟨rfl, rfl⟩) | (go_at_call 9; refine (Coin.timesI _ _ _).mono ?_; rintro e w' ⟨rfl, rfl⟩) | (go_at_call 8; refine (Coin.addI _ _ _).mono ?_; rintro e w' ⟨rfl, rfl⟩) | (go_at_call 13; refine (Coin.okS _ _).mono ?_; rintro e w' ⟨rfl, rfl⟩))
                  refine (Text.textI a _ he2.1).mono ?_
                  rintro e w3 ⟨rfl, hb3⟩
                  go_wp2_with fail
                  refine (Text.readI ⟨(Text.textL a).toArray⟩ w3 (text_small a) (he2.kept hb3)).mono ?_
                  rintro e w4 ⟨rfl, hb4⟩
                  rw [hread]
                  go_wp2_with (first | (go_at_call 10; refine (Coin.timesS _ _ _).mono ?_; rintro e w' ⟨rfl, rfl⟩) | (go_at_call 9; refine (Coin.timesI _ _ _).mono ?_; rintro e w' ⟨rfl, rfl⟩) | (go_at_call 8; refine (Coin.addI _ _ _).mono ?_; rintro e w' ⟨rfl, rfl⟩) | (go_at_call 13; refine (Coin.okS _ _).mono ?_; rintro e w' ⟨rfl, rfl⟩))
                  go_ret
                  exact ⟨rfl, Text.below3 hbel hb3 hb4⟩
            · skip
              cases k2 : Coin.addB (Coin.timesV a d) (Coin.timesV b d)
              · skip
                cases h3 : Coin.fitB c d
                · rw [h3] at g3
                  go_wp2_with (first | (go_at_call 10; refine (Coin.timesS _ _ _).mono ?_; rintro e w' ⟨rfl, rfl⟩) | (go_at_call 9; refine (Coin.timesI _ _ _).mono ?_; rintro e w' ⟨rfl, rfl⟩) | (go_at_call 8; refine (Coin.addI _ _ _).mono ?_; rintro e w' ⟨rfl, rfl⟩) | (go_at_call 13; refine (Coin.okS _ _).mono ?_; rintro e w' ⟨rfl, rfl⟩))
                  refine (Text.textI a _ he2.1).mono ?_
                  rintro e w3 ⟨rfl, hb3⟩
                  go_wp2_with fail
                  refine (Text.readI ⟨(Text.textL a).toArray⟩ w3 (text_small a) (he2.kept hb3)).mono ?_
                  rintro e w4 ⟨rfl, hb4⟩
                  rw [hread]
                  go_wp2_with (first | (go_at_call 10; refine (Coin.timesS _ _ _).mono ?_; rintro e w' ⟨rfl, rfl⟩) | (go_at_call 9; refine (Coin.timesI _ _ _).mono ?_; rintro e w' ⟨rfl, rfl⟩) | (go_at_call 8; refine (Coin.addI _ _ _).mono ?_; rintro e w' ⟨rfl, rfl⟩) | (go_at_call 13; refine (Coin.okS _ _).mono ?_; rintro e w' ⟨rfl, rfl⟩))
                  go_ret
                  exact ⟨rfl, Text.below3 hbel hb3 hb4⟩
                · rw [h3] at g3
                  by_cases h4 : d = 0
                  · have h4' : (d != 0) = false := by simpa using h4
                    clear h4
                    go_wp2_with (first | (go_at_call 10; refine (Coin.timesS _ _ _).mono ?_; rintro e w' ⟨rfl, rfl⟩) | (go_at_call 9; refine (Coin.timesI _ _ _).mono ?_; rintro e w' ⟨rfl, rfl⟩) | (go_at_call 8; refine (Coin.addI _ _ _).mono ?_; rintro e w' ⟨rfl, rfl⟩) | (go_at_call 13; refine (Coin.okS _ _).mono ?_; rintro e w' ⟨rfl, rfl⟩))
                    refine (Text.textI a _ he2.1).mono ?_
                    rintro e w3 ⟨rfl, hb3⟩
                    go_wp2_with fail
                    refine (Text.readI ⟨(Text.textL a).toArray⟩ w3 (text_small a) (he2.kept hb3)).mono ?_
                    rintro e w4 ⟨rfl, hb4⟩
                    rw [hread]
                    go_wp2_with (first | (go_at_call 10; refine (Coin.timesS _ _ _).mono ?_; rintro e w' ⟨rfl, rfl⟩) | (go_at_call 9; refine (Coin.timesI _ _ _).mono ?_; rintro e w' ⟨rfl, rfl⟩) | (go_at_call 8; refine (Coin.addI _ _ _).mono ?_; rintro e w' ⟨rfl, rfl⟩) | (go_at_call 13; refine (Coin.okS _ _).mono ?_; rintro e w' ⟨rfl, rfl⟩))
                    go_ret
                    exact ⟨rfl, Text.below3 hbel hb3 hb4⟩
                  · have h4' : (d != 0) = true := by simpa using h4
                    obtain ⟨q1, q2⟩ := times_div h3 h4
                    go_wp2_with (first | (go_at_call 10; refine (Coin.timesS _ _ _).mono ?_; rintro e w' ⟨rfl, rfl⟩) | (go_at_call 9; refine (Coin.timesI _ _ _).mono ?_; rintro e w' ⟨rfl, rfl⟩) | (go_at_call 8; refine (Coin.addI _ _ _).mono ?_; rintro e w' ⟨rfl, rfl⟩) | (go_at_call 13; refine (Coin.okS _ _).mono ?_; rintro e w' ⟨rfl, rfl⟩))
                    refine (Text.textI a _ he2.1).mono ?_
                    rintro e w3 ⟨rfl, hb3⟩
                    go_wp2_with fail
                    refine (Text.readI ⟨(Text.textL a).toArray⟩ w3 (text_small a) (he2.kept hb3)).mono ?_
                    rintro e w4 ⟨rfl, hb4⟩
                    rw [hread]
                    go_wp2_with (first | (go_at_call 10; refine (Coin.timesS _ _ _).mono ?_; rintro e w' ⟨rfl, rfl⟩) | (go_at_call 9; refine (Coin.timesI _ _ _).mono ?_; rintro e w' ⟨rfl, rfl⟩) | (go_at_call 8; refine (Coin.addI _ _ _).mono ?_; rintro e w' ⟨rfl, rfl⟩) | (go_at_call 13; refine (Coin.okS _ _).mono ?_; rintro e w' ⟨rfl, rfl⟩))
                    go_ret
                    exact ⟨rfl, Text.below3 hbel hb3 hb4⟩
              · skip
                cases k3 : Coin.fitB (Coin.addV a b) d
                · skip
                  cases h3 : Coin.fitB c d
                  · rw [h3] at g3
                    go_wp2_with (first | (go_at_call 10; refine (Coin.timesS _ _ _).mono ?_; rintro e w' ⟨rfl, rfl⟩) | (go_at_call 9; refine (Coin.timesI _ _ _).mono ?_; rintro e w' ⟨rfl, rfl⟩) | (go_at_call 8; refine (Coin.addI _ _ _).mono ?_; rintro e w' ⟨rfl, rfl⟩) | (go_at_call 13; refine (Coin.okS _ _).mono ?_; rintro e w' ⟨rfl, rfl⟩))
                    refine (Text.textI a _ he2.1).mono ?_
                    rintro e w3 ⟨rfl, hb3⟩
                    go_wp2_with fail
                    refine (Text.readI ⟨(Text.textL a).toArray⟩ w3 (text_small a) (he2.kept hb3)).mono ?_
                    rintro e w4 ⟨rfl, hb4⟩
                    rw [hread]
                    go_wp2_with (first | (go_at_call 10; refine (Coin.timesS _ _ _).mono ?_; rintro e w' ⟨rfl, rfl⟩) | (go_at_call 9; refine (Coin.timesI _ _ _).mono ?_; rintro e w' ⟨rfl, rfl⟩) | (go_at_call 8; refine (Coin.addI _ _ _).mono ?_; rintro e w' ⟨rfl, rfl⟩) | (go_at_call 13; refine (Coin.okS _ _).mono ?_; rintro e w' ⟨rfl, rfl⟩))
                    go_ret
                    exact ⟨rfl, Text.below3 hbel hb3 hb4⟩
                  · rw [h3] at g3
                    by_cases h4 : d = 0
                    · have h4' : (d != 0) = false := by simpa using h4
                      clear h4
                      go_wp2_with (first | (go_at_call 10; refine (Coin.timesS _ _ _).mono ?_; rintro e w' ⟨rfl, rfl⟩) | (go_at_call 9; refine (Coin.timesI _ _ _).mono ?_; rintro e w' ⟨rfl, rfl⟩) | (go_at_call 8; refine (Coin.addI _ _ _).mono ?_; rintro e w' ⟨rfl, rfl⟩) | (go_at_call 13; refine (Coin.okS _ _).mono ?_; rintro e w' ⟨rfl, rfl⟩))
                      refine (Text.textI a _ he2.1).mono ?_
                      rintro e w3 ⟨rfl, hb3⟩
                      go_wp2_with fail
                      refine (Text.readI ⟨(Text.textL a).toArray⟩ w3 (text_small a) (he2.kept hb3)).mono ?_
                      rintro e w4 ⟨rfl, hb4⟩
                      rw [hread]
                      go_wp2_with (first | (go_at_call 10; refine (Coin.timesS _ _ _).mono ?_; rintro e w' ⟨rfl, rfl⟩) | (go_at_call 9; refine (Coin.timesI _ _ _).mono ?_; rintro e w' ⟨rfl, rfl⟩) | (go_at_call 8; refine (Coin.addI _ _ _).mono ?_; rintro e w' ⟨rfl, rfl⟩) | (go_at_call 13; refine (Coin.okS _ _).mono ?_; rintro e w' ⟨rfl, rfl⟩))
                      go_ret
                      exact ⟨rfl, Text.below3 hbel hb3 hb4⟩
                    · have h4' : (d != 0) = true := by simpa using h4
                      obtain ⟨q1, q2⟩ := times_div h3 h4
                      go_wp2_with (first | (go_at_call 10; refine (Coin.timesS _ _ _).mono ?_; rintro e w' ⟨rfl, rfl⟩) | (go_at_call 9; refine (Coin.timesI _ _ _).mono ?_; rintro e w' ⟨rfl, rfl⟩) | (go_at_call 8; refine (Coin.addI _ _ _).mono ?_; rintro e w' ⟨rfl, rfl⟩) | (go_at_call 13; refine (Coin.okS _ _).mono ?_; rintro e w' ⟨rfl, rfl⟩))
                      refine (Text.textI a _ he2.1).mono ?_
                      rintro e w3 ⟨rfl, hb3⟩
                      go_wp2_with fail
                      refine (Text.readI ⟨(Text.textL a).toArray⟩ w3 (text_small a) (he2.kept hb3)).mono ?_
                      rintro e w4 ⟨rfl, hb4⟩
                      rw [hread]
                      go_wp2_with (first | (go_at_call 10; refine (Coin.timesS _ _ _).mono ?_; rintro e w' ⟨rfl, rfl⟩) | (go_at_call 9; refine (Coin.timesI _ _ _).mono ?_; rintro e w' ⟨rfl, rfl⟩) | (go_at_call 8; refine (Coin.addI _ _ _).mono ?_; rintro e w' ⟨rfl, rfl⟩) | (go_at_call 13; refine (Coin.okS _ _).mono ?_; rintro e w' ⟨rfl, rfl⟩))
                      go_ret
                      exact ⟨rfl, Text.below3 hbel hb3 hb4⟩
                · skip
                  have hz : (Coin.addV (Coin.timesV a d) (Coin.timesV b d) != Coin.timesV (Coin.addV a b) d) = false := by simpa using spread h1 k0 k1 k2 k3
                  cases h3 : Coin.fitB c d
                  · rw [h3] at g3
                    go_wp2_with (first | (go_at_call 10; refine (Coin.timesS _ _ _).mono ?_; rintro e w' ⟨rfl, rfl⟩) | (go_at_call 9; refine (Coin.timesI _ _ _).mono ?_; rintro e w' ⟨rfl, rfl⟩) | (go_at_call 8; refine (Coin.addI _ _ _).mono ?_; rintro e w' ⟨rfl, rfl⟩) | (go_at_call 13; refine (Coin.okS _ _).mono ?_; rintro e w' ⟨rfl, rfl⟩))
                    refine (Text.textI a _ he2.1).mono ?_
                    rintro e w3 ⟨rfl, hb3⟩
                    go_wp2_with fail
                    refine (Text.readI ⟨(Text.textL a).toArray⟩ w3 (text_small a) (he2.kept hb3)).mono ?_
                    rintro e w4 ⟨rfl, hb4⟩
                    rw [hread]
                    go_wp2_with (first | (go_at_call 10; refine (Coin.timesS _ _ _).mono ?_; rintro e w' ⟨rfl, rfl⟩) | (go_at_call 9; refine (Coin.timesI _ _ _).mono ?_; rintro e w' ⟨rfl, rfl⟩) | (go_at_call 8; refine (Coin.addI _ _ _).mono ?_; rintro e w' ⟨rfl, rfl⟩) | (go_at_call 13; refine (Coin.okS _ _).mono ?_; rintro e w' ⟨rfl, rfl⟩))
                    go_ret
                    exact ⟨rfl, Text.below3 hbel hb3 hb4⟩
                  · rw [h3] at g3
                    by_cases h4 : d = 0
                    · have h4' : (d != 0) = false := by simpa using h4
                      clear h4
                      go_wp2_with (first | (go_at_call 10; refine (Coin.timesS _ _ _).mono ?_; rintro e w' ⟨rfl, rfl⟩) | (go_at_call 9; refine (Coin.timesI _ _ _).mono ?_; rintro e w' ⟨rfl, rfl⟩) | (go_at_call 8; refine (Coin.addI _ _ _).mono ?_; rintro e w' ⟨rfl, rfl⟩) | (go_at_call 13; refine (Coin.okS _ _).mono ?_; rintro e w' ⟨rfl, rfl⟩))
                      refine (Text.textI a _ he2.1).mono ?_
                      rintro e w3 ⟨rfl, hb3⟩
                      go_wp2_with fail
                      refine (Text.readI ⟨(Text.textL a).toArray⟩ w3 (text_small a) (he2.kept hb3)).mono ?_
                      rintro e w4 ⟨rfl, hb4⟩
                      rw [hread]
                      go_wp2_with (first | (go_at_call 10; refine (Coin.timesS _ _ _).mono ?_; rintro e w' ⟨rfl, rfl⟩) | (go_at_call 9; refine (Coin.timesI _ _ _).mono ?_; rintro e w' ⟨rfl, rfl⟩) | (go_at_call 8; refine (Coin.addI _ _ _).mono ?_; rintro e w' ⟨rfl, rfl⟩) | (go_at_call 13; refine (Coin.okS _ _).mono ?_; rintro e w' ⟨rfl, rfl⟩))
                      go_ret
                      exact ⟨rfl, Text.below3 hbel hb3 hb4⟩
                    · have h4' : (d != 0) = true := by simpa using h4
                      obtain ⟨q1, q2⟩ := times_div h3 h4
                      go_wp2_with (first | (go_at_call 10; refine (Coin.timesS _ _ _).mono ?_; rintro e w' ⟨rfl, rfl⟩) | (go_at_call 9; refine (Coin.timesI _ _ _).mono ?_; rintro e w' ⟨rfl, rfl⟩) | (go_at_call 8; refine (Coin.addI _ _ _).mono ?_; rintro e w' ⟨rfl, rfl⟩) | (go_at_call 13; refine (Coin.okS _ _).mono ?_; rintro e w' ⟨rfl, rfl⟩))
                      refine (Text.textI a _ he2.1).mono ?_
                      rintro e w3 ⟨rfl, hb3⟩
                      go_wp2_with fail
                      refine (Text.readI ⟨(Text.textL a).toArray⟩ w3 (text_small a) (he2.kept hb3)).mono ?_
                      rintro e w4 ⟨rfl, hb4⟩
                      rw [hread]
                      go_wp2_with (first | (go_at_call 10; refine (Coin.timesS _ _ _).mono ?_; rintro e w' ⟨rfl, rfl⟩) | (go_at_call 9; refine (Coin.timesI _ _ _).mono ?_; rintro e w' ⟨rfl, rfl⟩) | (go_at_call 8; refine (Coin.addI _ _ _).mono ?_; rintro e w' ⟨rfl, rfl⟩) | (go_at_call 13; refine (Coin.okS _ _).mono ?_; rintro e w' ⟨rfl, rfl⟩))
                      go_ret
                      exact ⟨rfl, Text.below3 hbel hb3 hb4⟩
end Go.Proofs.YtlgmelmagciopaaDoor.Law
