/-
  CoinText, the program's and the document's: both write one and the same text.
-/
import Derived.Test.YtlgmelmagciopaaDoorCoin
import Derived.Test.YtlgmelmagciopaaDoorDec
import Derived.Test.YtlgmelmagciopaaDoorShelfI
import Derived.Lib.AppendIntMem
namespace Go.Proofs.YtlgmelmagciopaaDoor.Text
set_option linter.unusedVariables false
open Go.RowKit Coin
open Dec (cat digit dec_step nDig dec dec_pos)

/-- a variable of the program reads as before where only new memory came -/
theorem var_kept {P : Program} {w w' : World} {n : String} {cs : Array Value} (h : w.var? P n = some cs) (hb : Below w.heap.size w w') : w'.var? P n = some cs := by
  unfold World.var? at h ⊢
  cases hg : P.globalNamed n with
  | none => simp [hg] at h
  | some g =>
    simp only [hg, Option.bind_some] at h ⊢
    have hlt : g < w.heap.size := by
      rcases Nat.lt_or_ge g w.heap.size with h' | h'
      · exact h'
      · rw [Array.getElem?_eq_none h'] at h; simp at h
    rw [hb.block g hlt]
    exact h

/-- the table of tens that strconv reads -/
def Tens (w : World) : Prop := Lib.TabIs Tryd.prog w "internal/strconv.uint64pow10" .u64 Lib.pow10Tab
theorem Tens.kept {w w' : World} (h : Tens w) (hb : Below w.heap.size w w') : Tens w' := var_kept h hb

theorem itoaI (n : Int) (w : World) (h0 : -9223372036854775808 ≤ n) (h1 : n ≤ 9223372036854775807) (ht : Tens w) :
    Calls Tryd.prog 35 #[.int .i64 n] w fun e w' => e = .returned (.string ⟨(Lib.itoa n).toArray⟩) ∧ Below w.heap.size w w' := by
  refine (Tryd.strconv_Itoa n h0 h1 w ht).mono ?_
  rintro e w' ⟨rfl, k, os, rfl⟩
  exact ⟨rfl, Lib.below_grow w.heap.size w (Nat.le_refl _) k os⟩

/-- the text of an amount without its sign -/
def textP (n : Nat) : List UInt8 := Lib.decDigits (n / 100) ++ [46, UInt8.ofNat (48 + n / 10 % 10), UInt8.ofNat (48 + n % 10)]
/-- the text of a number: empty, if it is no amount -/
def textL (n : Int) : List UInt8 := if okB n = true then (if n < 0 then 45 :: textP n.natAbs else textP n.natAbs) else []

theorem dig_len (n : Int) (h : 0 ≤ n) (h' : n ≤ 9223372036854775807) : ∃ L : List UInt8, Lib.itoa n = L ∧ L.length ≤ 20 := by
  obtain ⟨m, rfl⟩ := Int.eq_ofNat_of_zero_le h
  exact ⟨_, rfl, by rw [Lib.itoa_nonneg]; exact nDig m (by omega)⟩

theorem itoa_cast (k : Nat) (x : Int) (h : x = (k : Int)) : Lib.itoa x = Lib.decDigits k := by rw [h, Lib.itoa_nonneg]
theorem textP_of {n : Nat} {L1 L2 L3 : List UInt8} (h1 : Lib.itoa ((n : Int) / 100) = L1) (h2 : Lib.itoa ((n : Int) / 10 % 10) = L2) (h3 : Lib.itoa ((n : Int) % 10) = L3) : (((⟨L1.toArray⟩ : ByteArray) ++ ⟨#[46]⟩) ++ ⟨L2.toArray⟩) ++ ⟨L3.toArray⟩ = ⟨(textP n).toArray⟩ := by
  show (((⟨L1.toArray⟩ : ByteArray) ++ ⟨[46].toArray⟩) ++ ⟨L2.toArray⟩) ++ ⟨L3.toArray⟩ = _
  rw [cat, cat, cat]
  rw [itoa_cast (n / 100) _ (by omega)] at h1
  rw [itoa_cast (n / 10 % 10) _ (by omega), Lib.decDigits_one (by omega)] at h2
  rw [itoa_cast (n % 10) _ (by omega), Lib.decDigits_one (by omega)] at h3
  rw [← h1, ← h2, ← h3]
  simp [textP]
theorem below3 {a b c d : World} (h1 : Below a.heap.size a b) (h2 : Below b.heap.size b c) (h3 : Below c.heap.size c d) : Below a.heap.size a d :=
  h1.trans ((h2.mono h1.size).trans (h3.mono (Nat.le_trans h1.size h2.size)))

theorem textS_pos (n : Nat) (w : World) (hn : n ≤ 1000000000000000) :
    Calls Tryd.prog 14 #[.int .i64 n] w fun e w' => e = .returned (.string ⟨(textP n).toArray⟩) ∧ Below w.heap.size w w' := by
  have hok : okB (n : Int) = true := okB_true (by omega)
  go_enter Tryd.func14, Tryd.ntmps14
  go_wp2_with (first | (go_at_call 13; refine (okS _ _).mono ?_; rintro e w' ⟨rfl, rfl⟩))
  refine (dec _ _ (by omega) (by omega)).mono ?_
  rintro e w1 ⟨rfl, hb1⟩
  obtain ⟨L1, hL1, hl1⟩ := dig_len ((n : Int) / 100) (by omega) (by omega)
  rw [hL1]
  go_wp2_with fail
  refine (dec _ _ (by omega) (by omega)).mono ?_
  rintro e w2 ⟨rfl, hb2⟩
  obtain ⟨L2, hL2, hl2⟩ := dig_len ((n : Int) / 10 % 10) (by omega) (by omega)
  rw [hL2]
  have H1 := hide hL1; have H2 := hide hL2; clear hL1 hL2
  go_wp2_with fail
  refine (dec _ _ (by omega) (by omega)).mono ?_
  rintro e w3 ⟨rfl, hb3⟩
  obtain ⟨L3, hL3, hl3⟩ := dig_len ((n : Int) % 10) (by omega) (by omega)
  rw [hL3]
  have H3 := hide hL3; clear hL3
  go_wp2
  go_ret
  exact ⟨congrArg (fun x => Ending.returned (.string x)) (textP_of (unhide H1) (unhide H2) (unhide H3)), below3 hb1 hb2 hb3⟩

theorem textP_len (n : Nat) (hn : n ≤ 1000000000000000) : (textP n).length ≤ 23 := by
  unfold textP
  have := nDig (n / 100) (by omega)
  simp; omega

theorem textS (n : Int) (w : World) :
    Calls Tryd.prog 14 #[.int .i64 n] w fun e w' => e = .returned (.string ⟨(textL n).toArray⟩) ∧ Below w.heap.size w w' := by
  cases hok : okB n
  · have e : textL n = [] := by simp [textL, hok]
    rw [e]
    go_enter Tryd.func14, Tryd.ntmps14
    go_wp2_with (first | (go_at_call 13; refine (okS _ _).mono ?_; rintro e w' ⟨rfl, rfl⟩))
    go_ret
    exact ⟨rfl, Below.refl _ _⟩
  · have hb := okB_iff.1 hok
    by_cases hs : n < 0
    · obtain ⟨m, hm⟩ := Int.eq_ofNat_of_zero_le (show 0 ≤ -n by omega)
      obtain rfl : n = -(m : Int) := by omega
      have e : textL (-(m : Int)) = 45 :: textP m := by unfold textL; rw [if_pos hok, if_pos hs]; simp
      rw [e]
      clear e hm
      have hl := textP_len m (by omega)
      go_enter Tryd.func14, Tryd.ntmps14
      go_wp2_with (first | (go_at_call 13; refine (okS _ _).mono ?_; rintro e w' ⟨rfl, rfl⟩))
      refine (textS_pos m _ (by omega)).mono ?_
      rintro e w1 ⟨rfl, hb1⟩
      go_wp2
      go_ret
      exact ⟨congrArg (fun x => Ending.returned (.string x)) (cat [45] (textP m)), hb1⟩
    · obtain ⟨m, rfl⟩ := Int.eq_ofNat_of_zero_le (show 0 ≤ n by omega)
      have e : textL (m : Int) = textP m := by unfold textL; rw [if_pos hok, if_neg hs]; simp
      rw [e]
      exact textS_pos m w (by omega)

/-- two decimals -/
theorem cents_of (x : Int) (h : 0 ≤ x) : ∃ c1 c2 : UInt8, Lib.itoa (100 + x % 100) = [49, c1, c2] ∧ (c1 = UInt8.ofNat (48 + x.toNat / 10 % 10) ∧ c2 = UInt8.ofNat (48 + x.toNat % 10)) := by
  obtain ⟨m, rfl⟩ := Int.eq_ofNat_of_zero_le h
  have hr : m % 100 < 100 := by omega
  refine ⟨_, _, ?_, rfl, rfl⟩
  rw [itoa_cast (100 + m % 100) _ (by omega), dec_step (by omega), dec_step (m := (100 + m % 100) / 10) (by omega), Lib.decDigits_one (by omega)]
  have e1 : (100 + m % 100) / 10 % 10 = m / 10 % 10 := by omega
  have e2 : (100 + m % 100) % 10 = m % 10 := by omega
  have e3 : (100 + m % 100) / 10 / 10 = 1 := by omega
  rw [e1, e2, e3]; simp

theorem natAbs_sz (n : Int) : n.natAbs = (sz n).toNat := by unfold sz; split <;> omega
theorem text_sign (pre : List UInt8) (x : Int) (h : 0 ≤ x) {L1 : List UInt8} {c1 c2 : UInt8} (h1 : Lib.itoa (x / 100) = L1) (hc : c1 = UInt8.ofNat (48 + x.toNat / 10 % 10) ∧ c2 = UInt8.ofNat (48 + x.toNat % 10)) : (((⟨pre.toArray⟩ : ByteArray) ++ ⟨L1.toArray⟩) ++ ⟨#[46]⟩) ++ (⟨#[49, c1, c2]⟩ : ByteArray).extract 1 3 = ⟨(pre ++ textP x.toNat).toArray⟩ := by
  have e : (⟨#[49, c1, c2]⟩ : ByteArray).extract 1 3 = ⟨[c1, c2].toArray⟩ := by apply ByteArray.ext; simp
  rw [e]
  show (((⟨pre.toArray⟩ : ByteArray) ++ ⟨L1.toArray⟩) ++ ⟨[46].toArray⟩) ++ ⟨[c1, c2].toArray⟩ = _
  rw [cat, cat, cat]
  obtain ⟨m, rfl⟩ := Int.eq_ofNat_of_zero_le h
  rw [itoa_cast (m / 100) _ (by omega)] at h1
  obtain ⟨rfl, rfl⟩ := hc
  rw [← h1]
  simp [textP]

theorem textM (n : Int) (w : World) (h1 : -1000000000000000 ≤ n) (h2 : n ≤ 1000000000000000) (ht : Tens w) :
    Calls Tryd.prog 25 #[.int .i64 n] w fun e w' => e = .returned (.string ⟨(if n < 0 then 45 :: textP n.natAbs else textP n.natAbs).toArray⟩) ∧ Below w.heap.size w w' := by
  have hz : 0 ≤ sz n ∧ sz n ≤ 1000000000000000 := by unfold sz; split <;> omega
  by_cases hs : n < 0
  · rw [if_pos hs]
    go_enter Tryd.func25, Tryd.ntmps25
    go_wp2_with (first | (go_at_call 31; refine (szM _ _ (by omega) (by omega)).mono ?_; rintro e w' ⟨rfl, rfl⟩))
    refine (itoaI _ _ (by omega) (by omega) ht).mono ?_
    rintro e w1 ⟨rfl, hb1⟩
    obtain ⟨c1, c2, hC, hc⟩ := cents_of (sz n) hz.1
    rw [hC]
    have HC := hide hc; clear hC hc
    go_wp2_with fail
    refine (itoaI _ _ (by omega) (by omega) (ht.kept hb1)).mono ?_
    rintro e w2 ⟨rfl, hb2⟩
    obtain ⟨L1, hL1, hl1⟩ := dig_len (sz n / 100) (by omega) (by omega)
    rw [hL1]
    have H1 := hide hL1; clear hL1
    go_wp2
    go_ret
    exact ⟨congrArg (fun x => Ending.returned (.string x)) (by rw [natAbs_sz n]; exact text_sign [45] (sz n) hz.1 (unhide H1) (unhide HC)), Dec.below2 hb1 hb2⟩
  · rw [if_neg hs]
    go_enter Tryd.func25, Tryd.ntmps25
    go_wp2_with (first | (go_at_call 31; refine (szM _ _ (by omega) (by omega)).mono ?_; rintro e w' ⟨rfl, rfl⟩))
    refine (itoaI _ _ (by omega) (by omega) ht).mono ?_
    rintro e w1 ⟨rfl, hb1⟩
    obtain ⟨c1, c2, hC, hc⟩ := cents_of (sz n) hz.1
    rw [hC]
    have HC := hide hc; clear hC hc
    go_wp2_with fail
    refine (itoaI _ _ (by omega) (by omega) (ht.kept hb1)).mono ?_
    rintro e w2 ⟨rfl, hb2⟩
    obtain ⟨L1, hL1, hl1⟩ := dig_len (sz n / 100) (by omega) (by omega)
    rw [hL1]
    have H1 := hide hL1; clear hL1
    go_wp2
    go_ret
    exact ⟨congrArg (fun x => Ending.returned (.string x)) (by rw [natAbs_sz n]; exact text_sign [] (sz n) hz.1 (unhide H1) (unhide HC)), Dec.below2 hb1 hb2⟩

theorem textI (n : Int) (w : World) (ht : Tens w) :
    Calls Tryd.prog 12 #[.int .i64 n] w fun e w' => e = .returned (.string ⟨(textL n).toArray⟩) ∧ Below w.heap.size w w' := by
  cases hok : okB n
  · have e : textL n = [] := by simp [textL, hok]
    rw [e]
    go_enter Tryd.func12, Tryd.ntmps12
    go_wp2_with (first | (go_at_call 24; refine (okI _ _).mono ?_; rintro e w' ⟨rfl, rfl⟩))
    go_ret
    exact ⟨rfl, Below.refl _ _⟩
  · have hb := okB_iff.1 hok
    have e : textL n = if n < 0 then 45 :: textP n.natAbs else textP n.natAbs := by unfold textL; rw [if_pos hok]
    rw [e]
    generalize hx : (if n < 0 then 45 :: textP n.natAbs else textP n.natAbs) = L
    have hM := textM n w hb.1 hb.2 ht
    rw [hx] at hM
    have HM := hide hM
    clear e hx hM
    go_enter Tryd.func12, Tryd.ntmps12
    go_wp2_with (first | (go_at_call 24; refine (okI _ _).mono ?_; rintro e w' ⟨rfl, rfl⟩) | (go_at_call 25; refine (unhide HM).mono ?_; rintro e w' ⟨rfl, hb1⟩))
    go_ret
    exact ⟨rfl, hb1⟩
end Go.Proofs.YtlgmelmagciopaaDoor.Text
