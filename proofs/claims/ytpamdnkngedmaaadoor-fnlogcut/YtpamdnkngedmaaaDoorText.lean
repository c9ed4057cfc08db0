/-
  CoinText, the program's and the document's: both write one and the same text.
-/
import Derived.Test.YtpamdnkngedmaaaDoorCoin
import Derived.Test.YtpamdnkngedmaaaDoorDec
import Derived.Test.YtpamdnkngedmaaaDoorShelfI
import Derived.Lib.AppendIntMem
namespace Go.Proofs.YtpamdnkngedmaaaDoor.Text
set_option linter.unusedVariables false
open Go.RowKit Coin
open Dec (cat digit dec_step nDig dec dec_pos)

/-- a variable of the program reads as before where only new memory came -/
theorem var_kept {P : Program} {w w' : World} {n : String} {cs : Array Value} (h : w.var? P n = some cs) (hb : Below w.heap.size w w') : w'.var? P n = some cs := by
  unfold World.var? at h ⊢
  cases hg : P.globalNamed n with
  | none => simp [hg] at h
  | some g =>
    simp only [hg, Option.bind_some] at h ⊢
    have hlt : g < w.heap.size := by
      rcases Nat.lt_or_ge g w.heap.size with h' | h'
      · exact h'
      · rw [Array.getElem?_eq_none h'] at h; simp at h
    rw [hb.block g hlt]
    exact h

/-- the table of tens that strconv reads -/
def Tens (w : World) : Prop := Lib.TabIs Tryd.prog w "internal/strconv.uint64pow10" .u64 Lib.pow10Tab
theorem Tens.kept {w w' : World} (h : Tens w) (hb : Below w.heap.size w w') : Tens w' := var_kept h hb

theorem itoaI (n : Int) (w : World) (h0 : -9223372036854775808 ≤ n) (h1 : n ≤ 9223372036854775807) (ht : Tens w) :
    Calls Tryd.prog 23 #[.int .i64 n] w fun e w' => e = .returned (.string ⟨(Lib.itoa n).toArray⟩) ∧ Below w.heap.size w w' := by
  refine (Tryd.strconv_Itoa n h0 h1 w ht).mono ?_
  rintro e w' ⟨rfl, k, os, rfl⟩
  exact ⟨rfl, Lib.below_grow w.heap.size w (Nat.le_refl _) k os⟩

/-- the text of an amount without its sign -/
def textP (n : Nat) : List UInt8 := Lib.decDigits (n / 100) ++ [46, UInt8.ofNat (48 + n / 10 % 10), UInt8.ofNat (48 + n % 10)]
/-- the text of a number: empty, if it is no amount -/
def textL (n : Int) : List UInt8 := if okB n = true then (if n < 0 then 45 :: textP n.natAbs else textP n.natAbs) else []

theorem dig_len (n : Int) (h : 0 ≤ n) (h' : n ≤ 9223372036854775807) : ∃ L : List UInt8, Lib.itoa n = L ∧ L.length ≤ 20 := by
  obtain ⟨m, rfl⟩ := Int.eq_ofNat_of_zero_le h
  exact ⟨_, rfl, by rw [Lib.itoa_nonneg]; exact nDig m (by omega)⟩

theorem itoa_cast (k : Nat) (x : Int) (h : x = (k : Int)) : Lib.itoa x = Lib.decDigits k := by rw [h, Lib.itoa_nonneg]
theorem textP_of {n : Nat} {L1 L2 L3 : List UInt8} (h1 : Lib.itoa ((n : Int) / 100) = L1) (h2 : Lib.itoa ((n : Int) / 10 % 10) = L2) (h3 : Lib.itoa ((n : Int) % 10) = L3) : (((⟨L1.toArray⟩ : ByteArray) ++ ⟨#[46]⟩) ++ ⟨L2.toArray⟩) ++ ⟨L3.toArray⟩ = ⟨(textP n).toArray⟩ := by
  show (((⟨L1.toArray⟩ : ByteArray) ++ ⟨[46].toArray⟩) ++ ⟨L2.toArray⟩) ++ ⟨L3.toArray⟩ = _
  rw [cat, cat, cat]
  rw [itoa_cast (n / 100) _ (by omega)] at h1
  rw [itoa_cast (n / 10 % 10) _ (by omega), Lib.decDigits_one (by omega)] at h2
  rw [itoa_cast (n % 10) _ (by omega), Lib.decDigits_one (by omega)] at h3
  rw [← h1, ← h2, ← h3]
  simp [textP]
theorem below3 {a b c d : World} (h1 : Below a.heap.size a b) (h2 : Below b.heap.size b c) (h3 : Below c.heap.size c d) : Below a.heap.size a d :=
  h1.trans ((h2.mono h1.size).trans (h3.mono (Nat.le_trans h1.size h2.size)))

theorem textP_len (n : Nat) (hn : n ≤ 1000000000000000) : (textP n).length ≤ 23 := by
  unfold textP
  have := nDig (n / 100) (by omega)
  simp; omega

/-- two decimals -/
theorem cents_of (x : Int) (h : 0 ≤ x) : ∃ c1 c2 : UInt8, Lib.itoa (100 + x % 100) = [49, c1, c2] ∧ (c1 = UInt8.ofNat (48 + x.toNat / 10 % 10) ∧ c2 = UInt8.ofNat (48 + x.toNat % 10)) := by
  obtain ⟨m, rfl⟩ := Int.eq_ofNat_of_zero_le h
  have hr : m % 100 < 100 := by omega
  refine ⟨_, _, ?_, rfl, rfl⟩
  rw [itoa_cast (100 + m % 100) _ (by omega), dec_step (by omega), dec_step (m := (100 + m % 100) / 10) (by omega), Lib.decDigits_one (by omega)]
  have e1 : (100 + m % 100) / 10 % 10 = m / 10 % 10 := by omega
  have e2 : (100 + m % 100) % 10 = m % 10 := by omega
  have e3 : (100 + m % 100) / 10 / 10 = 1 := by omega
  rw [e1, e2, e3]; simp

theorem natAbs_sz (n : Int) : n.natAbs = (sz n).toNat := by unfold sz; split <;> omega
theorem text_sign (pre : List UInt8) (x : Int) (h : 0 ≤ x) {L1 : List UInt8} {c1 c2 : UInt8} (h1 : Lib.itoa (x / 100) = L1) (hc : c1 = UInt8.ofNat (48 + x.toNat / 10 % 10) ∧ c2 = UInt8.ofNat (48 + x.toNat % 10)) : (((⟨pre.toArray⟩ : ByteArray) ++ ⟨L1.toArray⟩) ++ ⟨#[46]⟩) ++ (⟨#[49, c1, c2]⟩ : ByteArray).extract 1 3 = ⟨(pre ++ textP x.toNat).toArray⟩ := by
  have e : (⟨#[49, c1, c2]⟩ : ByteArray).extract 1 3 = ⟨[c1, c2].toArray⟩ := by apply ByteArray.ext; simp
  rw [e]
  show (((⟨pre.toArray⟩ : ByteArray) ++ ⟨L1.toArray⟩) ++ ⟨[46].toArray⟩) ++ ⟨[c1, c2].toArray⟩ = _
  rw [cat, cat, cat]
  obtain ⟨m, rfl⟩ := Int.eq_ofNat_of_zero_le h
  rw [itoa_cast (m / 100) _ (by omega)] at h1
  obtain ⟨rfl, rfl⟩ := hc
  rw [← h1]
  simp [textP]

end Go.Proofs.YtpamdnkngedmaaaDoor.Text
