/-
  Texts of amounts, read back: plain facts on lists of bytes.
-/
import Derived.Test.YtpamdnkngedmaaaDoorText
import Derived.Lib.AtoiTie
import Derived.Lib.AtoiAllCases
import Derived.Lib.IndexMore
namespace Go.Proofs.YtpamdnkngedmaaaDoor.Text
set_option linter.unusedVariables false
open Coin
open Dec (dec_step nDig)

theorem decFrom_append (r : List UInt8) : ∀ (l : List UInt8) (acc : Nat), Lib.decFrom acc (l ++ r) = (Lib.decFrom acc l).bind fun m => Lib.decFrom m r
  | [], acc => by simp [Lib.decFrom]
  | b :: l, acc => by
    simp only [List.cons_append, Lib.decFrom]
    cases h : Lib.digitVal b with
    | none => simp
    | some d => simp [decFrom_append r l]

theorem digitVal_of {k : Nat} (h : k < 10) : Lib.digitVal (UInt8.ofNat (48 + k)) = some k := by
  unfold Lib.digitVal
  have e : (UInt8.ofNat (48 + k)).toNat = 48 + k := by simp; omega
  rw [e]
  simp; omega

theorem decFrom_one (acc k : Nat) (h : k < 10) : Lib.decFrom acc [UInt8.ofNat (48 + k)] = some (acc * 10 + k) := by
  simp only [Lib.decFrom]
  rw [digitVal_of h]

theorem decFrom_digits (f : Nat) : ∀ m, m ≤ f → Lib.decFrom 0 (Lib.decDigits m) = some m := by
  induction f with
  | zero => intro m h; obtain rfl : m = 0 := by omega
            rw [Lib.decDigits_one (by omega), decFrom_one 0 0 (by omega)]
  | succ f ih =>
    intro m h
    by_cases h9 : 9 < m
    · rw [dec_step h9, decFrom_append, ih (m / 10) (by omega)]
      simp only [Option.bind_some]
      rw [decFrom_one _ _ (by omega)]
      congr 1; omega
    · rw [Lib.decDigits_one (by omega), decFrom_one 0 m (by omega)]; simp

/-- the digits of an amount's text spell it -/
theorem text_value (m : Nat) : Lib.decFrom 0 (Lib.decDigits (m / 100) ++ [UInt8.ofNat (48 + m / 10 % 10), UInt8.ofNat (48 + m % 10)]) = some m := by
  rw [decFrom_append, decFrom_digits _ _ (Nat.le_refl _)]
  simp only [Option.bind_some]
  have e : [UInt8.ofNat (48 + m / 10 % 10), UInt8.ofNat (48 + m % 10)] = [UInt8.ofNat (48 + m / 10 % 10)] ++ [UInt8.ofNat (48 + m % 10)] := rfl
  rw [e, decFrom_append, decFrom_one _ _ (by omega)]
  simp only [Option.bind_some]
  rw [decFrom_one _ _ (by omega)]
  congr 1; omega

theorem digits_are (f : Nat) : ∀ m, m ≤ f → ∀ b ∈ Lib.decDigits m, 48 ≤ b.toNat ∧ b.toNat ≤ 57 := by
  have one : ∀ k, k < 10 → 48 ≤ (UInt8.ofNat (48 + k)).toNat ∧ (UInt8.ofNat (48 + k)).toNat ≤ 57 := by
    intro k hk
    have e : (UInt8.ofNat (48 + k)).toNat = 48 + k := by simp; omega
    omega
  induction f with
  | zero => intro m h b hb; obtain rfl : m = 0 := by omega
            rw [Lib.decDigits_one (by omega)] at hb
            obtain rfl := List.mem_singleton.1 hb
            exact one 0 (by omega)
  | succ f ih =>
    intro m h b hb
    by_cases h9 : 9 < m
    · rw [dec_step h9] at hb
      rcases List.mem_append.1 hb with h' | h'
      · exact ih (m / 10) (by omega) b h'
      · obtain rfl := List.mem_singleton.1 h'
        exact one _ (by omega)
    · rw [Lib.decDigits_one (by omega)] at hb
      obtain rfl := List.mem_singleton.1 hb
      exact one m (by omega)

theorem index_split (r : List UInt8) : ∀ (l : List UInt8), (∀ b ∈ l, b ≠ 46) → Lib.index (l ++ 46 :: r) [46] = l.length
  | [], _ => by simp [Lib.index]
  | b :: l, h => by
    have hb : b ≠ 46 := h b (List.mem_cons_self ..)
    have ih := index_split r l (fun x hx => h x (List.mem_cons_of_mem _ hx))
    simp only [List.cons_append, Lib.index]
    have e : [46].isPrefixOf (b :: (l ++ 46 :: r)) = false := by simp [List.isPrefixOf]; exact fun e => hb e.symm
    rw [e, ih]
    have e2 : (((l.length : Int)) == -1) = false := beq_eq_false_iff_ne.2 (by omega)
    rw [e2]; simp

theorem cut_split (l r : List UInt8) (h : ∀ b ∈ l, b ≠ 46) : Lib.cut (l ++ 46 :: r) [46] = (l, r, true) := by
  unfold Lib.cut
  rw [index_split r l h, if_pos (by omega)]
  simp

/-- the sign ahead -/
def sgn (v : Int) : List UInt8 := if v < 0 then [45] else []
theorem textL_eq {v : Int} (h : okB v = true) : textL v = sgn v ++ Lib.decDigits (v.natAbs / 100) ++ 46 :: [UInt8.ofNat (48 + v.natAbs / 10 % 10), UInt8.ofNat (48 + v.natAbs % 10)] := by
  unfold textL sgn textP
  rw [if_pos h]
  split <;> simp

theorem digits_cons (m : Nat) : ∃ c r, Lib.decDigits m = c :: r ∧ 48 ≤ c.toNat ∧ c.toNat ≤ 57 := by
  have hd := digits_are m m (Nat.le_refl _)
  cases h : Lib.decDigits m with
  | nil =>
    have hl : (Lib.decDigits m).length = 0 := by rw [h]; rfl
    by_cases h9 : 9 < m
    · rw [dec_step h9] at hl; simp at hl
    · rw [Lib.decDigits_one (by omega)] at hl; simp at hl
  | cons c r => rw [h] at hd; exact ⟨c, r, rfl, hd c (List.mem_cons_self ..)⟩

theorem digLen (k : Nat) : ∀ m, m < 10 ^ (k + 1) → (Lib.decDigits m).length ≤ k + 1 := by
  induction k with
  | zero => intro n h; rw [Lib.decDigits_one (by omega)]; simp
  | succ k ih =>
    intro n h
    by_cases h9 : 9 < n
    · rw [dec_step h9]
      have := ih (n / 10) (by rw [Nat.pow_succ] at h; omega)
      simp; omega
    · rw [Lib.decDigits_one (by omega)]; simp

theorem atoi_text {v : Int} (h : okB v = true) : Lib.atoiAll (sgn v ++ Lib.decDigits (v.natAbs / 100) ++ [UInt8.ofNat (48 + v.natAbs / 10 % 10), UInt8.ofNat (48 + v.natAbs % 10)]) = .ok v := by
  have hb := okB_iff.1 h
  have hl := digLen 13 (v.natAbs / 100) (by omega)
  have hv := text_value v.natAbs
  obtain ⟨c, r, hc, c1, c2⟩ := digits_cons (v.natAbs / 100)
  have hne : Lib.decNat (Lib.decDigits (v.natAbs / 100) ++ [UInt8.ofNat (48 + v.natAbs / 10 % 10), UInt8.ofNat (48 + v.natAbs % 10)]) = some v.natAbs := by
    rw [hc] at hv ⊢
    simpa [Lib.decNat] using hv
  have hlen : (sgn v ++ Lib.decDigits (v.natAbs / 100) ++ [UInt8.ofNat (48 + v.natAbs / 10 % 10), UInt8.ofNat (48 + v.natAbs % 10)]).length ≤ 18 := by
    unfold sgn; split <;> simp <;> omega
  rw [Lib.atoiAll_short _ hlen]
  have e : Lib.atoi (sgn v ++ Lib.decDigits (v.natAbs / 100) ++ [UInt8.ofNat (48 + v.natAbs / 10 % 10), UInt8.ofNat (48 + v.natAbs % 10)]) = some v := by
    unfold sgn
    by_cases hs : v < 0
    · rw [if_pos hs]
      simp only [List.cons_append, List.nil_append, Lib.atoi]
      rw [if_pos (by decide), hne]
      simp; omega
    · rw [if_neg hs, List.nil_append, hc]
      rw [hc] at hne
      simp only [List.cons_append, Lib.atoi]
      have n45 : (c == 45) = false := by simp; intro e; rw [e] at c1; exact absurd c1 (by decide)
      have n43 : (c == 43) = false := by simp; intro e; rw [e] at c1; exact absurd c1 (by decide)
      rw [n45, n43]
      simp only [Bool.false_eq_true, if_false]
      rw [show c :: (r ++ [UInt8.ofNat (48 + v.natAbs / 10 % 10), UInt8.ofNat (48 + v.natAbs % 10)]) = c :: r ++ [UInt8.ofNat (48 + v.natAbs / 10 % 10), UInt8.ofNat (48 + v.natAbs % 10)] from rfl, hne]
      simp; omega
  rw [e]; rfl

/-- v is the amount whose text this is -/
def IsText (t : List UInt8) (v : Int) : Prop := okB v = true ∧ textL v = t

/-- the amount whose text this is, if there is one -/
def readOf (t : List UInt8) : Option Int :=
  match Lib.atoiAll ((Lib.cut t [46]).1 ++ (Lib.cut t [46]).2.1) with
  | .ok v => if textL v = t then some v else none
  | _ => none

theorem sgn_ne {v : Int} : ∀ b ∈ sgn v ++ Lib.decDigits (v.natAbs / 100), b ≠ 46 := by
  intro b hb
  rcases List.mem_append.1 hb with h | h
  · unfold sgn at h
    split at h
    · obtain rfl := List.mem_singleton.1 h; decide
    · cases h
  · have := digits_are _ _ (Nat.le_refl _) b h
    intro e; rw [e] at this; exact absurd this.1 (by decide)

theorem read_of_text {t : List UInt8} {v : Int} (h : IsText t v) : readOf t = some v := by
  obtain ⟨ho, rfl⟩ := h
  unfold readOf
  have e := textL_eq ho
  have ec : Lib.cut (textL v) [46] = (sgn v ++ Lib.decDigits (v.natAbs / 100), [UInt8.ofNat (48 + v.natAbs / 10 % 10), UInt8.ofNat (48 + v.natAbs % 10)], true) := by
    rw [e]; exact cut_split _ _ sgn_ne
  rw [ec]
  simp only
  rw [atoi_text ho]
  simp

theorem text_of_read {t : List UInt8} {v : Int} (h : readOf t = some v) : IsText t v := by
  unfold readOf at h
  split at h
  · next u hu =>
    split at h
    · next ht =>
      obtain rfl := Option.some.inj h
      refine ⟨?_, ht⟩
      cases ho : okB u
      · have e0 : textL u = [] := by simp [textL, ho]
        rw [e0] at ht
        rw [← ht] at hu
        have : Lib.cut [] [46] = ([], [], false) := by decide
        rw [this] at hu
        cases hu
      · rfl
    · cases h
  · cases h
end Go.Proofs.YtpamdnkngedmaaaDoor.Text
