/-
  Numbers as texts (strconv.Itoa, strconv.Atoi; spec.l18Num): plain facts on lists of bytes; no program in it.
-/
import Derived.Test.YtpamdnkngedmaaaDoorProg
import Derived.Lib.ItoaNum
import Derived.Lib.ItoaMem
import Derived.Lib.AtoiTie
import Derived.Lib.AtoiAllCases
namespace Go.Proofs.YtpamdnkngedmaaaDoor.Num
set_option linter.unusedVariables false

def bytesOf (t : List UInt8) : ByteArray := ⟨t.toArray⟩
theorem decStep {m : Nat} (h : 9 < m) : Lib.decDigits m = Lib.decDigits (m / 10) ++ [UInt8.ofNat (48 + m % 10)] := by
  rw [Lib.decDigits, dif_neg (by omega)]
theorem digit_bd {k : Nat} (h : k < 10) : (UInt8.ofNat (48 + k)).toNat = 48 + k := by simp; omega
theorem digs (f : Nat) : ∀ m, m ≤ f → ∀ b ∈ Lib.decDigits m, 48 ≤ b.toNat ∧ b.toNat ≤ 57 := by
  induction f with
  | zero => intro m h b hb; obtain rfl : m = 0 := by omega
            rw [Lib.decDigits_one (by omega)] at hb
            obtain rfl := List.mem_singleton.1 hb
            rw [digit_bd (by omega)]; omega
  | succ f ih =>
    intro m h b hb
    by_cases h9 : 9 < m
    · rw [decStep h9] at hb
      rcases List.mem_append.1 hb with h' | h'
      · exact ih (m / 10) (by omega) b h'
      · obtain rfl := List.mem_singleton.1 h'
        rw [digit_bd (by omega)]; omega
    · rw [Lib.decDigits_one (by omega)] at hb
      obtain rfl := List.mem_singleton.1 hb
      rw [digit_bd (by omega)]; omega
theorem digs' (m : Nat) : ∀ b ∈ Lib.decDigits m, 48 ≤ b.toNat ∧ b.toNat ≤ 57 := digs m m (Nat.le_refl _)
/-- what a byte of a number can be -/
theorem itoa_bytes (n : Int) : ∀ b ∈ Lib.itoa n, b.toNat = 45 ∨ 48 ≤ b.toNat ∧ b.toNat ≤ 57 := by
  intro b hb
  unfold Lib.itoa at hb
  split at hb
  · rcases List.mem_cons.1 hb with rfl | h
    · exact .inl rfl
    · exact .inr (digs' _ b h)
  · exact .inr (digs' _ b hb)
theorem dd_ne (m : Nat) : Lib.decDigits m ≠ [] := by
  by_cases h9 : 9 < m
  · rw [decStep h9]; simp
  · rw [Lib.decDigits_one (by omega)]; simp
theorem itoa_ne (n : Int) : Lib.itoa n ≠ [] := by
  unfold Lib.itoa
  split
  · simp
  · exact dd_ne _
theorem ddLen (k : Nat) : ∀ m, m < 10 ^ (k + 1) → (Lib.decDigits m).length ≤ k + 1 := by
  induction k with
  | zero => intro n h; rw [Lib.decDigits_one (by omega)]; simp
  | succ k ih =>
    intro n h
    by_cases h9 : 9 < n
    · rw [decStep h9]
      have := ih (n / 10) (by rw [Nat.pow_succ] at h; omega)
      simp; omega
    · rw [Lib.decDigits_one (by omega)]; simp
theorem itoa_len {n : Int} (h1 : -1000000000000000000 < n) (h2 : n < 1000000000000000000) : (Lib.itoa n).length ≤ 19 := by
  unfold Lib.itoa
  split
  · have := ddLen 17 n.natAbs (by omega)
    simp; omega
  · have := ddLen 17 n.toNat (by omega)
    omega

theorem df_append (r : List UInt8) : ∀ (l : List UInt8) (acc : Nat), Lib.decFrom acc (l ++ r) = (Lib.decFrom acc l).bind fun m => Lib.decFrom m r
  | [], acc => by simp [Lib.decFrom]
  | b :: l, acc => by
    simp only [List.cons_append, Lib.decFrom]
    cases h : Lib.digitVal b with
    | none => simp
    | some d => simp [df_append r l]
theorem dv_of {k : Nat} (h : k < 10) : Lib.digitVal (UInt8.ofNat (48 + k)) = some k := by
  unfold Lib.digitVal
  rw [digit_bd h]
  simp; omega
theorem df_one (acc k : Nat) (h : k < 10) : Lib.decFrom acc [UInt8.ofNat (48 + k)] = some (acc * 10 + k) := by
  simp only [Lib.decFrom]
  rw [dv_of h]
theorem df_digits (f : Nat) : ∀ m, m ≤ f → Lib.decFrom 0 (Lib.decDigits m) = some m := by
  induction f with
  | zero => intro m h; obtain rfl : m = 0 := by omega
            rw [Lib.decDigits_one (by omega), df_one 0 0 (by omega)]
  | succ f ih =>
    intro m h
    by_cases h9 : 9 < m
    · rw [decStep h9, df_append, ih (m / 10) (by omega)]
      simp only [Option.bind_some]
      rw [df_one _ _ (by omega)]
      congr 1; omega
    · rw [Lib.decDigits_one (by omega), df_one 0 m (by omega)]; simp
/-- the first digit is no needless zero -/
theorem dd_head {m : Nat} (h : 1 ≤ m) : ∃ c r, Lib.decDigits m = c :: r ∧ c.toNat ≠ 48 := by
  have key : ∀ f m, m ≤ f → 1 ≤ m → ∃ c r, Lib.decDigits m = c :: r ∧ c.toNat ≠ 48 := by
    intro f
    induction f with
    | zero => intro m h1 h2; omega
    | succ f ih =>
      intro m h1 h2
      by_cases h9 : 9 < m
      · obtain ⟨c, r, e, hc⟩ := ih (m / 10) (by omega) (by omega)
        exact ⟨c, r ++ [UInt8.ofNat (48 + m % 10)], by rw [decStep h9, e]; rfl, hc⟩
      · exact ⟨UInt8.ofNat (48 + m), [], Lib.decDigits_one (by omega), by rw [digit_bd (by omega)]; omega⟩
  exact key m m (Nat.le_refl _) h

/-- a number of at most 17 digits -/
def numOk (n : Int) : Prop := -100000000000000000 < n ∧ n < 100000000000000000
theorem itoa_short {n : Int} (h : numOk n) : (Lib.itoa n).length ≤ 18 ∧ (0 ≤ n → (Lib.itoa n).length ≤ 17) := by
  unfold numOk at h
  unfold Lib.itoa
  split
  · have := ddLen 16 n.natAbs (by omega)
    exact ⟨by simp; omega, fun _ => by omega⟩
  · have := ddLen 16 n.toNat (by omega)
    exact ⟨by omega, fun _ => by omega⟩
theorem atoi_itoa {n : Int} (h : numOk n) : Lib.atoiAll (Lib.itoa n) = .ok n := by
  rw [Lib.atoiAll_short _ (by have := (itoa_short h).1; omega)]
  have e : Lib.atoi (Lib.itoa n) = some n := by
    unfold Lib.itoa
    split
    · next hn =>
      simp only [Lib.atoi]
      rw [if_pos (by decide)]
      have hd := df_digits _ n.natAbs (Nat.le_refl _)
      have : Lib.decNat (Lib.decDigits n.natAbs) = some n.natAbs := by
        cases h : Lib.decDigits n.natAbs with
        | nil => exact absurd h (dd_ne _)
        | cons c r => rw [h] at hd; simpa [Lib.decNat] using hd
      rw [this]
      simp; omega
    · next hn =>
      have hd := df_digits _ n.toNat (Nat.le_refl _)
      have hb := digs' n.toNat
      cases h : Lib.decDigits n.toNat with
      | nil => exact absurd h (dd_ne _)
      | cons c r =>
        rw [h] at hd hb
        have hc := hb c (List.mem_cons_self ..)
        simp only [Lib.atoi]
        have n45 : (c == 45) = false := by simp; intro e; rw [e] at hc; exact absurd hc.1 (by decide)
        have n43 : (c == 43) = false := by simp; intro e; rw [e] at hc; exact absurd hc.1 (by decide)
        rw [n45, n43]
        simp only [Bool.false_eq_true, if_false]
        have : Lib.decNat (c :: r) = some n.toNat := by simpa [Lib.decNat] using hd
        rw [this]
        simp; omega
  rw [e]; rfl

/-- a number of at most 17 digits, as it is written -/
def numL (s : List UInt8) : Option Int :=
  if s.head? = some 45 then (if s.tail.length = 0 ∨ 17 < s.tail.length ∨ s.tail.head? = some 48 then none else (Lib.decFrom 0 s.tail).map fun (n : Nat) => -(n : Int))
  else (if s.length = 0 ∨ 17 < s.length ∨ s.head? = some 48 ∧ 1 < s.length then none else (Lib.decFrom 0 s).map fun (n : Nat) => (n : Int))

theorem numL_itoa {n : Int} (h : numOk n) : numL (Lib.itoa n) = some n := by
  have hs := (itoa_short h).1
  have hs2 := (itoa_short h).2
  unfold Lib.itoa at *
  split
  · next hn =>
    rw [if_pos hn] at hs
    obtain ⟨c, r, e, hc⟩ := dd_head (m := n.natAbs) (by omega)
    unfold numL
    rw [if_pos (show (45 :: Lib.decDigits n.natAbs).head? = some 45 from rfl)]
    rw [if_neg]
    · show (Lib.decFrom 0 (Lib.decDigits n.natAbs)).map (fun (n : Nat) => -(n : Int)) = some n
      rw [df_digits _ _ (Nat.le_refl _)]; simp; omega
    · show ¬ ((Lib.decDigits n.natAbs).length = 0 ∨ 17 < (Lib.decDigits n.natAbs).length ∨ (Lib.decDigits n.natAbs).head? = some 48)
      rw [e] at hs ⊢
      simp only [List.length_cons, List.head?_cons, Option.some.injEq] at hs ⊢
      rintro (h1 | h1 | h1)
      · omega
      · omega
      · rw [h1] at hc; exact hc rfl
  · next hn =>
    have hs3 := hs2 (by omega)
    rw [if_neg hn] at hs3
    have hb := digs' n.toNat
    have hd := df_digits _ n.toNat (Nat.le_refl _)
    cases e : Lib.decDigits n.toNat with
    | nil => exact absurd e (dd_ne _)
    | cons c r =>
      rw [e] at hb hd hs3
      have hc := hb c (List.mem_cons_self ..)
      unfold numL
      rw [if_neg (by simp only [List.head?_cons, Option.some.injEq]; intro e; rw [e] at hc; exact absurd hc.1 (by decide)), if_neg]
      · rw [hd]; simp; omega
      · simp only [List.length_cons, List.head?_cons, Option.some.injEq] at *
        rintro (h1 | h1 | ⟨h1, h2⟩)
        · omega
        · omega
        · by_cases h0 : 1 ≤ n.toNat
          · obtain ⟨c', r', e', hc'⟩ := dd_head h0
            rw [e] at e'
            obtain rfl := (List.cons.inj e').1
            rw [h1] at hc'; exact hc' rfl
          · rw [show n.toNat = 0 by omega, Lib.decDigits_one (by omega)] at e
            have := (List.cons.inj e).2
            rw [← this] at h2
            simp at h2
theorem df_bound : ∀ (l : List UInt8) (acc n k : Nat), acc < 10 ^ k → Lib.decFrom acc l = some n → n < 10 ^ (k + l.length)
  | [], acc, n, k, h, e => by simp only [Lib.decFrom, Option.some.injEq] at e; subst e; simpa using h
  | b :: l, acc, n, k, h, e => by
    simp only [Lib.decFrom] at e
    cases hd : Lib.digitVal b with
    | none => rw [hd] at e; simp at e
    | some d =>
      rw [hd] at e
      simp only at e
      have hd9 : d < 10 := by
        unfold Lib.digitVal at hd
        split at hd
        · simp only [Option.some.injEq] at hd; omega
        · cases hd
      have := df_bound l (acc * 10 + d) n (k + 1) (by rw [Nat.pow_succ]; omega) e
      rw [List.length_cons]
      rwa [Nat.add_right_comm, Nat.add_assoc] at this
theorem numL_bound {s : List UInt8} {n : Int} (h : numL s = some n) : -100000000000000000 < n ∧ n < 100000000000000000 := by
  have key : ∀ l : List UInt8, ∀ m, l.length ≤ 17 → Lib.decFrom 0 l = some m → m < 100000000000000000 := by
    intro l m hl e
    have h1 := df_bound l 0 m 0 (by omega) e
    have h2 : (10 : Nat) ^ (0 + l.length) ≤ 10 ^ 17 := Nat.pow_le_pow_right (by omega) (by omega)
    omega
  unfold numL at h
  split at h
  · split at h
    · cases h
    · next hc =>
      obtain ⟨m, hm, rfl⟩ := Option.map_eq_some_iff.1 h
      have := key _ m (by omega) hm
      omega
  · split at h
    · cases h
    · next hc =>
      obtain ⟨m, hm, rfl⟩ := Option.map_eq_some_iff.1 h
      have := key _ m (by omega) hm
      omega

theorem nodot_itoa (n : Int) : ∀ b ∈ Lib.itoa n, b ≠ 46 := by
  intro b hb e
  have := itoa_bytes n b hb
  rw [e] at this
  revert this; decide
theorem atoi_bd {l : List UInt8} {v : Int} (h : Lib.atoiAll l = .ok v) : -9223372036854775808 ≤ v ∧ v ≤ 9223372036854775807 := Lib.atoiAll_bounds h
end Go.Proofs.YtpamdnkngedmaaaDoor.Num
