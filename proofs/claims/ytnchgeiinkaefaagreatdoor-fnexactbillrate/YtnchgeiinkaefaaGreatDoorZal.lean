/-
  Texts of this proof laid together, in build order; each says of itself what it holds.
-/
import Derived.Test.YtnchgeiinkaefaaGreatDoorZak
section
/-
  Numbers as they are read (strconv.Atoi; spec.l18Num): plain facts.
-/
namespace Go.Proofs.YtnchgeiinkaefaaGreatDoor.Rule
set_option linter.unusedVariables false
open Kinds hiding hide unhide below_trans ext_toList

/-- a number that tariffs may have -/
def numOk (n : Int) : Prop := -1000000000 ≤ n ∧ n ≤ 1000000000

theorem itoa_short {n : Int} (h : numOk n) : (Lib.itoa n).length ≤ 11 := by
  unfold numOk at h
  unfold Lib.itoa
  split
  · have := ddLen 9 n.natAbs (by omega)
    simp; omega
  · have := ddLen 9 n.toNat (by omega)
    omega
theorem atoi_itoa {n : Int} (h : numOk n) : Lib.atoiAll (Lib.itoa n) = .ok n := by
  rw [Lib.atoiAll_short _ (by have := itoa_short h; omega)]
  have e : Lib.atoi (Lib.itoa n) = some n := by
    unfold Lib.itoa
    split
    · next hn =>
      simp only [Lib.atoi]
      rw [if_pos (by decide)]
      have hd := df_digits _ n.natAbs (Nat.le_refl _)
      have : Lib.decNat (Lib.decDigits n.natAbs) = some n.natAbs := by
        cases h : Lib.decDigits n.natAbs with
        | nil => exact absurd h (dd_ne _)
        | cons c r => rw [h] at hd; simpa [Lib.decNat] using hd
      rw [this]
      simp; omega
    · next hn =>
      have hd := df_digits _ n.toNat (Nat.le_refl _)
      have hb := digs' n.toNat
      cases h : Lib.decDigits n.toNat with
      | nil => exact absurd h (dd_ne _)
      | cons c r =>
        rw [h] at hd hb
        have hc := hb c (List.mem_cons_self ..)
        simp only [Lib.atoi]
        have n45 : (c == 45) = false := by simp; intro e; rw [e] at hc; exact absurd hc.1 (by decide)
        have n43 : (c == 43) = false := by simp; intro e; rw [e] at hc; exact absurd hc.1 (by decide)
        rw [n45, n43]
        simp only [Bool.false_eq_true, if_false]
        have : Lib.decNat (c :: r) = some n.toNat := by simpa [Lib.decNat] using hd
        rw [this]
        simp; omega
  rw [e]; rfl

/-- letters alone -/
def Letters (l : List UInt8) : Prop := ∀ b ∈ l, 97 ≤ b.toNat ∧ b.toNat ≤ 122
theorem atoi_name {l : List UInt8} (h : Letters l) (hl : l.length ≤ 8) : ∀ n, Lib.atoiAll l ≠ .ok n := by
  intro n
  cases l with
  | nil => intro e; simp [Lib.atoiAll] at e
  | cons c r =>
    have hc := h c (List.mem_cons_self ..)
    rw [Lib.atoiAll_plain c r (by omega) (by omega), Lib.signless_short (by omega)]
    have : Lib.decNat (c :: r) = none := by
      have : Lib.digitVal c = none := by unfold Lib.digitVal; simp; omega
      simp [Lib.decNat, Lib.decFrom, this]
    rw [this]
    intro e; cases e

/-- a number of at most 17 digits, as it is written -/
def numL (s : List UInt8) : Option Int :=
  if s.head? = some 45 then (if s.tail.length = 0 ∨ 17 < s.tail.length ∨ s.tail.head? = some 48 then none else (Lib.decFrom 0 s.tail).map fun (n : Nat) => -(n : Int))
  else (if s.length = 0 ∨ 17 < s.length ∨ s.head? = some 48 ∧ 1 < s.length then none else (Lib.decFrom 0 s).map fun (n : Nat) => (n : Int))

theorem numL_itoa {n : Int} (h : numOk n) : numL (Lib.itoa n) = some n := by
  have hs := itoa_short h
  unfold Lib.itoa at *
  split
  · next hn =>
    rw [if_pos hn] at hs
    obtain ⟨c, r, e, hc⟩ := dd_head (m := n.natAbs) (by omega)
    unfold numL
    rw [if_pos (show (45 :: Lib.decDigits n.natAbs).head? = some 45 from rfl)]
    rw [if_neg]
    · show (Lib.decFrom 0 (Lib.decDigits n.natAbs)).map (fun (n : Nat) => -(n : Int)) = some n
      rw [df_digits _ _ (Nat.le_refl _)]; simp; omega
    · show ¬ ((Lib.decDigits n.natAbs).length = 0 ∨ 17 < (Lib.decDigits n.natAbs).length ∨ (Lib.decDigits n.natAbs).head? = some 48)
      rw [e] at hs ⊢
      simp only [List.length_cons, List.head?_cons, Option.some.injEq] at hs ⊢
      rintro (h1 | h1 | h1)
      · omega
      · omega
      · rw [h1] at hc; exact hc rfl
  · next hn =>
    rw [if_neg hn] at hs
    have hb := digs' n.toNat
    have hd := df_digits _ n.toNat (Nat.le_refl _)
    cases e : Lib.decDigits n.toNat with
    | nil => exact absurd e (dd_ne _)
    | cons c r =>
      rw [e] at hb hd hs
      have hc := hb c (List.mem_cons_self ..)
      unfold numL
      rw [if_neg (by simp only [List.head?_cons, Option.some.injEq]; intro e; rw [e] at hc; exact absurd hc.1 (by decide)), if_neg]
      · rw [hd]; simp; omega
      · simp only [List.length_cons, List.head?_cons, Option.some.injEq] at *
        rintro (h1 | h1 | ⟨h1, h2⟩)
        · omega
        · omega
        · by_cases h0 : 1 ≤ n.toNat
          · obtain ⟨c', r', e', hc'⟩ := dd_head h0
            rw [e] at e'
            obtain rfl := (List.cons.inj e').1
            rw [h1] at hc'; exact hc' rfl
          · rw [show n.toNat = 0 by omega, Lib.decDigits_one (by omega)] at e
            have := (List.cons.inj e).2
            rw [← this] at h2
            simp at h2
theorem numL_name {l : List UInt8} (h : Letters l) : numL l = none := by
  cases l with
  | nil => simp [numL]
  | cons c r =>
    have hc := h c (List.mem_cons_self ..)
    unfold numL
    rw [if_neg (by simp only [List.head?_cons, Option.some.injEq]; intro e; rw [e] at hc; exact absurd hc.1 (by decide))]
    split
    · rfl
    · have : Lib.digitVal c = none := by unfold Lib.digitVal; simp; omega
      simp [Lib.decFrom, this]
end Go.Proofs.YtnchgeiinkaefaaGreatDoor.Rule
end

section
/-
  Texts of expressions, read as the specification reads them: plain data and facts.
-/
namespace Go.Proofs.YtnchgeiinkaefaaGreatDoor.Rule
set_option linter.unusedVariables false
open Tiers
open Kinds hiding hide unhide below_trans ext_toList

/-- what a word ends at -/
def stopB (b : UInt8) : Bool := b == 32 || b == 40 || b == 41 || b == 58
/-- the word that a text begins with, and the rest -/
def wordOf (t : List UInt8) : List UInt8 := t.takeWhile (fun b => !stopB b)
def restOf (t : List UInt8) : List UInt8 := t.dropWhile (fun b => !stopB b)
/-- a byte that must stand -/
def wantS (c : UInt8) : List UInt8 → Option (List UInt8)
  | [] => none
  | b :: r => if b = c then some r else none
def numS (t : List UInt8) : Option (Int × List UInt8) := (numL (wordOf t)).map fun n => (n, restOf t)
/-- a step -/
def tierS (t : List UInt8) : Option ((Int × Int) × List UInt8) :=
  (wantS 32 t).bind fun t1 => (numS t1).bind fun p => (wantS 58 p.2).bind fun t2 => (numS t2).map fun q => ((p.1, q.1), q.2)
/-- steps, n at most -/
def tiersS : Nat → List UInt8 → Option (List (Int × Int) × List UInt8)
  | 0, t => some ([], t)
  | n + 1, t => if t.head? = some 32 then (tierS t).bind fun p => (tiersS n p.2).map fun q => (p.1 :: q.1, q.2) else some ([], t)
def bytesOf (t : List UInt8) : ByteArray := ⟨t.toArray⟩
def leafS (w : List UInt8) : Ex := match numL w with | some n => .mk 1 n ByteArray.empty [] [] | none => .mk 2 0 (bytesOf w) [] []
/-- m kids, each behind a space -/
def kidS (R : List UInt8 → Option (Ex × List UInt8)) : Nat → List UInt8 → Option (List Ex × List UInt8)
  | 0, t => some ([], t)
  | m + 1, t => (wantS 32 t).bind fun t1 => (R t1).bind fun p => (kidS R m p.2).map fun q => (p.1 :: q.1, q.2)
/-- what comes behind the kids -/
def ownS (k : Int) (ks : List Ex) (t : List UInt8) : Option (Ex × List UInt8) :=
  if k = 6 then (wantS 32 t).bind fun t1 => (numS t1).bind fun p => (wantS 41 p.2).map fun r => (.mk k p.1 ByteArray.empty ks [], r)
  else if k = 10 then (tiersS 7 t).bind fun p => (wantS 41 p.2).map fun r => (.mk k 0 ByteArray.empty ks p.1, r)
  else (wantS 41 t).map fun r => (.mk k 0 ByteArray.empty ks [], r)
/-- what comes behind a bracket -/
def brS (R : List UInt8 → Option (Ex × List UInt8)) (t : List UInt8) : Option (Ex × List UInt8) :=
  if opK (bytesOf (wordOf t)) = 0 then none
  else (kidS R (kidsK (opK (bytesOf (wordOf t)))).toNat (restOf t)).bind fun p => ownS (opK (bytesOf (wordOf t))) p.1 p.2
/-- an expression, d deep at most -/
def exprS : Nat → List UInt8 → Option (Ex × List UInt8)
  | 0, _ => none
  | d + 1, t => if t.head? = some 40 then brS (exprS d) t.tail else some (leafS (wordOf t), restOf t)

/-! ### words -/
theorem word_split {w r : List UInt8} (hw : ∀ b ∈ w, stopB b = false) (hr : r = [] ∨ ∃ b t, r = b :: t ∧ stopB b = true) : wordOf (w ++ r) = w ∧ restOf (w ++ r) = r := by
  have h1 : ∀ x ∈ w, (fun b => !stopB b) x = true := fun x hx => by simp [hw x hx]
  unfold wordOf restOf
  rcases hr with rfl | ⟨b, t, rfl, hb⟩
  · have e1 := List.takeWhile_append_of_pos (l₂ := []) h1
    have e2 := List.dropWhile_append_of_pos (l₂ := []) h1
    rw [List.append_nil] at e1 e2 ⊢
    rw [e1, e2]; simp
  · rw [List.takeWhile_append_of_pos h1, List.dropWhile_append_of_pos h1]
    simp [hb]
theorem word_rest (t : List UInt8) : wordOf t ++ restOf t = t := List.takeWhile_append_dropWhile
theorem nostop_itoa (n : Int) : ∀ b ∈ Lib.itoa n, stopB b = false := by
  intro b hb
  have h := itoa_bytes n b hb
  unfold stopB
  have e : ∀ c : UInt8, c.toNat = 32 ∨ c.toNat = 40 ∨ c.toNat = 41 ∨ c.toNat = 58 → (b == c) = false := by
    intro c hc
    rw [beq_eq_false_iff_ne]; intro e; subst e; omega
  rw [e 32 (by decide), e 40 (by decide), e 41 (by decide), e 58 (by decide)]; rfl
theorem nostop_letters {l : List UInt8} (h : Letters l) : ∀ b ∈ l, stopB b = false := by
  intro b hb
  have h := h b hb
  unfold stopB
  have e : ∀ c : UInt8, c.toNat = 32 ∨ c.toNat = 40 ∨ c.toNat = 41 ∨ c.toNat = 58 → (b == c) = false := by
    intro c hc
    rw [beq_eq_false_iff_ne]; intro e; subst e; omega
  rw [e 32 (by decide), e 40 (by decide), e 41 (by decide), e 58 (by decide)]; rfl
/-- what may stand behind an expression -/
def Tail (r : List UInt8) : Prop := r = [] ∨ ∃ b t, r = b :: t ∧ (b = 32 ∨ b = 41)
theorem Tail.stop {r : List UInt8} (h : Tail r) : r = [] ∨ ∃ b t, r = b :: t ∧ stopB b = true := by
  rcases h with h | ⟨b, t, rfl, hb⟩
  · exact .inl h
  · exact .inr ⟨b, t, rfl, by rcases hb with rfl | rfl <;> decide⟩
theorem numS_itoa {n : Int} (h : numOk n) {r : List UInt8} (hr : r = [] ∨ ∃ b t, r = b :: t ∧ stopB b = true) : numS (Lib.itoa n ++ r) = some (n, r) := by
  obtain ⟨h1, h2⟩ := word_split (nostop_itoa n) hr
  unfold numS
  rw [h1, h2, numL_itoa h]; rfl

/-! ### what is right -/
theorem letters_of {m : ByteArray} (h : nameB m = true) : Letters m.data.toList ∧ m.data.toList.length ≤ 8 ∧ m.data.toList ≠ [] := by
  unfold nameB at h
  simp only [Bool.and_eq_true, decide_eq_true_eq] at h
  obtain ⟨⟨⟨h1, h2⟩, _⟩, _⟩ := h
  have hs : m.data.toList.length = m.size := Array.length_toList
  refine ⟨?_, by omega, fun e => by rw [e] at hs; simp at hs; omega⟩
  intro b hb
  unfold lettersB at h2
  have := List.all_eq_true.1 h2 b hb
  simp at this
  omega
theorem tier_ok {ts : List (Int × Int)} (h : rightB ts = true) : ts.length ≤ 6 ∧ 1 ≤ ts.length ∧ ∀ t ∈ ts, numOk t.1 ∧ numOk t.2 := by
  unfold rightB at h
  simp only [Bool.and_eq_true, decide_eq_true_eq] at h
  obtain ⟨⟨h1, h2⟩, h3⟩ := h
  refine ⟨h2, h1, fun t ht => ?_⟩
  obtain ⟨i, hi, rfl⟩ := List.getElem_of_mem ht
  have := List.all_eq_true.1 h3 i (List.mem_range.2 hi)
  have e : ts.getD i T0 = ts[i] := by simp [List.getD, hi]
  rw [e] at this
  unfold okT numB at this
  simp only [Bool.and_eq_true, decide_eq_true_eq] at this
  unfold numOk
  omega
end Go.Proofs.YtnchgeiinkaefaaGreatDoor.Rule
end
