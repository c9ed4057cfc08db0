/-
  Texts of this proof laid together, in build order; each says of itself what it holds.
-/
import Derived.Test.YtnchgeiinkaefaaGreatDoorZal
import Derived.Test.YtnchgeiinkaefaaGreatDoorZah
import Derived.Test.YtnchgeiinkaefaaGreatDoorZaj
import Derived.Test.YtnchgeiinkaefaaGreatDoorZaa
import Derived.Deep.QuietTactic
import Derived.BigQuiet
import Derived.Deep.RegionHeld3
section
/-
  The specification's reader reads what is written.
-/
namespace Go.Proofs.YtnchgeiinkaefaaGreatDoor.Rule
set_option linter.unusedVariables false
open Tiers
open Kinds hiding hide unhide below_trans ext_toList

theorem ba_empty {m : ByteArray} (h : m.size = 0) : m = ByteArray.empty := by
  have h1 : m.data.size = 0 := h
  cases m with
  | mk a =>
    have : a = #[] := Array.size_eq_zero_iff.1 h1
    rw [this]; rfl
theorem bytes_self (m : ByteArray) : bytesOf m.data.toList = m := by cases m; rfl
/-- what is known of an expression that is right, but for its kids -/
theorem node_num {n : Int} {m : ByteArray} {nk : Nat} {ts : List T} (h : nodeB 1 n m nk ts = true) : nk = 0 ∧ numOk n ∧ m = ByteArray.empty ∧ ts = [] := by
  unfold nodeB fitsB at h
  simp only [Bool.and_eq_true, decide_eq_true_eq] at h
  obtain ⟨⟨_, _, h1⟩, h2⟩ := h
  simp only [if_true, Bool.and_eq_true, decide_eq_true_eq] at h2
  refine ⟨?_, ?_, ba_empty h2.1.2, List.length_eq_zero_iff.1 h2.2⟩
  · simp [kidsK] at h1; exact h1
  · unfold numOk; omega
theorem node_name {n : Int} {m : ByteArray} {nk : Nat} {ts : List T} (h : nodeB 2 n m nk ts = true) : nk = 0 ∧ nameB m = true ∧ n = 0 ∧ ts = [] := by
  unfold nodeB fitsB at h
  simp only [Bool.and_eq_true, decide_eq_true_eq] at h
  obtain ⟨⟨_, _, h1⟩, h2⟩ := h
  rw [if_neg (by omega), if_pos trivial] at h2
  simp only [Bool.and_eq_true, decide_eq_true_eq] at h2
  refine ⟨?_, h2.1.1, h2.1.2, List.length_eq_zero_iff.1 h2.2⟩
  simp [kidsK] at h1; exact h1
theorem node_more {k n : Int} {m : ByteArray} {nk : Nat} {ts : List T} (h : nodeB k n m nk ts = true) (h1 : k ≠ 1) (h2 : k ≠ 2) :
    (3 ≤ k ∧ k ≤ 10) ∧ (nk : Int) = kidsK k ∧ 1 ≤ nk ∧ nk ≤ 3 ∧ m = ByteArray.empty ∧ numOk n ∧ (k ≠ 6 → n = 0) ∧ (k = 10 → rightB ts = true) ∧ (k ≠ 10 → ts = []) := by
  unfold nodeB fitsB at h
  simp only [Bool.and_eq_true, decide_eq_true_eq] at h
  obtain ⟨⟨a1, a2, a3⟩, a4⟩ := h
  rw [if_neg h1, if_neg h2] at a4
  have hk : 1 ≤ nk ∧ nk ≤ 3 := by
    unfold kidsK at a3
    rw [if_neg (by omega)] at a3
    split at a3
    · omega
    split at a3
    · omega
    split at a3
    · omega
    · omega
  have h3 : 3 ≤ k ∧ k ≤ 10 := by omega
  unfold numOk
  split at a4
  · next e =>
    simp only [Bool.and_eq_true, decide_eq_true_eq] at a4
    exact ⟨h3, a3, hk.1, hk.2, ba_empty a4.1.2, by omega, fun h => absurd e h, fun h => by omega, fun _ => List.length_eq_zero_iff.1 a4.2⟩
  split at a4
  · next e =>
    simp only [Bool.and_eq_true, decide_eq_true_eq] at a4
    exact ⟨h3, a3, hk.1, hk.2, ba_empty a4.2, by omega, fun _ => a4.1.2, fun _ => a4.1.1, fun h => absurd e h⟩
  · next e =>
    simp only [Bool.and_eq_true, decide_eq_true_eq] at a4
    exact ⟨h3, a3, hk.1, hk.2, ba_empty a4.1.2, by omega, fun _ => a4.1.1, fun h => absurd h e, fun _ => List.length_eq_zero_iff.1 a4.2⟩

theorem word_of {k : Int} (h : 3 ≤ k ∧ k ≤ 10) : Letters (wordL k) ∧ (wordL k).length ≤ 8 ∧ wordL k ≠ [] ∧ opK (bytesOf (wordL k)) = k := by
  have : k = 3 ∨ k = 4 ∨ k = 5 ∨ k = 6 ∨ k = 7 ∨ k = 8 ∨ k = 9 ∨ k = 10 := by omega
  rcases this with rfl | rfl | rfl | rfl | rfl | rfl | rfl | rfl <;> exact ⟨by unfold Letters; decide, by decide, by decide, by decide⟩

theorem tier_read {t : Int × Int} (h1 : numOk t.1) (h2 : numOk t.2) {r : List UInt8} (hr : r = [] ∨ ∃ b u, r = b :: u ∧ stopB b = true) : tierS (32 :: (Lib.itoa t.1 ++ 58 :: (Lib.itoa t.2 ++ r))) = some (t, r) := by
  unfold tierS
  simp only [wantS, if_true, Option.bind_some]
  rw [numS_itoa h1 (.inr ⟨58, _, rfl, by decide⟩)]
  simp only [Option.bind_some, if_true]
  rw [numS_itoa h2 hr]
  rfl
theorem tiers_read : ∀ (ts : List (Int × Int)) (n : Nat) (r : List UInt8), ts.length < n → (∀ t ∈ ts, numOk t.1 ∧ numOk t.2) → tiersS n (wrT ts ++ 41 :: r) = some (ts, 41 :: r)
  | [], n + 1, r, _, _ => by simp [tiersS, wrT]
  | t :: ts, n + 1, r, hl, ht => by
    obtain ⟨h1, h2⟩ := ht t (List.mem_cons_self ..)
    have e : wrT (t :: ts) ++ 41 :: r = 32 :: (Lib.itoa t.1 ++ 58 :: (Lib.itoa t.2 ++ (wrT ts ++ 41 :: r))) := by simp [wrT]
    have hs : wrT ts ++ 41 :: r = [] ∨ ∃ b u, wrT ts ++ 41 :: r = b :: u ∧ stopB b = true := by
      cases ts with
      | nil => exact .inr ⟨41, r, rfl, by decide⟩
      | cons a b => exact .inr ⟨32, _, rfl, by decide⟩
    rw [e]
    simp only [tiersS, List.head?_cons, if_true]
    rw [tier_read h1 h2 hs]
    simp only [Option.bind_some]
    rw [tiers_read ts n r (by simpa using hl) (fun t' h' => ht t' (List.mem_cons_of_mem _ h'))]
    rfl
theorem kids_read {R : List UInt8 → Option (Ex × List UInt8)} : ∀ (ks : List Ex) (r : List UInt8), Tail r → (∀ e ∈ ks, ∀ t, Tail t → R (wr e ++ t) = some (e, t)) → kidS R ks.length (wrS ks ++ r) = some (ks, r)
  | [], r, _, _ => by simp [kidS, wrS]
  | e :: es, r, hr, hk => by
    have e1 : wrS (e :: es) ++ r = 32 :: (wr e ++ (wrS es ++ r)) := by simp [wrS]
    have ht : Tail (wrS es ++ r) := by
      cases es with
      | nil => simpa [wrS] using hr
      | cons a b => exact .inr ⟨32, _, rfl, .inl rfl⟩
    rw [e1]
    simp only [List.length_cons, kidS, wantS, if_true, Option.bind_some]
    rw [hk e (List.mem_cons_self ..) _ ht]
    simp only [Option.bind_some]
    rw [kids_read es r hr (fun e' h' => hk e' (List.mem_cons_of_mem _ h'))]
    rfl
theorem allL_mem : ∀ {l : List Ex}, allL l = true → ∀ e ∈ l, allB e = true
  | e :: es, h, x, hx => by
    rw [allL, Bool.and_eq_true] at h
    rcases List.mem_cons.1 hx with rfl | h'
    · exact h.1
    · exact allL_mem h.2 x h'
theorem depL_mem : ∀ {l : List Ex}, ∀ e ∈ l, dep e ≤ depL l
  | e :: es, x, hx => by
    rw [depL]
    rcases List.mem_cons.1 hx with rfl | h'
    · omega
    · have := depL_mem x h'; omega
theorem head_itoa (n : Int) (r : List UInt8) : (Lib.itoa n ++ r).head? ≠ some 40 := by
  cases h : Lib.itoa n with
  | nil => exact absurd h (itoa_ne n)
  | cons c t =>
    have hc := itoa_bytes n c (by rw [h]; exact List.mem_cons_self ..)
    simp only [List.cons_append, List.head?_cons, ne_eq, Option.some.injEq]
    intro e; subst e; rcases hc with h | h <;> exact absurd h (by decide)
theorem head_letters {l r : List UInt8} (h : Letters l) (hn : l ≠ []) : (l ++ r).head? ≠ some 40 := by
  cases l with
  | nil => exact absurd rfl hn
  | cons c t =>
    have hc := h c (List.mem_cons_self ..)
    simp only [List.cons_append, List.head?_cons, ne_eq, Option.some.injEq]
    intro e; subst e; exact absurd hc (by decide)

theorem expr_read : ∀ (d : Nat) (e : Ex) (r : List UInt8), allB e = true → dep e ≤ d → Tail r → exprS d (wr e ++ r) = some (e, r) := by
  intro d
  induction d with
  | zero => intro e r _ hd _; have := dep_eq e; omega
  | succ d ih =>
    intro e r ha hd hr
    obtain ⟨k, n, m, ks, ts⟩ := e
    rw [allB, Bool.and_eq_true] at ha
    obtain ⟨hn, hks⟩ := ha
    by_cases k1 : k = 1
    · subst k1
      obtain ⟨a1, a2, rfl, rfl⟩ := node_num hn
      obtain rfl := List.length_eq_zero_iff.1 a1
      obtain ⟨w1, w2⟩ := word_split (nostop_itoa n) hr.stop
      rw [wr, if_pos rfl]
      simp only [exprS]
      rw [if_neg (head_itoa n r), w1, w2]
      simp only [leafS, numL_itoa a2]
    by_cases k2 : k = 2
    · subst k2
      obtain ⟨a1, a2, rfl, rfl⟩ := node_name hn
      obtain rfl := List.length_eq_zero_iff.1 a1
      obtain ⟨l1, l2, l3⟩ := letters_of a2
      obtain ⟨w1, w2⟩ := word_split (nostop_letters l1) hr.stop
      rw [wr, if_neg (by omega), if_pos rfl]
      simp only [exprS]
      rw [if_neg (head_letters l1 l3), w1, w2]
      simp only [leafS, numL_name l1, bytes_self]
    · obtain ⟨h3, a1, a2, a3, rfl, a4, a5, a6, a7⟩ := node_more hn k1 k2
      obtain ⟨l1, l2, l3, l4⟩ := word_of h3
      rw [wr, if_neg k1, if_neg k2]
      have hd' : depL ks ≤ d := by rw [dep] at hd; omega
      have e1 : (40 :: (wordL k ++ (wrS ks ++ (wrO k n ts ++ [41])))) ++ r = 40 :: (wordL k ++ (wrS ks ++ (wrO k n ts ++ 41 :: r))) := by simp
      have hs : wrS ks ++ (wrO k n ts ++ 41 :: r) = [] ∨ ∃ b t, wrS ks ++ (wrO k n ts ++ 41 :: r) = b :: t ∧ stopB b = true := by
        cases ks with
        | nil => simp at a2
        | cons a b => exact .inr ⟨32, _, rfl, by decide⟩
      obtain ⟨w1, w2⟩ := word_split (nostop_letters l1) hs
      rw [e1]
      simp only [exprS, List.head?_cons, if_true]
      show brS (exprS d) (wordL k ++ (wrS ks ++ (wrO k n ts ++ 41 :: r))) = _
      unfold brS
      rw [w1, w2, l4, if_neg (by omega)]
      have hkn : (kidsK k).toNat = ks.length := by omega
      have ht : Tail (wrO k n ts ++ 41 :: r) := by
        unfold wrO
        split
        · exact .inr ⟨32, _, rfl, .inl rfl⟩
        · cases ts with
          | nil => exact .inr ⟨41, r, rfl, .inr rfl⟩
          | cons a b => exact .inr ⟨32, _, rfl, .inl rfl⟩
      rw [hkn, kids_read ks _ ht (fun e he t htt => ih e t (allL_mem hks e he) (by have := depL_mem e he; omega) htt)]
      simp only [Option.bind_some, ownS]
      by_cases k6 : k = 6
      · subst k6
        obtain rfl := a7 (by omega)
        have e2 : wrO 6 n [] ++ 41 :: r = 32 :: (Lib.itoa n ++ 41 :: r) := by simp [wrO, wrT]
        rw [e2, if_pos rfl]
        simp only [wantS, if_true, Option.bind_some]
        rw [numS_itoa a4 (.inr ⟨41, r, rfl, by decide⟩)]
        simp
      · obtain rfl := a5 k6
        rw [if_neg k6]
        have e2 : wrO k 0 ts ++ 41 :: r = wrT ts ++ 41 :: r := by simp [wrO, k6]
        rw [e2]
        by_cases k10 : k = 10
        · obtain ⟨t1, t2, t3⟩ := tier_ok (a6 k10)
          rw [if_pos k10, tiers_read ts 7 r (by omega) t3]
          simp [wantS]
        · obtain rfl := a7 k10
          rw [if_neg k10]
          simp [wantS, wrT]

/-! ### how much a text can make -/
theorem restOf_len (t : List UInt8) : (wordOf t).length + (restOf t).length = t.length := by
  have := congrArg List.length (word_rest t)
  simpa using this
theorem wantS_len {c : UInt8} {t r : List UInt8} (h : wantS c t = some r) : r.length + 1 = t.length := by
  cases t with
  | nil => cases h
  | cons b u =>
    simp only [wantS] at h
    split at h
    · simp only [Option.some.injEq] at h; subst h; rfl
    · cases h
theorem numS_len {t r : List UInt8} {n : Int} (h : numS t = some (n, r)) : r.length ≤ t.length := by
  unfold numS at h
  obtain ⟨m, hm, e⟩ := Option.map_eq_some_iff.1 h
  simp only [Prod.mk.injEq] at e
  rw [← e.2]
  have := restOf_len t
  omega
end Go.Proofs.YtnchgeiinkaefaaGreatDoor.Rule
end

section
/-
  How much a text can make, and how long a text can be: plain facts.
-/
namespace Go.Proofs.YtnchgeiinkaefaaGreatDoor.Rule
set_option linter.unusedVariables false
open Tiers
open Kinds hiding hide unhide below_trans ext_toList

theorem tierS_len {t r : List UInt8} {p : Int × Int} (h : tierS t = some (p, r)) : r.length + 1 ≤ t.length := by
  unfold tierS at h
  obtain ⟨t1, h1, h⟩ := Option.bind_eq_some_iff.1 h
  obtain ⟨⟨n, t2⟩, h2, h⟩ := Option.bind_eq_some_iff.1 h
  obtain ⟨t3, h3, h⟩ := Option.bind_eq_some_iff.1 h
  obtain ⟨⟨n4, t4⟩, h4, h⟩ := Option.map_eq_some_iff.1 h
  simp only [Prod.mk.injEq] at h
  rw [← h.2]
  have a1 := wantS_len h1
  have a2 := numS_len h2
  have a3 := wantS_len h3
  have a4 := numS_len h4
  simp only at *
  omega
theorem tiersS_wt : ∀ (n : Nat) (t r : List UInt8) (l : List (Int × Int)), tiersS n t = some (l, r) → l.length + 4 * r.length ≤ 4 * t.length ∧ l.length ≤ n
  | 0, t, r, l, h => by
    simp only [tiersS, Option.some.injEq, Prod.mk.injEq] at h
    obtain ⟨rfl, rfl⟩ := h
    simp
  | n + 1, t, r, l, h => by
    rw [tiersS] at h
    split at h
    · obtain ⟨⟨p, t1⟩, h1, h⟩ := Option.bind_eq_some_iff.1 h
      obtain ⟨⟨l2, r2⟩, h2, h⟩ := Option.map_eq_some_iff.1 h
      simp only [Prod.mk.injEq] at h
      obtain ⟨rfl, rfl⟩ := h
      have a1 := tierS_len h1
      have a2 := tiersS_wt n _ _ _ h2
      simp only [List.length_cons] at *
      omega
    · simp only [Option.some.injEq, Prod.mk.injEq] at h
      obtain ⟨rfl, rfl⟩ := h
      simp
theorem kidS_wt {R : List UInt8 → Option (Ex × List UInt8)} (hR : ∀ t e r, R t = some (e, r) → wt e + 4 * r.length ≤ 4 * t.length) : ∀ (m : Nat) (t r : List UInt8) (ks : List Ex), kidS R m t = some (ks, r) → wtL ks + 4 * r.length ≤ 4 * t.length
  | 0, t, r, ks, h => by
    simp only [kidS, Option.some.injEq, Prod.mk.injEq] at h
    obtain ⟨rfl, rfl⟩ := h
    simp [wtL]
  | m + 1, t, r, ks, h => by
    rw [kidS] at h
    obtain ⟨t1, h1, h⟩ := Option.bind_eq_some_iff.1 h
    obtain ⟨⟨e, t2⟩, h2, h⟩ := Option.bind_eq_some_iff.1 h
    obtain ⟨⟨ks2, r2⟩, h3, h⟩ := Option.map_eq_some_iff.1 h
    simp only [Prod.mk.injEq] at h
    obtain ⟨rfl, rfl⟩ := h
    have a1 := wantS_len h1
    have a2 := hR _ _ _ h2
    have a3 := kidS_wt hR m _ _ _ h3
    rw [wtL]
    simp only at *
    omega
theorem ownS_wt {k : Int} {ks : List Ex} {t r : List UInt8} {e : Ex} (h : ownS k ks t = some (e, r)) : wt e + 4 * r.length ≤ wtL ks + 4 * t.length := by
  have z : ByteArray.empty.size = 0 := rfl
  unfold ownS at h
  split at h
  · obtain ⟨t1, h1, h⟩ := Option.bind_eq_some_iff.1 h
    obtain ⟨⟨n, t2⟩, h2, h⟩ := Option.bind_eq_some_iff.1 h
    obtain ⟨r2, h3, h⟩ := Option.map_eq_some_iff.1 h
    simp only [Prod.mk.injEq] at h
    obtain ⟨rfl, rfl⟩ := h
    have a1 := wantS_len h1
    have a2 := numS_len h2
    have a3 := wantS_len h3
    rw [wt, z]
    simp only [List.length_nil] at *
    omega
  split at h
  · obtain ⟨⟨l, t2⟩, h2, h⟩ := Option.bind_eq_some_iff.1 h
    obtain ⟨r2, h3, h⟩ := Option.map_eq_some_iff.1 h
    simp only [Prod.mk.injEq] at h
    obtain ⟨rfl, rfl⟩ := h
    have a2 := tiersS_wt _ _ _ _ h2
    have a3 := wantS_len h3
    rw [wt, z]
    simp only at *
    omega
  · obtain ⟨r2, h3, h⟩ := Option.map_eq_some_iff.1 h
    simp only [Prod.mk.injEq] at h
    obtain ⟨rfl, rfl⟩ := h
    have a3 := wantS_len h3
    rw [wt, z]
    simp only [List.length_nil] at *
    omega
theorem exprS_wt : ∀ (d : Nat) (t : List UInt8) (e : Ex) (r : List UInt8), exprS d t = some (e, r) → wt e + 4 * r.length ≤ 4 * t.length
  | 0, t, e, r, h => by cases h
  | d + 1, t, e, r, h => by
    have z : ByteArray.empty.size = 0 := rfl
    rw [exprS] at h
    split at h
    · next hh =>
      unfold brS at h
      split at h
      · cases h
      · obtain ⟨⟨ks, t2⟩, h1, h⟩ := Option.bind_eq_some_iff.1 h
        have a1 := kidS_wt (exprS_wt d) _ _ _ _ h1
        have a2 := ownS_wt h
        have a3 := restOf_len t.tail
        have a4 : t.tail.length + 1 = t.length := by cases t with | nil => cases hh | cons a b => rfl
        simp only at *
        omega
    · simp only [Option.some.injEq, Prod.mk.injEq] at h
      obtain ⟨rfl, rfl⟩ := h
      have a3 := restOf_len t
      unfold leafS
      split
      · rw [wt, z]; simp [wtL]; omega
      · rw [wt]
        have : (bytesOf (wordOf t)).size = (wordOf t).length := by simp [bytesOf, ByteArray.size]
        rw [this]; simp [wtL]; omega

/-! ### how long a text is -/
theorem wrT_len : ∀ {ts : List (Int × Int)}, (∀ t ∈ ts, numOk t.1 ∧ numOk t.2) → (wrT ts).length ≤ 24 * ts.length
  | [], _ => by simp [wrT]
  | t :: ts, h => by
    have h1 := itoa_short (h t (List.mem_cons_self ..)).1
    have h2 := itoa_short (h t (List.mem_cons_self ..)).2
    have h3 := wrT_len (ts := ts) (fun x hx => h x (List.mem_cons_of_mem _ hx))
    simp [wrT]
    omega
theorem wordL_len {k : Int} (h : 3 ≤ k ∧ k ≤ 10) : (wordL k).length ≤ 8 := (word_of h).2.1
mutual
theorem wr_len : ∀ e : Ex, allB e = true → (wr e).length ≤ 200 * cnt e
  | .mk k n m ks ts, h => by
    rw [allB, Bool.and_eq_true] at h
    obtain ⟨hn, hks⟩ := h
    rw [wr, cnt]
    by_cases k1 : k = 1
    · subst k1
      rw [if_pos rfl]
      have := itoa_short (node_num hn).2.1
      omega
    rw [if_neg k1]
    by_cases k2 : k = 2
    · subst k2
      rw [if_pos rfl]
      have := (letters_of (node_name hn).2.1).2.1
      omega
    rw [if_neg k2]
    obtain ⟨h3, a1, a2, a3, rfl, a4, a5, a6, a7⟩ := node_more hn k1 k2
    have b1 := wordL_len h3
    have b2 := wrS_len ks hks
    have b3 : (wrO k n ts).length ≤ 156 := by
      unfold wrO
      have c1 := itoa_short a4
      have c2 : (wrT ts).length ≤ 144 := by
        by_cases k10 : k = 10
        · obtain ⟨t1, t2, t3⟩ := tier_ok (a6 k10)
          have := wrT_len t3
          omega
        · rw [a7 k10]; simp [wrT]
      split <;> simp <;> omega
    simp
    omega
theorem wrS_len : ∀ l : List Ex, allL l = true → (wrS l).length ≤ 200 * cntL l + l.length
  | [], _ => by simp [wrS]
  | e :: es, h => by
    rw [allL, Bool.and_eq_true] at h
    have h1 := wr_len e h.1
    have h2 := wrS_len es h.2
    rw [wrS, cntL]
    simp
    omega
end
end Go.Proofs.YtnchgeiinkaefaaGreatDoor.Rule
end

section
/-
  spec.l2Write, spec.RuleText.
-/
namespace Go.Proofs.YtnchgeiinkaefaaGreatDoor.Rule
set_option linter.unusedVariables false
open Go.RowKit
open Boxes (At hide unhide)
open RegIn
open Tiers (T T0)
open Kinds hiding hide unhide below_trans ext_toList

/-- a world in which what there was is as it was -/
def Sb (w1 W : World) : Prop := Below w1.heap.size w1 W
theorem Sb.dec {w1 : World} (n : Int) (h : numOk n) (g : In (Sb w1)) : Calls Tryz.prog 110 #[.int .i64 n] g.x fun e w' => e = .returned (.string ⟨(Lib.itoa n).toArray⟩) ∧ Sb w1 w' :=
  (Dec.dec n g.x (by unfold numOk at h; omega) (by unfold numOk at h; omega)).mono fun e w' ⟨he, hb⟩ => ⟨he, Kinds.below_trans (w := w1) g.h hb⟩

def WrC (d : Nat) : Prop := ∀ (lo hi : Nat) (v : Value) (e : Ex) (w : World), EV lo hi w d v e → hi ≤ w.heap.size → allB e = true → cnt e ≤ 1000 →
  Calls Tryz.prog 85 #[v] w fun x w' => x = .returned (.string (bytesOf (wr e))) ∧ Below w.heap.size w w'

theorem wordC (k : Int) (w : World) (h : 3 ≤ k ∧ k ≤ 10) : Calls Tryz.prog 111 #[.int .i64 k] w fun x w' => x = .returned (.string (bytesOf (wordL k))) ∧ Below w.heap.size w w' := by
  have : k = 3 ∨ k = 4 ∨ k = 5 ∨ k = 6 ∨ k = 7 ∨ k = 8 ∨ k = 9 ∨ k = 10 := by omega
  rcases this with rfl | rfl | rfl | rfl | rfl | rfl | rfl | rfl
  all_goals
    clear h
    go_enter Tryz.func111, Tryz.ntmps111
    go_wp2
    go_ret
    exact ⟨rfl, below_alloc _ _⟩

theorem cat (a b : List UInt8) : (bytesOf a ++ bytesOf b) = bytesOf (a ++ b) := by
  apply ByteArray.ext; simp [bytesOf]
theorem bsize (a : List UInt8) : (bytesOf a).size = a.length := by simp [bytesOf, ByteArray.size]

theorem cat3 (a b : List UInt8) (c : UInt8) : (((⟨a.toArray⟩ : ByteArray) ++ ⟨#[c]⟩) ++ bytesOf b) = ⟨(a ++ c :: b).toArray⟩ := by
  apply ByteArray.ext; simp [bytesOf]
theorem wrS_part (k : Nat) (ks : List Ex) : (wrS (ks.take k)).length ≤ (wrS ks).length := by
  have := wrS_append (ks.take k) (ks.drop k)
  rw [List.take_append_drop] at this
  rw [this]; simp
theorem allL_at {l : List Ex} {k : Nat} (h : allL l = true) (hk : k < l.length) : allB (l.getD k E0) = true := allL_mem h _ (by simp [List.getD, hk])
theorem cntL_at {l : List Ex} {k : Nat} (hk : k < l.length) : cnt (l.getD k E0) ≤ cntL l := by
  have h1 := cntL_take hk
  have h2 := cntL_le l (k + 1)
  omega
theorem ES.at {lo hi : Nat} {W : World} {d : Nat} {v : Value} {l : List Ex} (h : ES lo hi W d v l) {k : Nat} (hk : k < l.length) : ∃ d' b o cap kv tv, d = d' + 1 ∧ v = .slice (some ⟨b, o, none⟩) l.length cap ∧ (lo ≤ b ∧ b < hi) ∧ (W.cell? ⟨b, o + k * 5, none⟩ = some (.int .i64 (l.getD k E0).kind) ∧ W.cell? ⟨b, o + k * 5 + 1, none⟩ = some (.int .i64 (l.getD k E0).num) ∧ W.cell? ⟨b, o + k * 5 + 2, none⟩ = some (.string (l.getD k E0).meter) ∧ W.cell? ⟨b, o + k * 5 + 3, none⟩ = some kv ∧ W.cell? ⟨b, o + k * 5 + 4, none⟩ = some tv) ∧ EV lo hi W d' (.agg #[.int .i64 (l.getD k E0).kind, .int .i64 (l.getD k E0).num, .string (l.getD k E0).meter, kv, tv]) (l.getD k E0) := by
  cases d with
  | zero => obtain ⟨rfl, _⟩ := h; simp at hk
  | succ d =>
    rcases h with ⟨rfl, _⟩ | ⟨b, o, cap, rfl, hl, h1, h2, hc⟩
    · simp at hk
    · obtain ⟨kv, tv, h3, h4, h5, h6⟩ := hc k hk
      exact ⟨d, b, o, cap, kv, tv, rfl, rfl, ⟨h1, h2⟩, h3, kv, tv, rfl, h4, h5, h6⟩

set_option maxRecDepth 20000 in
set_option maxHeartbeats 1600000 in
theorem wr_step {d : Nat} (H : ∀ d', d = d' + 1 → WrC d') : WrC d := by
  rintro lo hi v e w ⟨kv, tv, rfl, hz, hk, ht⟩ hhi ha hc
  have HE := hide (show EV lo hi w d (.agg #[.int .i64 e.kind, .int .i64 e.num, .string e.meter, kv, tv]) e from ⟨kv, tv, rfl, hz, hk, ht⟩)
  obtain ⟨ka, kc, rfl, hkl⟩ := hk.form
  have hl := wr_len e ha
  have hcn := cnt_eq e
  obtain ⟨k, n, m, ks, ts⟩ := e
  have ha' := ha
  rw [allB, Bool.and_eq_true] at ha
  obtain ⟨hn, hks⟩ := ha
  simp only [Ex.kind, Ex.num, Ex.meter, Ex.kids, Ex.tiers] at *
  generalize hr : wr (.mk k n m ks ts) = r
  rw [hr] at hl
  by_cases k1 : k = 1
  · subst k1
    obtain ⟨a1, a2, rfl, rfl⟩ := node_num hn
    rw [wr, if_pos rfl] at hr
    subst hr
    have hnb : -1000000000 ≤ n ∧ n ≤ 1000000000 := a2
    clear hk ht H HE
    go_enter Tryz.func85, Tryz.ntmps85
    go_wp2_with (fail)
    refine (Dec.dec n _ (by omega) (by omega)).mono ?_
    rintro x w1 ⟨rfl, hb1⟩
    have HB := hide (Boxes.box1 hb1).2.1
    clear hb1
    go_wp2_with (fail)
    go_ret
    exact ⟨rfl, unhide HB⟩
  by_cases k2 : k = 2
  · subst k2
    obtain ⟨a1, a2, rfl, rfl⟩ := node_name hn
    rw [wr, if_neg (by omega), if_pos rfl] at hr
    subst hr
    clear hk ht H HE
    go_enter Tryz.func85, Tryz.ntmps85
    go_wp2_with (fail)
    go_ret
    exact ⟨by rw [bytes_self]; rfl, below_alloc _ _⟩
  obtain ⟨h3, a1, a2, a3, rfl, a4, a5, a6, a7⟩ := node_more hn k1 k2
  rw [wr, if_neg k1, if_neg k2] at hr
  have HR := hide hr
  have b1 : (k == 1) = false := by simpa using k1
  have b2 : (k == 2) = false := by simpa using k2
  have hwl := wordL_len h3
  clear hr a1
  have hrl : r.length ≤ 200000 := by omega
  have hrl2 : (40 :: (wordL k ++ (wrS ks ++ (wrO k n ts ++ [41])))).length = r.length := by rw [unhide HR]
  have hrl3 : 1 + (wordL k).length + (wrS ks).length + (wrO k n ts).length + 1 ≤ 200000 := by simp at hrl2; omega
  go_enter Tryz.func85, Tryz.ntmps85
  go_wp2_with (fail)
  refine (wordC k _ h3).mono ?_
  rintro x w1 ⟨rfl, hb1⟩
  obtain ⟨q1, hB, hz1⟩ := Boxes.box1 hb1
  have A1 := hide q1
  have HB := hide hB
  have hbs : (bytesOf (wordL k)).size ≤ 8 := by rw [bsize]; exact hwl
  clear hb1 hB q1
  go_wp2_with (fail)
  go_loopw [3, 4] (fun out i wr => ∃ (j : Nat) (L : List UInt8), j ≤ ks.length ∧ i = .int .i64 j ∧ out = .string ⟨L.toArray⟩ ∧ L.length ≤ 200000 ∧ Hid (L = 40 :: (wordL k ++ wrS (ks.take j))) ∧ Hid (Below w1.heap.size w1 wr)) (fun _ i _ => ks.length - (intOf i).toNat)
  case atStart =>
    refine ⟨0, 40 :: wordL k, by omega, rfl, ?_, by simp; omega, hide (by simp [wrS]), hide (Below.refl _ _)⟩
    apply congrArg Value.string
    apply ByteArray.ext; simp [bytesOf]
  case round =>
    obtain ⟨j, L, hj, rfl, rfl, hL, hLe, hb⟩ := hrel
    have a1' := (unhide A1).below (unhide hb) (by omega)
    obtain ⟨e3, _⟩ := a1' 3 _ rfl
    have hzr : w.heap.size + 1 ≤ wr.heap.size := Nat.le_trans hz1 (unhide hb).size
    clear a1'
    by_cases hlt : j < ks.length
    · obtain ⟨d', b, o, cap, kv', tv', rfl, hv, hbb, ⟨c0', c1', c2', c3', c4'⟩, hev⟩ := (hk.kept (same_below (Kinds.below_trans (unhide HB) (unhide hb)) hhi)).at hlt
      simp only [Value.slice.injEq, true_and] at hv
      obtain ⟨rfl, rfl⟩ := hv
      have HEV := hide hev
      have HKID := hide (H d' rfl)
      have HAL := hide (allL_at hks hlt)
      have hcj := cntL_at hlt
      have HTK : Hid (∀ x, Rule.wr (ks.getD j E0) = x → 40 :: (wordL k ++ wrS (ks.take (j + 1))) = L ++ 32 :: x) := hide (fun x hx => by rw [unhide hLe, wrS_take hlt, hx]; simp)
      have hwl2 : (wrS (ks.take (j + 1))).length ≤ (wrS ks).length := wrS_part _ _
      have hwl3 : (wrS (ks.take (j + 1))).length = (wrS (ks.take j)).length + 1 + (Rule.wr (ks.getD j E0)).length := by rw [wrS_take hlt]; simp; omega
      have hLl : L.length = 1 + (wordL k).length + (wrS (ks.take j)).length := by rw [unhide hLe]; simp; omega
      have i1 : (j : Int) < (ks.length : Int) := by omega
      clear hev H
      generalize ks.getD j E0 = ex at *
      obtain ⟨xk, xn, xm, xks, xts⟩ := ex
      simp only [Ex.kind, Ex.num, Ex.meter] at c0' c1' c2' c3' c4' HEV
      go_wp2_with (fail)
      refine (unhide HKID lo hi _ _ _ (unhide HEV) (Nat.le_trans hhi (Nat.le_trans (unhide HB).size (unhide hb).size)) (unhide HAL) (by omega)).mono ?_
      rintro x w2 ⟨rfl, hb2⟩
      have HB2 := hide (Kinds.below_trans (unhide hb) hb2)
      have hsz : (bytesOf (Rule.wr (.mk xk xn xm xks xts))).size = (Rule.wr (.mk xk xn xm xks xts)).length := bsize _
      clear hb2 hb c0' c1' c2' c3' c4' HEV
      generalize hX : Rule.wr (.mk xk xn xm xks xts) = X at *
      have HTX := hide (unhide HTK X rfl)
      clear HTK hX
      go_wp2_with (fail)
      refine ⟨⟨j + 1, L ++ 32 :: X, by omega, by go_num, congrArg Value.string (cat3 L X 32), by simp; omega, hide (unhide HTX).symm, HB2⟩, by simp [intOf]; omega⟩
    · obtain rfl : j = ks.length := by omega
      have hLe2 : L = 40 :: (wordL k ++ wrS ks) := by rw [unhide hLe, List.take_length]
      have HL2 := hide hLe2
      have hLl : L.length = 1 + (wordL k).length + (wrS ks).length := by rw [hLe2]; simp; omega
      clear hLe hLe2
      have A2 := hide ((unhide A1).below (unhide hb) (by omega))
      have HB2 := hide (Kinds.below_trans (unhide HB) (unhide hb))
      obtain ⟨v0, _⟩ := (unhide A2) 0 _ rfl
      by_cases k6 : k = 6
      · subst k6
        obtain rfl := a7 (by omega)
        obtain ⟨v1, _⟩ := (unhide A2) 1 _ rfl
        obtain ⟨ta, tc, rfl⟩ : ∃ a c, tv = .slice a 0 c := by
          rcases ht with ⟨_, a, c, h⟩ | ⟨b, o, cap, h, _⟩
          · exact ⟨a, c, h⟩
          · exact ⟨_, _, h⟩
        have hno := itoa_short a4
        have hnb : -1000000000 ≤ n ∧ n ≤ 1000000000 := a4
        go_wp2_with (fail)
        refine (Dec.dec n _ (by omega) (by omega)).mono ?_
        rintro x w2 ⟨rfl, hb2⟩
        have HB3 := hide (Kinds.below_trans (unhide HB2) hb2)
        have a3' := (unhide A2).below hb2 (by omega)
        obtain ⟨u4, _⟩ := a3' 4 _ rfl
        clear hb2 v0 v1 A2 HB2 a3'
        go_wp2_with (fail)
        refine wp_loop_rounds 1 ?_
        rw [rounds_succ]
        go_wp2_with (fail)
        go_ret
        refine ⟨?_, unhide HB3⟩
        rw [← unhide HR]
        refine congrArg (fun z => Ending.returned (Value.string z)) ?_
        apply ByteArray.ext
        simp [bytesOf, wrO, wrT, unhide HL2]
      · have k6b : (k == 6) = false := by simpa using k6
        have hO : wrO k n ts = wrT ts := by simp [wrO, k6]
        rw [hO] at HR hrl3
        obtain ⟨v4, _⟩ := (unhide A2) 4 _ rfl
        by_cases hts : ts = []
        · subst hts
          obtain ⟨ta, tc, rfl⟩ : ∃ a c, tv = .slice a 0 c := by
            rcases ht with ⟨_, a, c, h⟩ | ⟨b, o, cap, h, _⟩
            · exact ⟨a, c, h⟩
            · exact ⟨_, _, h⟩
          go_wp2_with (fail)
          refine wp_loop_rounds 1 ?_
          rw [rounds_succ]
          go_wp2_with (fail)
          go_ret
          refine ⟨?_, unhide HB2⟩
          rw [← unhide HR]
          refine congrArg (fun z => Ending.returned (Value.string z)) ?_
          apply ByteArray.ext
          simp [bytesOf, wrT, unhide HL2]
        · have k10 : k = 10 := by
            refine Classical.byContradiction fun h => hts (a7 h)
          obtain ⟨t1, t2, t3⟩ := tier_ok (a6 k10)
          rcases ht with ⟨h, _⟩ | ⟨tb, tof, tcap, rfl, hb1, hb2, htc⟩
          · exact absurd h hts
          have HTC := hide htc
          have HNO := hide t3
          clear htc t3
          go_wp2_with (fail)
          go_loopw [3, 5] (fun out i wr' => ∃ (j : Nat) (M : List UInt8), j ≤ ts.length ∧ i = .int .i64 j ∧ out = .string ⟨M.toArray⟩ ∧ M.length ≤ 200000 ∧ Hid (M = L ++ wrT (ts.take j)) ∧ Hid (Below w1.heap.size w1 wr')) (fun _ i _ => ts.length - (intOf i).toNat)
          case atStart => exact ⟨0, L, by omega, rfl, rfl, hL, hide (by simp [wrT]), hb⟩
          case round =>
            obtain ⟨j, M, hj, rfl, rfl, hM, hMe, hbj⟩ := hrel
            clear v0 v4
            have a3' := (unhide A1).below (unhide hbj) (by omega)
            obtain ⟨v4, _⟩ := a3' 4 _ rfl
            clear a3'
            have HBJ := hide (Kinds.below_trans (unhide HB) (unhide hbj))
            by_cases hlt : j < ts.length
            · obtain ⟨d0', d1'⟩ := unhide HTC j hlt
              have hbw : tb < w.heap.size := by omega
              have D0 := hide d0'
              have D1 := hide d1'
              have HBJ2 : Hid (∀ g : In (Sb w1), Below w.heap.size w g.x) := hide (fun g => Kinds.below_trans (unhide HB) g.h)
              have d0 := ((unhide HBJ).cell (p := ⟨tb, tof + j * 2, none⟩) hbw).trans d0'
              have d1 := ((unhide HBJ).cell (p := ⟨tb, tof + j * 2 + 1, none⟩) hbw).trans d1'
              have hnn := unhide HNO (ts.getD j T0) (by simp [List.getD, hlt])
              have hte : ts.take (j + 1) = ts.take j ++ [ts.getD j T0] := by rw [List.take_add_one, List.getElem?_eq_getElem hlt]; simp [List.getD, hlt]
              have hwt : (wrT (ts.take (j + 1))).length ≤ (wrT ts).length := by
                have := wrT_append (ts.take (j + 1)) (ts.drop (j + 1))
                rw [List.take_append_drop] at this
                rw [this]; simp
              have HTX : Hid (L ++ wrT (ts.take (j + 1)) = M ++ 32 :: (Lib.itoa (ts.getD j T0).1 ++ 58 :: Lib.itoa (ts.getD j T0).2)) := hide (by
                rw [hte, wrT_append, unhide hMe]; simp [wrT])
              have hMl : M.length + (2 + (Lib.itoa (ts.getD j T0).1).length + (Lib.itoa (ts.getD j T0).2).length) ≤ 200000 := by
                have := congrArg List.length (unhide HTX)
                simp only [List.length_append, List.length_cons] at this
                omega
              have i1 : (j : Int) < (ts.length : Int) := by omega
              clear d0' d1' hte hMe hwt
              generalize ts.getD j T0 = tt at *
              obtain ⟨p1, p2⟩ := tt
              obtain ⟨⟨n1, n2⟩, n3, n4⟩ := hnn
              simp only at d0 d1 n1 n2 n3 n4 hMl HTX D0 D1
              have HX : Hid (Sb w1 wr.drew) := hide (show Below w1.heap.size w1 wr.drew from ⟨(unhide hbj).os, (unhide hbj).tape, (unhide hbj).output, (unhide hbj).size, (unhide hbj).block⟩)
              have g4 : ∀ g : In (Sb w1), g.x.cell? ⟨w.heap.size, 4, none⟩ = some (.slice (some ⟨tb, tof, none⟩) ts.length tcap) := fun g => ((unhide A1).below g.h (by omega) 4 _ rfl).1
              have g0 : ∀ g : In (Sb w1), g.x.cell? ⟨tb, tof + j * 2, none⟩ = some (.int .i64 p1) := fun g => ((unhide HBJ2 g).cell (p := ⟨tb, tof + j * 2, none⟩) hbw).trans (unhide D0)
              have g1 : ∀ g : In (Sb w1), g.x.cell? ⟨tb, tof + j * 2 + 1, none⟩ = some (.int .i64 p2) := fun g => ((unhide HBJ2 g).cell (p := ⟨tb, tof + j * 2 + 1, none⟩) hbw).trans (unhide D1)
              have HCD : Hid (∀ (g : In (Sb w1)) (p : Int), (p = p1 ∨ p = p2) → Calls Tryz.prog 110 #[.int .i64 p] g.x fun e w' => e = .returned (.string ⟨(Lib.itoa p).toArray⟩) ∧ Sb w1 w') := hide (fun g p hp => Sb.dec p (by rcases hp with rfl | rfl; exact ⟨n1, n2⟩; exact ⟨n3, n4⟩) g)
              have HN : Hid (∀ g : In (Sb w1), Below w1.heap.size w1 g.x) := hide (fun g => g.h)
              generalize hS : Sb w1 = S at *
              generalize hI1 : Lib.itoa p1 = I1 at *
              generalize hI2 : Lib.itoa p2 = I2 at *
              clear d0 d1 D0 D1 HBJ2
              go_wp2_with (fail)
              refine wp_region_in S (by kernel_rfl) (by kernel_rfl) (unhide HX) ?_
              intro hne
              repeat (go_big_quiet_step (exact call_in _ (unhide HCD _ _ (by first | exact .inl rfl | exact .inr rfl))))
              refine wpQuiet_nil ?_
              rintro _ ⟨g, rfl⟩
              have HG := hide (unhide HN g)
              generalize g.x = gx at *
              clear g0 g1 g4 HCD HN hne HX
              go_wp2_with (fail)
              refine ⟨⟨j + 1, M ++ 32 :: (I1 ++ 58 :: I2), by omega, by go_num, congrArg Value.string ?_, by simp; omega, hide (unhide HTX).symm, HG⟩, by simp [intOf]; omega⟩
              apply ByteArray.ext; simp
            · obtain rfl : j = ts.length := by omega
              have hM2 : M = L ++ wrT ts := by rw [unhide hMe, List.take_length]
              have hMl2 : M.length + 1 ≤ 200000 := by
                have := congrArg List.length hM2
                simp only [List.length_append] at this
                omega
              have HM2 := hide hM2
              clear hMe hM2
              go_wp2_with (fail)
              go_ret
              refine ⟨?_, unhide HBJ⟩
              rw [← unhide HR]
              refine congrArg (fun z => Ending.returned (Value.string z)) ?_
              apply ByteArray.ext
              simp [bytesOf, unhide HM2, unhide HL2]

theorem wrC : ∀ d, WrC d
  | 0 => wr_step (fun d' h => by omega)
  | d + 1 => wr_step (fun d' h => by cases h; exact wrC d)

/-- the text of an expression; none, if it is not ok -/
def textE (e : Ex) : List UInt8 := if okE e = true then wr e else []
theorem ok_all {e : Ex} (h : okE e = true) : allB e = true ∧ cnt e ≤ 40 ∧ dep e ≤ 8 := by
  unfold okE at h
  simp only [Bool.and_eq_true, decide_eq_true_eq] at h
  exact ⟨h.1.1, h.1.2, h.2⟩

set_option maxRecDepth 20000 in
theorem textS (d lo hi : Nat) (v : Value) (e : Ex) (w : World) (h : EV lo hi w d v e) (hhi : hi ≤ w.heap.size) (hw : wt e ≤ 1048576) :
    Calls Tryz.prog 52 #[v] w fun x w' => x = .returned (.string (bytesOf (textE e))) ∧ Below w.heap.size w w' := by
  obtain ⟨ka, kc, ta, tc, rfl⟩ := h.form
  have HE := hide h
  generalize hr : textE e = r
  have HR := hide hr
  clear h hr
  go_enter Tryz.func52, Tryz.ntmps52
  go_wp2_with (fail)
  refine (okS d lo hi _ e _ (keptE (unhide HE) hhi (below_alloc _ _)) (by simp; omega) hw).mono ?_
  rintro x w1 ⟨rfl, hb1⟩
  obtain ⟨q1, hB, hz1⟩ := Boxes.box1 hb1
  have HB := hide hB
  obtain ⟨c0, _⟩ := q1 0 _ rfl
  obtain ⟨c1, _⟩ := q1 1 _ rfl
  obtain ⟨c2, _⟩ := q1 2 _ rfl
  obtain ⟨c3, _⟩ := q1 3 _ rfl
  obtain ⟨c4, _⟩ := q1 4 _ rfl
  clear hb1 hB q1
  cases ho : okE e with
  | false =>
    obtain rfl : r = [] := by rw [← unhide HR]; unfold textE; rw [ho]; rfl
    clear ho
    go_wp2_with (fail)
    go_ret
    exact ⟨rfl, unhide HB⟩
  | true =>
    obtain rfl : r = wr e := by rw [← unhide HR]; unfold textE; rw [ho]; rfl
    obtain ⟨o1, o2, o3⟩ := ok_all ho
    clear ho
    go_wp2_with (fail)
    refine (wrC d lo hi _ e _ (keptE (unhide HE) hhi (unhide HB)) (Nat.le_trans hhi (unhide HB).size) o1 (by omega)).mono ?_
    rintro x w2 ⟨rfl, hb2⟩
    have HB2 := hide (Kinds.below_trans (unhide HB) hb2)
    clear hb2
    go_wp2_with (fail)
    go_ret
    exact ⟨rfl, unhide HB2⟩
end Go.Proofs.YtnchgeiinkaefaaGreatDoor.Rule
end

section
/-
  spec's reader of expressions: see, want, word, num.
-/
namespace Go.Proofs.YtnchgeiinkaefaaGreatDoor.Rule
set_option linter.unusedVariables false
open Go.RowKit
open Boxes (At)
open RegIn

/-- the reader's box: the text, where it is, whether something could not stand -/
def Ps (W : World) (b : Nat) (s : ByteArray) (a : Nat) (bad : Bool) : Prop := At W b [.string s, .int .i64 a, .bool bad]
theorem Ps.cells {W : World} {b : Nat} {s : ByteArray} {a : Nat} {bad : Bool} (h : Ps W b s a bad) : (W.cell? ⟨b, 0, none⟩ = some (.string s) ∧ W.cell? ⟨b, 1, none⟩ = some (.int .i64 a) ∧ W.cell? ⟨b, 2, none⟩ = some (.bool bad)) ∧ W.frozen? ⟨b, 1, none⟩ = false ∧ W.frozen? ⟨b, 2, none⟩ = false :=
  ⟨⟨(h 0 _ rfl).1, (h 1 _ rfl).1, (h 2 _ rfl).1⟩, (h 1 _ rfl).2, (h 2 _ rfl).2⟩
theorem Ps.lt {W : World} {b : Nat} {s : ByteArray} {a : Nat} {bad : Bool} (h : Ps W b s a bad) : b < W.heap.size := At.lt h
/-- what is still to be read -/
def left (s : ByteArray) (a : Nat) : List UInt8 := s.data.toList.drop a
theorem left_cons {s : ByteArray} {a : Nat} (h : a < s.size) : left s a = s[a] :: left s (a + 1) := by
  have hs : s.data.toList.length = s.size := Array.length_toList
  unfold left
  rw [List.drop_eq_getElem_cons (by omega)]
  simp
  rfl
theorem left_nil {s : ByteArray} {a : Nat} (h : s.size ≤ a) : left s a = [] := by
  have hs : s.data.toList.length = s.size := Array.length_toList
  unfold left
  rw [List.drop_eq_nil_iff]; omega
theorem left_len (s : ByteArray) (a : Nat) : (left s a).length = s.size - a := by
  have hs : s.data.toList.length = s.size := Array.length_toList
  unfold left
  simp [hs]
/-- the next byte, or 0 -/
def seeB (s : ByteArray) (a : Nat) : UInt8 := (left s a).head?.getD 0

theorem below_dn {w : World} (n : Nat) : Below w.heap.size w (w.drewN n) := ⟨rfl, rfl, rfl, Nat.le_refl _, fun _ _ => rfl⟩
theorem Ps.kept {W W' : World} {b : Nat} {s : ByteArray} {a : Nat} {bad : Bool} (h : Ps W b s a bad) (hb : Below W.heap.size W W') : Ps W' b s a bad := At.below h hb h.lt

theorem see (b : Nat) (s : ByteArray) (a : Nat) (bad : Bool) (w : World) (h : Ps w b s a bad) (hs : s.size ≤ 1000000) (ha : a ≤ 2000000) :
    Calls Tryz.prog 78 #[.pointer (some ⟨b, 0, none⟩)] w fun e w' => e = .returned (.int .u8 ((seeB s a).toNat : Int)) ∧ Below w.heap.size w w' := by
  obtain ⟨⟨c0, c1, c2⟩, f1, f2⟩ := h.cells
  clear h
  by_cases hl : a < s.size
  · have e : seeB s a = s[a] := by unfold seeB; rw [left_cons hl]; rfl
    rw [e]
    clear e
    go_enter Tryz.func78, Tryz.ntmps78
    go_wp2
    go_quiet (fail)
    go_wp2
    go_quiet (fail)
    go_wp2
    go_ret
    exact ⟨rfl, ⟨rfl, rfl, rfl, Nat.le_refl _, fun _ _ => rfl⟩⟩
  · have e : seeB s a = 0 := by unfold seeB; rw [left_nil (by omega)]; rfl
    rw [e]
    clear e
    go_enter Tryz.func78, Tryz.ntmps78
    go_wp2
    go_quiet (fail)
    go_wp2
    go_ret
    exact ⟨rfl, ⟨rfl, rfl, rfl, Nat.le_refl _, fun _ _ => rfl⟩⟩

/-- where the reader is, off its box -/
def atOf (W : World) (b : Nat) : Nat := match W.cell? ⟨b, 1, none⟩ with | some (.int _ x) => x.toNat | _ => 0
theorem Ps.atOf {W : World} {b : Nat} {s : ByteArray} {a : Nat} {bad : Bool} (h : Ps W b s a bad) : atOf W b = a := by unfold Rule.atOf; rw [h.cells.1.2.1]; rfl

theorem gb_below {w w1 w2 : World} {b : Nat} (h : Below w.heap.size w w1) (k : w1.grownBy w2 (some b)) : w.grownBy w2 (some b) :=
  ⟨k.os.trans h.os, k.tape.trans h.tape, k.output.trans h.output, Nat.le_trans h.size k.size, fun j hj hne => (k.block j (Nat.lt_of_lt_of_le hj h.size) hne).trans (h.block j hj)⟩
theorem gb_trans {w w1 w2 : World} {b : Nat} (h : w.grownBy w1 (some b)) (k : w1.grownBy w2 (some b)) : w.grownBy w2 (some b) :=
  ⟨k.os.trans h.os, k.tape.trans h.tape, k.output.trans h.output, Nat.le_trans h.size k.size, fun j hj hne => (k.block j (Nat.lt_of_lt_of_le hj h.size) hne).trans (h.block j hj hne)⟩
theorem gb_of {w w1 : World} (b : Nat) (h : Below w.heap.size w w1) : w.grownBy w1 (some b) := ⟨h.os, h.tape, h.output, h.size, fun j hj _ => h.block j hj⟩
theorem gb_set (w : World) (b o : Nat) (u : Value) : w.grownBy (w.setCell ⟨b, o, none⟩ u) (some b) := by
  refine ⟨rfl, rfl, rfl, by simp, fun j hj hne => Below.heap_setCell w ⟨b, o, none⟩ u j (fun e => hne (by rw [e]))⟩

theorem want (b : Nat) (s : ByteArray) (a : Nat) (bad : Bool) (c : UInt8) (w : World) (h : Ps w b s a bad) (hs : s.size ≤ 1000000) (ha : a ≤ 2000000) :
    Calls Tryz.prog 81 #[.pointer (some ⟨b, 0, none⟩), .int .u8 (c.toNat : Int)] w fun e w' => e = .returned (.tuple #[]) ∧ Ps w' b s (a + 1) (bad || !(seeB s a == c)) ∧ w.grownBy w' (some b) := by
  have HP := Boxes.hide h
  clear h
  generalize hr : (bad || !(seeB s a == c)) = r
  have HR := Boxes.hide hr
  clear hr
  go_enter Tryz.func81, Tryz.ntmps81
  go_wp2_with (fail)
  refine (see b s a bad w (Boxes.unhide HP) hs ha).mono ?_
  rintro e w1 ⟨rfl, hb1⟩
  have hp1 := (Boxes.unhide HP).kept hb1
  have P1 := Boxes.hide hp1
  have HB := Boxes.hide hb1
  obtain ⟨⟨c0, c1, c2⟩, f1, f2⟩ := hp1.cells
  clear hb1 HP hp1
  generalize seeB s a = x at *
  by_cases hx : x = c
  · subst hx
    have b1 : ((x.toNat : Int) != (x.toNat : Int)) = false := by simp
    obtain rfl : bad = r := by rw [← Boxes.unhide HR]; simp
    clear HR
    go_wp2_with (fail)
    go_end0
    exact ⟨rfl, (Boxes.unhide P1).set 1 _, gb_below (Boxes.unhide HB) (gb_set _ _ _ _)⟩
  · have b1 : ((x.toNat : Int) != (c.toNat : Int)) = true := by
      simp only [bne_iff_ne, ne_eq]
      intro e; apply hx; apply UInt8.toNat_inj.1; omega
    obtain rfl : r = true := by rw [← Boxes.unhide HR]; simp [hx]
    clear HR hx
    go_wp2_with (fail)
    go_end0
    exact ⟨rfl, ((Boxes.unhide P1).set 2 _).set 1 _, gb_below (Boxes.unhide HB) (gb_trans (gb_set _ _ _ _) (gb_set _ _ _ _))⟩

/-- a world under way: the reader at a, all but its box as it was -/
def Sw (w : World) (b : Nat) (s : ByteArray) (a : Nat) (bad : Bool) (w2 : World) : Prop := Ps w2 b s a bad ∧ w.grownBy w2 (some b)
theorem Sw.see {w : World} {b : Nat} {s : ByteArray} {a : Nat} {bad : Bool} (hs : s.size ≤ 1000000) (ha : a ≤ 2000000) (g : In (Sw w b s a bad)) :
    Calls Tryz.prog 78 #[.pointer (some ⟨b, 0, none⟩)] g.x fun e w' => e = .returned (.int .u8 ((seeB s a).toNat : Int)) ∧ Sw w b s a bad w' :=
  (Rule.see b s a bad g.x g.h.1 hs ha).mono fun e w' ⟨he, hb⟩ => ⟨he, g.h.1.kept hb, gb_trans g.h.2 (gb_of _ hb)⟩

theorem left_drop (s : ByteArray) (a k : Nat) : left s (a + k) = (left s a).drop k := by
  unfold left; rw [List.drop_drop]
theorem ext_take (s : ByteArray) (a k : Nat) : (s.extract a (a + k)).data.toList = (left s a).take k := by
  unfold left
  rw [ByteArray.data_extract, Array.toList_extract]
  rw [List.extract_eq_take_drop]
  congr 1
  omega

/-- the bytes up to a stop -/
theorem take_more {s : ByteArray} {a k : Nat} (h : a + k < s.size) (hk : ∀ j, j < k → ∃ c, (left s a)[j]? = some c ∧ stopB c = false) (hc : stopB s[a + k] = false) : ∀ j, j < k + 1 → ∃ c, (left s a)[j]? = some c ∧ stopB c = false := by
  intro j hj
  by_cases e : j = k
  · subst e
    refine ⟨s[a + j], ?_, hc⟩
    have hs : s.data.toList.length = s.size := Array.length_toList
    unfold left
    rw [List.getElem?_drop, List.getElem?_eq_getElem (by omega)]
    simp; rfl
  · exact hk j (by omega)
theorem word_at {t : List UInt8} {k : Nat} (hk : ∀ j, j < k → ∃ c, t[j]? = some c ∧ stopB c = false) (he : k = t.length ∨ ∃ c, t[k]? = some c ∧ stopB c = true) : wordOf t = t.take k ∧ restOf t = t.drop k := by
  have hl : k ≤ t.length := by
    rcases he with h | ⟨c, h, _⟩
    · omega
    · have := List.getElem?_eq_some_iff.1 h; obtain ⟨h', _⟩ := this; omega
  have := word_split (w := t.take k) (r := t.drop k) (fun b hb => by
    obtain ⟨j, hj⟩ := List.getElem?_of_mem hb
    have hj' : j < k := by
      have := (List.getElem?_eq_some_iff.1 hj).1
      simp at this; omega
    obtain ⟨c, h1, h2⟩ := hk j hj'
    rw [List.getElem?_take, if_pos hj', h1] at hj
    obtain rfl := Option.some.inj hj
    exact h2) (by
    rcases he with h | ⟨c, h, hc⟩
    · exact .inl (by rw [List.drop_eq_nil_iff]; omega)
    · obtain ⟨h1, h2⟩ := List.getElem?_eq_some_iff.1 h
      exact .inr ⟨c, t.drop (k + 1), by rw [List.drop_eq_getElem_cons h1, h2], hc⟩)
  rwa [List.take_append_drop] at this

set_option maxHeartbeats 1600000 in
theorem word (b : Nat) (s : ByteArray) (a : Nat) (bad : Bool) (w : World) (h : Ps w b s a bad) (hs : s.size ≤ 1000000) (ha : a ≤ 2000000) :
    Calls Tryz.prog 79 #[.pointer (some ⟨b, 0, none⟩)] w fun e w' => ∃ x a' bad', e = .returned (.string x) ∧ Ps w' b s a' bad' ∧ w.grownBy w' (some b) ∧
      (s.size < a → bad' = true ∧ a' = a ∧ x.size = 0) ∧ (a ≤ s.size → bad' = bad ∧ x.data.toList = wordOf (left s a) ∧ left s a' = restOf (left s a) ∧ a ≤ a' ∧ a' ≤ s.size) := by
  have HP := Boxes.hide h
  obtain ⟨⟨c0, c1, c2⟩, f1, f2⟩ := h.cells
  clear h
  by_cases hl : s.size < a
  · have g1 : (s.size : Int) < (a : Int) := by omega
    go_enter Tryz.func79, Tryz.ntmps79
    go_wp2_with (fail)
    go_quiet (fail)
    go_wp2_with (fail)
    go_ret
    refine ⟨_, a, true, rfl, ?_, ?_, fun _ => ⟨rfl, rfl, rfl⟩, fun h => by omega⟩
    · exact ((Boxes.unhide HP).kept (below_dn _)).set 2 _
    · exact gb_below (below_dn _) (gb_set _ _ _ _)
  · have g1 : ¬ (s.size : Int) < (a : Int) := by omega
    go_enter Tryz.func79, Tryz.ntmps79
    go_wp2_with (fail)
    go_quiet (fail)
    go_wp2_with (fail)
    go_loopw [] (fun wr => ∃ k : Nat, a + k ≤ s.size ∧ Hid (Ps wr b s (a + k) bad) ∧ Hid (w.grownBy wr (some b)) ∧ Hid (∀ j, j < k → ∃ c, (left s a)[j]? = some c ∧ stopB c = false)) (fun wr => s.size - atOf wr b)
    case atStart => exact ⟨0, by omega, Boxes.hide ((Boxes.unhide HP).kept (below_dn _)), Boxes.hide (gb_of _ (below_dn _)), Boxes.hide (fun j hj => by omega)⟩
    case round =>
      obtain ⟨k, hk, hp, hg, hst⟩ := hrel
      have HX : Hid (Sw w b s (a + k) bad wr.drew) := Boxes.hide ⟨(Boxes.unhide hp).kept (below_dn 1), gb_trans (Boxes.unhide hg) (gb_of _ (below_dn 1))⟩
      have HME := Boxes.hide (Boxes.unhide hp).atOf
      have g0 : ∀ g : In (Sw w b s (a + k) bad), g.x.cell? ⟨b, 0, none⟩ = some (.string s) := fun g => g.h.1.cells.1.1
      have g1 : ∀ g : In (Sw w b s (a + k) bad), g.x.cell? ⟨b, 1, none⟩ = some (.int .i64 ((a + k : Nat) : Int)) := fun g => g.h.1.cells.1.2.1
      have HS : Hid (∀ g : In (Sw w b s (a + k) bad), Calls Tryz.prog 78 #[.pointer (some ⟨b, 0, none⟩)] g.x fun e w' => e = .returned (.int .u8 ((seeB s (a + k)).toNat : Int)) ∧ Sw w b s (a + k) bad w') := Boxes.hide (fun g => Sw.see hs (by omega) g)
      have HN : Hid (∀ g : In (Sw w b s (a + k) bad), Ps g.x b s (a + k) bad ∧ w.grownBy g.x (some b)) := Boxes.hide (fun g => g.h)
      generalize hA : a + k = A at *
      generalize hS : Sw w b s A bad = S at *
      by_cases hlt : A < s.size
      · have hx : seeB s A = s[A] := by unfold seeB; rw [left_cons hlt]; rfl
        have i1 : (A : Int) < (s.size : Int) := by omega
        rw [hx] at HS
        have HTM : Hid (stopB s[A] = false → ∀ j, j < k + 1 → ∃ c, (left s a)[j]? = some c ∧ stopB c = false) := Boxes.hide (fun h => by subst hA; exact take_more hlt (Boxes.unhide hst) h)
        have HDN : Hid (stopB s[A] = true → wordOf (left s a) = (left s a).take k ∧ restOf (left s a) = (left s a).drop k) := Boxes.hide (fun h => by
          subst hA
          refine word_at (Boxes.unhide hst) (.inr ⟨s[a + k], ?_, h⟩)
          have hl : s.data.toList.length = s.size := Array.length_toList
          unfold left
          rw [List.getElem?_drop, List.getElem?_eq_getElem (by omega)]
          simp; rfl)
        clear hst hp hg hx
        generalize s[A] = x at *
        cases hst : stopB x with
        | false =>
          have HT := Boxes.hide (Boxes.unhide HTM hst)
          have y32 : ((x.toNat : Int) != 32) = true := by simp only [bne_iff_ne, ne_eq]; intro e; rw [show x = 32 from UInt8.toNat_inj.1 (by simp; omega)] at hst; exact absurd hst (by decide)
          have y40 : ((x.toNat : Int) != 40) = true := by simp only [bne_iff_ne, ne_eq]; intro e; rw [show x = 40 from UInt8.toNat_inj.1 (by simp; omega)] at hst; exact absurd hst (by decide)
          have y41 : ((x.toNat : Int) != 41) = true := by simp only [bne_iff_ne, ne_eq]; intro e; rw [show x = 41 from UInt8.toNat_inj.1 (by simp; omega)] at hst; exact absurd hst (by decide)
          have y58 : ((x.toNat : Int) != 58) = true := by simp only [bne_iff_ne, ne_eq]; intro e; rw [show x = 58 from UInt8.toNat_inj.1 (by simp; omega)] at hst; exact absurd hst (by decide)
          clear HDN HTM hst
          go_wp2
          refine wp_region_in S (by kernel_rfl) (by kernel_rfl) (Boxes.unhide HX) ?_
          intro hne
          repeat (go_big_quiet_step (exact call_in _ (Boxes.unhide HS _)))
          refine wpQuiet_nil ?_
          rintro _ ⟨g, rfl⟩
          obtain ⟨hp, hg⟩ := Boxes.unhide HN g
          have HPg := Boxes.hide hp
          have HGg := Boxes.hide hg
          obtain ⟨⟨d0, d1, d2⟩, e1, e2⟩ := hp.cells
          generalize g.x = gx at *
          clear hp hg g0 g1 HS HN hne
          go_wp2
          refine ⟨⟨k + 1, by omega, ?_, Boxes.hide (gb_trans (Boxes.unhide HGg) (gb_set _ _ _ _)), HT⟩, ?_⟩
          · have := (Boxes.unhide HPg).set 1 (.int .i64 ((A : Int) + 1))
            subst hA
            exact Boxes.hide this
          · have hq : Ps (gx.setCell ⟨b, 1, none⟩ (.int .i64 ((A : Int) + 1))) b s (A + 1) bad := (Boxes.unhide HPg).set 1 (.int .i64 ((A : Int) + 1))
            have e1 := hq.atOf
            have e2 := Boxes.unhide HME
            rw [e1, e2]; omega
        | true =>
          have HD := Boxes.hide (Boxes.unhide HDN hst)
          have hc : x = 32 ∨ x = 40 ∨ x = 41 ∨ x = 58 := by
            unfold stopB at hst
            simp only [Bool.or_eq_true, beq_iff_eq] at hst
            rcases hst with ((h | h) | h) | h
            · exact .inl h
            · exact .inr (.inl h)
            · exact .inr (.inr (.inl h))
            · exact .inr (.inr (.inr h))
          clear HDN HTM
          rcases hc with hc | hc | hc | hc
          · subst hc
            have y32 : ((((32 : UInt8).toNat : Nat) : Int) != 32) = false := by decide
            have y40 : ((((32 : UInt8).toNat : Nat) : Int) != 40) = true := by decide
            have y41 : ((((32 : UInt8).toNat : Nat) : Int) != 41) = true := by decide
            have y58 : ((((32 : UInt8).toNat : Nat) : Int) != 58) = true := by decide
            clear hst
            go_wp2
            refine wp_region_in S (by kernel_rfl) (by kernel_rfl) (Boxes.unhide HX) ?_
            intro hne
            repeat (go_big_quiet_step (exact call_in _ (Boxes.unhide HS _)))
            refine wpQuiet_nil ?_
            rintro _ ⟨g, rfl⟩
            obtain ⟨hp, hg⟩ := Boxes.unhide HN g
            have HPg := Boxes.hide hp
            have HGg := Boxes.hide hg
            obtain ⟨⟨d0, d1, d2⟩, e1, e2⟩ := hp.cells
            have i3 : (a : Int) ≤ (A : Int) := by omega
            have i4 : (A : Int) ≤ (s.size : Int) := by omega
            have i5 : (0 : Int) ≤ (a : Int) := by omega
            generalize g.x = gx at *
            clear hp hg g0 g1 HS HN hne
            go_wp2
            go_quiet (fail)
            go_wp2
            go_ret
            exact ⟨s.extract a A, A, bad, rfl, (Boxes.unhide HPg).kept (below_dn _), gb_trans (Boxes.unhide HGg) (gb_of _ (below_dn _)), fun h => by omega, fun _ => ⟨rfl, (by subst hA; rw [(Boxes.unhide HD).1]; exact ext_take _ _ _), (by subst hA; rw [(Boxes.unhide HD).2]; exact left_drop _ _ _), by omega, by omega⟩⟩
          · subst hc
            have y32 : ((((40 : UInt8).toNat : Nat) : Int) != 32) = true := by decide
            have y40 : ((((40 : UInt8).toNat : Nat) : Int) != 40) = false := by decide
            have y41 : ((((40 : UInt8).toNat : Nat) : Int) != 41) = true := by decide
            have y58 : ((((40 : UInt8).toNat : Nat) : Int) != 58) = true := by decide
            clear hst
            go_wp2
            refine wp_region_in S (by kernel_rfl) (by kernel_rfl) (Boxes.unhide HX) ?_
            intro hne
            repeat (go_big_quiet_step (exact call_in _ (Boxes.unhide HS _)))
            refine wpQuiet_nil ?_
            rintro _ ⟨g, rfl⟩
            obtain ⟨hp, hg⟩ := Boxes.unhide HN g
            have HPg := Boxes.hide hp
            have HGg := Boxes.hide hg
            obtain ⟨⟨d0, d1, d2⟩, e1, e2⟩ := hp.cells
            have i3 : (a : Int) ≤ (A : Int) := by omega
            have i4 : (A : Int) ≤ (s.size : Int) := by omega
            have i5 : (0 : Int) ≤ (a : Int) := by omega
            generalize g.x = gx at *
            clear hp hg g0 g1 HS HN hne
            go_wp2
            go_quiet (fail)
            go_wp2
            go_ret
            exact ⟨s.extract a A, A, bad, rfl, (Boxes.unhide HPg).kept (below_dn _), gb_trans (Boxes.unhide HGg) (gb_of _ (below_dn _)), fun h => by omega, fun _ => ⟨rfl, (by subst hA; rw [(Boxes.unhide HD).1]; exact ext_take _ _ _), (by subst hA; rw [(Boxes.unhide HD).2]; exact left_drop _ _ _), by omega, by omega⟩⟩
          · subst hc
            have y32 : ((((41 : UInt8).toNat : Nat) : Int) != 32) = true := by decide
            have y40 : ((((41 : UInt8).toNat : Nat) : Int) != 40) = true := by decide
            have y41 : ((((41 : UInt8).toNat : Nat) : Int) != 41) = false := by decide
            have y58 : ((((41 : UInt8).toNat : Nat) : Int) != 58) = true := by decide
            clear hst
            go_wp2
            refine wp_region_in S (by kernel_rfl) (by kernel_rfl) (Boxes.unhide HX) ?_
            intro hne
            repeat (go_big_quiet_step (exact call_in _ (Boxes.unhide HS _)))
            refine wpQuiet_nil ?_
            rintro _ ⟨g, rfl⟩
            obtain ⟨hp, hg⟩ := Boxes.unhide HN g
            have HPg := Boxes.hide hp
            have HGg := Boxes.hide hg
            obtain ⟨⟨d0, d1, d2⟩, e1, e2⟩ := hp.cells
            have i3 : (a : Int) ≤ (A : Int) := by omega
            have i4 : (A : Int) ≤ (s.size : Int) := by omega
            have i5 : (0 : Int) ≤ (a : Int) := by omega
            generalize g.x = gx at *
            clear hp hg g0 g1 HS HN hne
            go_wp2
            go_quiet (fail)
            go_wp2
            go_ret
            exact ⟨s.extract a A, A, bad, rfl, (Boxes.unhide HPg).kept (below_dn _), gb_trans (Boxes.unhide HGg) (gb_of _ (below_dn _)), fun h => by omega, fun _ => ⟨rfl, (by subst hA; rw [(Boxes.unhide HD).1]; exact ext_take _ _ _), (by subst hA; rw [(Boxes.unhide HD).2]; exact left_drop _ _ _), by omega, by omega⟩⟩
          · subst hc
            have y32 : ((((58 : UInt8).toNat : Nat) : Int) != 32) = true := by decide
            have y40 : ((((58 : UInt8).toNat : Nat) : Int) != 40) = true := by decide
            have y41 : ((((58 : UInt8).toNat : Nat) : Int) != 41) = true := by decide
            have y58 : ((((58 : UInt8).toNat : Nat) : Int) != 58) = false := by decide
            clear hst
            go_wp2
            refine wp_region_in S (by kernel_rfl) (by kernel_rfl) (Boxes.unhide HX) ?_
            intro hne
            repeat (go_big_quiet_step (exact call_in _ (Boxes.unhide HS _)))
            refine wpQuiet_nil ?_
            rintro _ ⟨g, rfl⟩
            obtain ⟨hp, hg⟩ := Boxes.unhide HN g
            have HPg := Boxes.hide hp
            have HGg := Boxes.hide hg
            obtain ⟨⟨d0, d1, d2⟩, e1, e2⟩ := hp.cells
            have i3 : (a : Int) ≤ (A : Int) := by omega
            have i4 : (A : Int) ≤ (s.size : Int) := by omega
            have i5 : (0 : Int) ≤ (a : Int) := by omega
            generalize g.x = gx at *
            clear hp hg g0 g1 HS HN hne
            go_wp2
            go_quiet (fail)
            go_wp2
            go_ret
            exact ⟨s.extract a A, A, bad, rfl, (Boxes.unhide HPg).kept (below_dn _), gb_trans (Boxes.unhide HGg) (gb_of _ (below_dn _)), fun h => by omega, fun _ => ⟨rfl, (by subst hA; rw [(Boxes.unhide HD).1]; exact ext_take _ _ _), (by subst hA; rw [(Boxes.unhide HD).2]; exact left_drop _ _ _), by omega, by omega⟩⟩
      · have i1 : ¬ ((A : Int) < (s.size : Int)) := by omega
        have HD : Hid (wordOf (left s a) = (left s a).take k ∧ restOf (left s a) = (left s a).drop k) := Boxes.hide (word_at (Boxes.unhide hst) (.inl (by rw [left_len]; omega)))
        clear hst hp hg
        go_wp2
        refine wp_region_in S (by kernel_rfl) (by kernel_rfl) (Boxes.unhide HX) ?_
        intro hne
        repeat (go_big_quiet_step (exact call_in _ (Boxes.unhide HS _)))
        refine wpQuiet_nil ?_
        rintro _ ⟨g, rfl⟩
        obtain ⟨hp, hg⟩ := Boxes.unhide HN g
        have HPg := Boxes.hide hp
        have HGg := Boxes.hide hg
        obtain ⟨⟨d0, d1, d2⟩, e1, e2⟩ := hp.cells
        have i3 : (a : Int) ≤ (A : Int) := by omega
        have i4 : (A : Int) ≤ (s.size : Int) := by omega
        have i5 : (0 : Int) ≤ (a : Int) := by omega
        generalize g.x = gx at *
        clear hp hg g0 g1 HS HN hne
        go_wp2
        go_quiet (fail)
        go_wp2
        go_ret
        exact ⟨s.extract a A, A, bad, rfl, (Boxes.unhide HPg).kept (below_dn _), gb_trans (Boxes.unhide HGg) (gb_of _ (below_dn _)), fun h => by omega, fun _ => ⟨rfl, (by subst hA; rw [(Boxes.unhide HD).1]; exact ext_take _ _ _), (by subst hA; rw [(Boxes.unhide HD).2]; exact left_drop _ _ _), by omega, by omega⟩⟩
end Go.Proofs.YtnchgeiinkaefaaGreatDoor.Rule
end
