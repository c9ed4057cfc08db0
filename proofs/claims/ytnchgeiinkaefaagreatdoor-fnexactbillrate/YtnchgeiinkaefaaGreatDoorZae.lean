/-
  Texts of this proof laid together, in build order; each says of itself what it holds.
-/
import Derived.Test.YtnchgeiinkaefaaGreatDoorZad
import Derived.Lib.Fields
import Derived.Lib.IndexMore
import Derived.Test.YtnchgeiinkaefaaGreatDoorZab
import Derived.Laws.RangeAny
import Derived.Laws.Runes
import Derived.WalkMore
import Derived.Deep.RegionWith
import Derived.Deep.LoopGhost
import Derived.Lib.OthersKept
import Derived.Test.YtnchgeiinkaefaaGreatDoorZaa
import Derived.Lib.IndexAny
section
/-
  The specification's reader reads what is written.
-/
namespace Go.Proofs.YtnchgeiinkaefaaGreatDoor.Rule
set_option linter.unusedVariables false
open Tiers
open Kinds hiding hide unhide below_trans ext_toList

theorem ba_empty {m : ByteArray} (h : m.size = 0) : m = ByteArray.empty := by
  have h1 : m.data.size = 0 := h
  cases m with
  | mk a =>
    have : a = #[] := Array.size_eq_zero_iff.1 h1
    rw [this]; rfl
theorem bytes_self (m : ByteArray) : bytesOf m.data.toList = m := by cases m; rfl
/-- what is known of an expression that is right, but for its kids -/
theorem node_num {n : Int} {m : ByteArray} {nk : Nat} {ts : List T} (h : nodeB 1 n m nk ts = true) : nk = 0 ∧ numOk n ∧ m = ByteArray.empty ∧ ts = [] := by
  unfold nodeB fitsB at h
  simp only [Bool.and_eq_true, decide_eq_true_eq] at h
  obtain ⟨⟨_, _, h1⟩, h2⟩ := h
  simp only [if_true, Bool.and_eq_true, decide_eq_true_eq] at h2
  refine ⟨?_, ?_, ba_empty h2.1.2, List.length_eq_zero_iff.1 h2.2⟩
  · simp [kidsK] at h1; exact h1
  · unfold numOk; omega
theorem node_name {n : Int} {m : ByteArray} {nk : Nat} {ts : List T} (h : nodeB 2 n m nk ts = true) : nk = 0 ∧ nameB m = true ∧ n = 0 ∧ ts = [] := by
  unfold nodeB fitsB at h
  simp only [Bool.and_eq_true, decide_eq_true_eq] at h
  obtain ⟨⟨_, _, h1⟩, h2⟩ := h
  rw [if_neg (by omega), if_pos trivial] at h2
  simp only [Bool.and_eq_true, decide_eq_true_eq] at h2
  refine ⟨?_, h2.1.1, h2.1.2, List.length_eq_zero_iff.1 h2.2⟩
  simp [kidsK] at h1; exact h1
theorem node_more {k n : Int} {m : ByteArray} {nk : Nat} {ts : List T} (h : nodeB k n m nk ts = true) (h1 : k ≠ 1) (h2 : k ≠ 2) :
    (3 ≤ k ∧ k ≤ 10) ∧ (nk : Int) = kidsK k ∧ 1 ≤ nk ∧ nk ≤ 3 ∧ m = ByteArray.empty ∧ numOk n ∧ (k ≠ 6 → n = 0) ∧ (k = 10 → rightB ts = true) ∧ (k ≠ 10 → ts = []) := by
  unfold nodeB fitsB at h
  simp only [Bool.and_eq_true, decide_eq_true_eq] at h
  obtain ⟨⟨a1, a2, a3⟩, a4⟩ := h
  rw [if_neg h1, if_neg h2] at a4
  have hk : 1 ≤ nk ∧ nk ≤ 3 := by
    unfold kidsK at a3
    rw [if_neg (by omega)] at a3
    split at a3
    · omega
    split at a3
    · omega
    split at a3
    · omega
    · omega
  have h3 : 3 ≤ k ∧ k ≤ 10 := by omega
  unfold numOk
  split at a4
  · next e =>
    simp only [Bool.and_eq_true, decide_eq_true_eq] at a4
    exact ⟨h3, a3, hk.1, hk.2, ba_empty a4.1.2, by omega, fun h => absurd e h, fun h => by omega, fun _ => List.length_eq_zero_iff.1 a4.2⟩
  split at a4
  · next e =>
    simp only [Bool.and_eq_true, decide_eq_true_eq] at a4
    exact ⟨h3, a3, hk.1, hk.2, ba_empty a4.2, by omega, fun _ => a4.1.2, fun _ => a4.1.1, fun h => absurd e h⟩
  · next e =>
    simp only [Bool.and_eq_true, decide_eq_true_eq] at a4
    exact ⟨h3, a3, hk.1, hk.2, ba_empty a4.1.2, by omega, fun _ => a4.1.1, fun h => absurd h e, fun _ => List.length_eq_zero_iff.1 a4.2⟩

theorem word_of {k : Int} (h : 3 ≤ k ∧ k ≤ 10) : Letters (wordL k) ∧ (wordL k).length ≤ 8 ∧ wordL k ≠ [] ∧ opK (bytesOf (wordL k)) = k := by
  have : k = 3 ∨ k = 4 ∨ k = 5 ∨ k = 6 ∨ k = 7 ∨ k = 8 ∨ k = 9 ∨ k = 10 := by omega
  rcases this with rfl | rfl | rfl | rfl | rfl | rfl | rfl | rfl <;> exact ⟨by unfold Letters; decide, by decide, by decide, by decide⟩

theorem tier_read {t : Int × Int} (h1 : numOk t.1) (h2 : numOk t.2) {r : List UInt8} (hr : r = [] ∨ ∃ b u, r = b :: u ∧ stopB b = true) : tierS (32 :: (Lib.itoa t.1 ++ 58 :: (Lib.itoa t.2 ++ r))) = some (t, r) := by
  unfold tierS
  simp only [wantS, if_true, Option.bind_some]
  rw [numS_itoa h1 (.inr ⟨58, _, rfl, by decide⟩)]
  simp only [Option.bind_some, if_true]
  rw [numS_itoa h2 hr]
  rfl
theorem tiers_read : ∀ (ts : List (Int × Int)) (n : Nat) (r : List UInt8), ts.length < n → (∀ t ∈ ts, numOk t.1 ∧ numOk t.2) → tiersS n (wrT ts ++ 41 :: r) = some (ts, 41 :: r)
  | [], n + 1, r, _, _ => by simp [tiersS, wrT]
  | t :: ts, n + 1, r, hl, ht => by
    obtain ⟨h1, h2⟩ := ht t (List.mem_cons_self ..)
    have e : wrT (t :: ts) ++ 41 :: r = 32 :: (Lib.itoa t.1 ++ 58 :: (Lib.itoa t.2 ++ (wrT ts ++ 41 :: r))) := by simp [wrT]
    have hs : wrT ts ++ 41 :: r = [] ∨ ∃ b u, wrT ts ++ 41 :: r = b :: u ∧ stopB b = true := by
      cases ts with
      | nil => exact .inr ⟨41, r, rfl, by decide⟩
      | cons a b => exact .inr ⟨32, _, rfl, by decide⟩
    rw [e]
    simp only [tiersS, List.head?_cons, if_true]
    rw [tier_read h1 h2 hs]
    simp only [Option.bind_some]
    rw [tiers_read ts n r (by simpa using hl) (fun t' h' => ht t' (List.mem_cons_of_mem _ h'))]
    rfl
theorem kids_read {R : List UInt8 → Option (Ex × List UInt8)} : ∀ (ks : List Ex) (r : List UInt8), Tail r → (∀ e ∈ ks, ∀ t, Tail t → R (wr e ++ t) = some (e, t)) → kidS R ks.length (wrS ks ++ r) = some (ks, r)
  | [], r, _, _ => by simp [kidS, wrS]
  | e :: es, r, hr, hk => by
    have e1 : wrS (e :: es) ++ r = 32 :: (wr e ++ (wrS es ++ r)) := by simp [wrS]
    have ht : Tail (wrS es ++ r) := by
      cases es with
      | nil => simpa [wrS] using hr
      | cons a b => exact .inr ⟨32, _, rfl, .inl rfl⟩
    rw [e1]
    simp only [List.length_cons, kidS, wantS, if_true, Option.bind_some]
    rw [hk e (List.mem_cons_self ..) _ ht]
    simp only [Option.bind_some]
    rw [kids_read es r hr (fun e' h' => hk e' (List.mem_cons_of_mem _ h'))]
    rfl
theorem allL_mem : ∀ {l : List Ex}, allL l = true → ∀ e ∈ l, allB e = true
  | e :: es, h, x, hx => by
    rw [allL, Bool.and_eq_true] at h
    rcases List.mem_cons.1 hx with rfl | h'
    · exact h.1
    · exact allL_mem h.2 x h'
theorem depL_mem : ∀ {l : List Ex}, ∀ e ∈ l, dep e ≤ depL l
  | e :: es, x, hx => by
    rw [depL]
    rcases List.mem_cons.1 hx with rfl | h'
    · omega
    · have := depL_mem x h'; omega
theorem head_itoa (n : Int) (r : List UInt8) : (Lib.itoa n ++ r).head? ≠ some 40 := by
  cases h : Lib.itoa n with
  | nil => exact absurd h (itoa_ne n)
  | cons c t =>
    have hc := itoa_bytes n c (by rw [h]; exact List.mem_cons_self ..)
    simp only [List.cons_append, List.head?_cons, ne_eq, Option.some.injEq]
    intro e; subst e; rcases hc with h | h <;> exact absurd h (by decide)
theorem head_letters {l r : List UInt8} (h : Letters l) (hn : l ≠ []) : (l ++ r).head? ≠ some 40 := by
  cases l with
  | nil => exact absurd rfl hn
  | cons c t =>
    have hc := h c (List.mem_cons_self ..)
    simp only [List.cons_append, List.head?_cons, ne_eq, Option.some.injEq]
    intro e; subst e; exact absurd hc (by decide)

theorem expr_read : ∀ (d : Nat) (e : Ex) (r : List UInt8), allB e = true → dep e ≤ d → Tail r → exprS d (wr e ++ r) = some (e, r) := by
  intro d
  induction d with
  | zero => intro e r _ hd _; have := dep_eq e; omega
  | succ d ih =>
    intro e r ha hd hr
    obtain ⟨k, n, m, ks, ts⟩ := e
    rw [allB, Bool.and_eq_true] at ha
    obtain ⟨hn, hks⟩ := ha
    by_cases k1 : k = 1
    · subst k1
      obtain ⟨a1, a2, rfl, rfl⟩ := node_num hn
      obtain rfl := List.length_eq_zero_iff.1 a1
      obtain ⟨w1, w2⟩ := word_split (nostop_itoa n) hr.stop
      rw [wr, if_pos rfl]
      simp only [exprS]
      rw [if_neg (head_itoa n r), w1, w2]
      simp only [leafS, numL_itoa a2]
    by_cases k2 : k = 2
    · subst k2
      obtain ⟨a1, a2, rfl, rfl⟩ := node_name hn
      obtain rfl := List.length_eq_zero_iff.1 a1
      obtain ⟨l1, l2, l3⟩ := letters_of a2
      obtain ⟨w1, w2⟩ := word_split (nostop_letters l1) hr.stop
      rw [wr, if_neg (by omega), if_pos rfl]
      simp only [exprS]
      rw [if_neg (head_letters l1 l3), w1, w2]
      simp only [leafS, numL_name l1, bytes_self]
    · obtain ⟨h3, a1, a2, a3, rfl, a4, a5, a6, a7⟩ := node_more hn k1 k2
      obtain ⟨l1, l2, l3, l4⟩ := word_of h3
      rw [wr, if_neg k1, if_neg k2]
      have hd' : depL ks ≤ d := by rw [dep] at hd; omega
      have e1 : (40 :: (wordL k ++ (wrS ks ++ (wrO k n ts ++ [41])))) ++ r = 40 :: (wordL k ++ (wrS ks ++ (wrO k n ts ++ 41 :: r))) := by simp
      have hs : wrS ks ++ (wrO k n ts ++ 41 :: r) = [] ∨ ∃ b t, wrS ks ++ (wrO k n ts ++ 41 :: r) = b :: t ∧ stopB b = true := by
        cases ks with
        | nil => simp at a2
        | cons a b => exact .inr ⟨32, _, rfl, by decide⟩
      obtain ⟨w1, w2⟩ := word_split (nostop_letters l1) hs
      rw [e1]
      simp only [exprS, List.head?_cons, if_true]
      show brS (exprS d) (wordL k ++ (wrS ks ++ (wrO k n ts ++ 41 :: r))) = _
      unfold brS
      rw [w1, w2, l4, if_neg (by omega)]
      have hkn : (kidsK k).toNat = ks.length := by omega
      have ht : Tail (wrO k n ts ++ 41 :: r) := by
        unfold wrO
        split
        · exact .inr ⟨32, _, rfl, .inl rfl⟩
        · cases ts with
          | nil => exact .inr ⟨41, r, rfl, .inr rfl⟩
          | cons a b => exact .inr ⟨32, _, rfl, .inl rfl⟩
      rw [hkn, kids_read ks _ ht (fun e he t htt => ih e t (allL_mem hks e he) (by have := depL_mem e he; omega) htt)]
      simp only [Option.bind_some, ownS]
      by_cases k6 : k = 6
      · subst k6
        obtain rfl := a7 (by omega)
        have e2 : wrO 6 n [] ++ 41 :: r = 32 :: (Lib.itoa n ++ 41 :: r) := by simp [wrO, wrT]
        rw [e2, if_pos rfl]
        simp only [wantS, if_true, Option.bind_some]
        rw [numS_itoa a4 (.inr ⟨41, r, rfl, by decide⟩)]
        simp
      · obtain rfl := a5 k6
        rw [if_neg k6]
        have e2 : wrO k 0 ts ++ 41 :: r = wrT ts ++ 41 :: r := by simp [wrO, k6]
        rw [e2]
        by_cases k10 : k = 10
        · obtain ⟨t1, t2, t3⟩ := tier_ok (a6 k10)
          rw [if_pos k10, tiers_read ts 7 r (by omega) t3]
          simp [wantS]
        · obtain rfl := a7 k10
          rw [if_neg k10]
          simp [wantS, wrT]

/-! ### how much a text can make -/
theorem restOf_len (t : List UInt8) : (wordOf t).length + (restOf t).length = t.length := by
  have := congrArg List.length (word_rest t)
  simpa using this
theorem wantS_len {c : UInt8} {t r : List UInt8} (h : wantS c t = some r) : r.length + 1 = t.length := by
  cases t with
  | nil => cases h
  | cons b u =>
    simp only [wantS] at h
    split at h
    · simp only [Option.some.injEq] at h; subst h; rfl
    · cases h
theorem numS_len {t r : List UInt8} {n : Int} (h : numS t = some (n, r)) : r.length ≤ t.length := by
  unfold numS at h
  obtain ⟨m, hm, e⟩ := Option.map_eq_some_iff.1 h
  simp only [Prod.mk.injEq] at e
  rw [← e.2]
  have := restOf_len t
  omega
end Go.Proofs.YtnchgeiinkaefaaGreatDoor.Rule
end

section
/-
  How much a text can make, and how long a text can be: plain facts.
-/
namespace Go.Proofs.YtnchgeiinkaefaaGreatDoor.Rule
set_option linter.unusedVariables false
open Tiers
open Kinds hiding hide unhide below_trans ext_toList

theorem tierS_len {t r : List UInt8} {p : Int × Int} (h : tierS t = some (p, r)) : r.length + 1 ≤ t.length := by
  unfold tierS at h
  obtain ⟨t1, h1, h⟩ := Option.bind_eq_some_iff.1 h
  obtain ⟨⟨n, t2⟩, h2, h⟩ := Option.bind_eq_some_iff.1 h
  obtain ⟨t3, h3, h⟩ := Option.bind_eq_some_iff.1 h
  obtain ⟨⟨n4, t4⟩, h4, h⟩ := Option.map_eq_some_iff.1 h
  simp only [Prod.mk.injEq] at h
  rw [← h.2]
  have a1 := wantS_len h1
  have a2 := numS_len h2
  have a3 := wantS_len h3
  have a4 := numS_len h4
  simp only at *
  omega
theorem tiersS_wt : ∀ (n : Nat) (t r : List UInt8) (l : List (Int × Int)), tiersS n t = some (l, r) → l.length + 4 * r.length ≤ 4 * t.length ∧ l.length ≤ n
  | 0, t, r, l, h => by
    simp only [tiersS, Option.some.injEq, Prod.mk.injEq] at h
    obtain ⟨rfl, rfl⟩ := h
    simp
  | n + 1, t, r, l, h => by
    rw [tiersS] at h
    split at h
    · obtain ⟨⟨p, t1⟩, h1, h⟩ := Option.bind_eq_some_iff.1 h
      obtain ⟨⟨l2, r2⟩, h2, h⟩ := Option.map_eq_some_iff.1 h
      simp only [Prod.mk.injEq] at h
      obtain ⟨rfl, rfl⟩ := h
      have a1 := tierS_len h1
      have a2 := tiersS_wt n _ _ _ h2
      simp only [List.length_cons] at *
      omega
    · simp only [Option.some.injEq, Prod.mk.injEq] at h
      obtain ⟨rfl, rfl⟩ := h
      simp
theorem kidS_wt {R : List UInt8 → Option (Ex × List UInt8)} (hR : ∀ t e r, R t = some (e, r) → wt e + 4 * r.length ≤ 4 * t.length) : ∀ (m : Nat) (t r : List UInt8) (ks : List Ex), kidS R m t = some (ks, r) → wtL ks + 4 * r.length ≤ 4 * t.length
  | 0, t, r, ks, h => by
    simp only [kidS, Option.some.injEq, Prod.mk.injEq] at h
    obtain ⟨rfl, rfl⟩ := h
    simp [wtL]
  | m + 1, t, r, ks, h => by
    rw [kidS] at h
    obtain ⟨t1, h1, h⟩ := Option.bind_eq_some_iff.1 h
    obtain ⟨⟨e, t2⟩, h2, h⟩ := Option.bind_eq_some_iff.1 h
    obtain ⟨⟨ks2, r2⟩, h3, h⟩ := Option.map_eq_some_iff.1 h
    simp only [Prod.mk.injEq] at h
    obtain ⟨rfl, rfl⟩ := h
    have a1 := wantS_len h1
    have a2 := hR _ _ _ h2
    have a3 := kidS_wt hR m _ _ _ h3
    rw [wtL]
    simp only at *
    omega
theorem ownS_wt {k : Int} {ks : List Ex} {t r : List UInt8} {e : Ex} (h : ownS k ks t = some (e, r)) : wt e + 4 * r.length ≤ wtL ks + 4 * t.length := by
  have z : ByteArray.empty.size = 0 := rfl
  unfold ownS at h
  split at h
  · obtain ⟨t1, h1, h⟩ := Option.bind_eq_some_iff.1 h
    obtain ⟨⟨n, t2⟩, h2, h⟩ := Option.bind_eq_some_iff.1 h
    obtain ⟨r2, h3, h⟩ := Option.map_eq_some_iff.1 h
    simp only [Prod.mk.injEq] at h
    obtain ⟨rfl, rfl⟩ := h
    have a1 := wantS_len h1
    have a2 := numS_len h2
    have a3 := wantS_len h3
    rw [wt, z]
    simp only [List.length_nil] at *
    omega
  split at h
  · obtain ⟨⟨l, t2⟩, h2, h⟩ := Option.bind_eq_some_iff.1 h
    obtain ⟨r2, h3, h⟩ := Option.map_eq_some_iff.1 h
    simp only [Prod.mk.injEq] at h
    obtain ⟨rfl, rfl⟩ := h
    have a2 := tiersS_wt _ _ _ _ h2
    have a3 := wantS_len h3
    rw [wt, z]
    simp only at *
    omega
  · obtain ⟨r2, h3, h⟩ := Option.map_eq_some_iff.1 h
    simp only [Prod.mk.injEq] at h
    obtain ⟨rfl, rfl⟩ := h
    have a3 := wantS_len h3
    rw [wt, z]
    simp only [List.length_nil] at *
    omega
theorem exprS_wt : ∀ (d : Nat) (t : List UInt8) (e : Ex) (r : List UInt8), exprS d t = some (e, r) → wt e + 4 * r.length ≤ 4 * t.length
  | 0, t, e, r, h => by cases h
  | d + 1, t, e, r, h => by
    have z : ByteArray.empty.size = 0 := rfl
    rw [exprS] at h
    split at h
    · next hh =>
      unfold brS at h
      split at h
      · cases h
      · obtain ⟨⟨ks, t2⟩, h1, h⟩ := Option.bind_eq_some_iff.1 h
        have a1 := kidS_wt (exprS_wt d) _ _ _ _ h1
        have a2 := ownS_wt h
        have a3 := restOf_len t.tail
        have a4 : t.tail.length + 1 = t.length := by cases t with | nil => cases hh | cons a b => rfl
        simp only at *
        omega
    · simp only [Option.some.injEq, Prod.mk.injEq] at h
      obtain ⟨rfl, rfl⟩ := h
      have a3 := restOf_len t
      unfold leafS
      split
      · rw [wt, z]; simp [wtL]; omega
      · rw [wt]
        have : (bytesOf (wordOf t)).size = (wordOf t).length := by simp [bytesOf, ByteArray.size]
        rw [this]; simp [wtL]; omega

/-! ### how long a text is -/
theorem wrT_len : ∀ {ts : List (Int × Int)}, (∀ t ∈ ts, numOk t.1 ∧ numOk t.2) → (wrT ts).length ≤ 24 * ts.length
  | [], _ => by simp [wrT]
  | t :: ts, h => by
    have h1 := itoa_short (h t (List.mem_cons_self ..)).1
    have h2 := itoa_short (h t (List.mem_cons_self ..)).2
    have h3 := wrT_len (ts := ts) (fun x hx => h x (List.mem_cons_of_mem _ hx))
    simp [wrT]
    omega
theorem wordL_len {k : Int} (h : 3 ≤ k ∧ k ≤ 10) : (wordL k).length ≤ 8 := (word_of h).2.1
mutual
theorem wr_len : ∀ e : Ex, allB e = true → (wr e).length ≤ 200 * cnt e
  | .mk k n m ks ts, h => by
    rw [allB, Bool.and_eq_true] at h
    obtain ⟨hn, hks⟩ := h
    rw [wr, cnt]
    by_cases k1 : k = 1
    · subst k1
      rw [if_pos rfl]
      have := itoa_short (node_num hn).2.1
      omega
    rw [if_neg k1]
    by_cases k2 : k = 2
    · subst k2
      rw [if_pos rfl]
      have := (letters_of (node_name hn).2.1).2.1
      omega
    rw [if_neg k2]
    obtain ⟨h3, a1, a2, a3, rfl, a4, a5, a6, a7⟩ := node_more hn k1 k2
    have b1 := wordL_len h3
    have b2 := wrS_len ks hks
    have b3 : (wrO k n ts).length ≤ 156 := by
      unfold wrO
      have c1 := itoa_short a4
      have c2 : (wrT ts).length ≤ 144 := by
        by_cases k10 : k = 10
        · obtain ⟨t1, t2, t3⟩ := tier_ok (a6 k10)
          have := wrT_len t3
          omega
        · rw [a7 k10]; simp [wrT]
      split <;> simp <;> omega
    simp
    omega
theorem wrS_len : ∀ l : List Ex, allL l = true → (wrS l).length ≤ 200 * cntL l + l.length
  | [], _ => by simp [wrS]
  | e :: es, h => by
    rw [allL, Bool.and_eq_true] at h
    have h1 := wr_len e h.1
    have h2 := wrS_len es h.2
    rw [wrS, cntL]
    simp
    omega
end
end Go.Proofs.YtnchgeiinkaefaaGreatDoor.Rule
end

section
/-
  Texts of expressions, read as the program reads them: what may come of a text, as a relation; what is written is read back.
-/
namespace Go.Proofs.YtnchgeiinkaefaaGreatDoor.Rule
set_option linter.unusedVariables false
open Tiers
open Kinds hiding hide unhide below_trans ext_toList

def Low (t : List UInt8) : Prop := ∀ b ∈ t, b.toNat < 128
/-- what ends a word -/
def endB (b : UInt8) : Bool := b == 32 || b == 41
/-- a text parted: the word that it begins with, where all its bytes are below 128 -/
def CutW (t w r : List UInt8) : Prop := t = w ++ r ∧ (Low t → (∀ b ∈ w, endB b = false) ∧ (r = [] ∨ ∃ b u, r = b :: u ∧ endB b = true))
def LeafI (w : List UInt8) (e : Ex) : Prop := (∃ n, Lib.atoiAll w = .ok n ∧ e = .mk 1 n ByteArray.empty [] []) ∨ ((∀ n, Lib.atoiAll w ≠ .ok n) ∧ e = .mk 2 0 (bytesOf w) [] [])
def valI (w : List UInt8) (n : Int) : Prop := ∀ k, Lib.atoiAll w = .ok k → n = k
def trimSp (t : List UInt8) : List UInt8 := if t.head? = some 32 then t.tail else t
/-- kids, each behind a space or none -/
def KidsOf (R : List UInt8 → Ex → List UInt8 → Prop) : List UInt8 → List Ex → List UInt8 → Prop
  | t, [], r => r = t
  | t, e :: es, r => ∃ r1, R (trimSp t) e r1 ∧ KidsOf R r1 es r
theorem KidsOf.snoc {R : List UInt8 → Ex → List UInt8 → Prop} : ∀ {t : List UInt8} {ks : List Ex} {r r' : List UInt8} {e : Ex}, KidsOf R t ks r → R (trimSp r) e r' → KidsOf R t (ks ++ [e]) r'
  | t, [], r, r', e, h, h' => by
    obtain rfl : r = t := h
    exact ⟨r', h', rfl⟩
  | t, k :: ks, r, r', e, h, h' => by
    obtain ⟨r1, h1, h2⟩ := h
    exact ⟨r1, h1, h2.snoc h'⟩
/-- a word behind the kids -/
def OwnI (w : List UInt8) (n : Int) (ts : List (Int × Int)) (n' : Int) (ts' : List (Int × Int)) : Prop :=
  ((Lib.cut w [58]).2.2 = false ∧ valI (Lib.cut w [58]).1 n' ∧ ts' = ts) ∨ ((Lib.cut w [58]).2.2 = true ∧ n' = n ∧ ∃ a b, valI (Lib.cut w [58]).1 a ∧ valI (Lib.cut w [58]).2.1 b ∧ ts' = ts ++ [(a, b)])
def OwnsOf : List (List UInt8) → Int → List (Int × Int) → Int → List (Int × Int) → Prop
  | [], n, ts, n', ts' => n' = n ∧ ts' = ts
  | w :: ws, n, ts, n', ts' => ∃ n1 ts1, OwnI w n ts n1 ts1 ∧ OwnsOf ws n1 ts1 n' ts'
theorem OwnsOf.snoc : ∀ {ws : List (List UInt8)} {w : List UInt8} {n n1 n2 : Int} {ts ts1 ts2 : List (Int × Int)}, OwnsOf ws n ts n1 ts1 → OwnI w n1 ts1 n2 ts2 → OwnsOf (ws ++ [w]) n ts n2 ts2
  | [], w, n, n1, n2, ts, ts1, ts2, h, h' => by
    obtain ⟨rfl, rfl⟩ := h
    exact ⟨n2, ts2, h', rfl, rfl⟩
  | v :: ws, w, n, n1, n2, ts, ts1, ts2, h, h' => by
    obtain ⟨n3, ts3, h1, h2⟩ := h
    exact ⟨n3, ts3, h1, h2.snoc h'⟩
/-- what the program may read of a text -/
def ReadsI : Nat → List UInt8 → Ex → List UInt8 → Prop
  | 0, _, _, _ => False
  | n + 1, t, e, r => (t.head? ≠ some 40 ∧ ∃ w, CutW t w r ∧ LeafI w e) ∨ ∃ t', t = 40 :: t' ∧ ∃ w r1, CutW t' w r1 ∧
      ((opK (bytesOf w) = 0 ∧ e = .mk 0 0 ByteArray.empty [] [] ∧ r = r1) ∨ (opK (bytesOf w) ≠ 0 ∧ ∃ ks r2 ws num ts, (ks.length : Int) = kidsK (opK (bytesOf w)) ∧ KidsOf (ReadsI n) r1 ks r2 ∧ r = (Lib.cut r2 [41]).2.1 ∧ (Low (Lib.cut r2 [41]).1 → ws = Lib.fields (Lib.cut r2 [41]).1) ∧ ws.length ≤ (Lib.cut r2 [41]).1.length ∧ OwnsOf ws 0 [] num ts ∧ e = .mk (opK (bytesOf w)) num ByteArray.empty ks ts))

/-! ### what is written is read -/
theorem takeEnd {w r : List UInt8} (hw : ∀ b ∈ w, endB b = false) (hr : r = [] ∨ ∃ b u, r = b :: u ∧ endB b = true) : (w ++ r).takeWhile (fun b => !endB b) = w ∧ (w ++ r).dropWhile (fun b => !endB b) = r := by
  have h1 : ∀ x ∈ w, (fun b => !endB b) x = true := fun x hx => by simp [hw x hx]
  rcases hr with rfl | ⟨b, t, rfl, hb⟩
  · have e1 := List.takeWhile_append_of_pos (l₂ := []) h1
    have e2 := List.dropWhile_append_of_pos (l₂ := []) h1
    rw [List.append_nil] at e1 e2 ⊢
    rw [e1, e2]; simp
  · rw [List.takeWhile_append_of_pos h1, List.dropWhile_append_of_pos h1]
    simp [hb]
theorem CutW.one {w0 r0 w r : List UInt8} (h : CutW (w0 ++ r0) w r) (hl : Low (w0 ++ r0)) (hw : ∀ b ∈ w0, endB b = false) (hr : r0 = [] ∨ ∃ b u, r0 = b :: u ∧ endB b = true) : w = w0 ∧ r = r0 := by
  obtain ⟨h1, h2⟩ := h
  obtain ⟨h3, h4⟩ := h2 hl
  have a := takeEnd hw hr
  have b := takeEnd h3 h4
  rw [← h1] at b
  exact ⟨b.1.symm.trans a.1, b.2.symm.trans a.2⟩
theorem endB_of {b : UInt8} (h : stopB b = false) : endB b = false := by
  unfold stopB at h
  unfold endB
  simp only [Bool.or_eq_false_iff] at h ⊢
  exact ⟨h.1.1.1, h.1.2⟩
theorem Tail.fin {r : List UInt8} (h : Tail r) : r = [] ∨ ∃ b u, r = b :: u ∧ endB b = true := by
  rcases h with h | ⟨b, t, rfl, hb⟩
  · exact .inl h
  · exact .inr ⟨b, t, rfl, by rcases hb with rfl | rfl <;> decide⟩

theorem low_itoa (n : Int) : Low (Lib.itoa n) := fun b hb => by have := itoa_bytes n b hb; omega
theorem low_letters {l : List UInt8} (h : Letters l) : Low l := fun b hb => by have := h b hb; omega
theorem low_app {a b : List UInt8} (h : Low a) (h' : Low b) : Low (a ++ b) := fun x hx => by
  rcases List.mem_append.1 hx with h1 | h1
  · exact h x h1
  · exact h' x h1
theorem low_cons {c : UInt8} {a : List UInt8} (hc : c.toNat < 128) (h : Low a) : Low (c :: a) := fun x hx => by
  rcases List.mem_cons.1 hx with rfl | h1
  · exact hc
  · exact h x h1
theorem low_nil : Low [] := fun x hx => by cases hx
theorem low_wrT : ∀ ts : List (Int × Int), Low (wrT ts)
  | [] => low_nil
  | t :: ts => low_cons (by decide) (low_app (low_itoa _) (low_cons (by decide) (low_app (low_itoa _) (low_wrT ts))))
theorem low_wrO (k n : Int) (ts : List (Int × Int)) : Low (wrO k n ts) := by
  unfold wrO
  refine low_app ?_ (low_wrT ts)
  split
  · exact low_cons (by decide) (low_itoa _)
  · exact low_nil
mutual
theorem low_wr : ∀ e : Ex, allB e = true → Low (wr e)
  | .mk k n m ks ts, h => by
    rw [allB, Bool.and_eq_true] at h
    rw [wr]
    by_cases k1 : k = 1
    · rw [if_pos k1]; exact low_itoa n
    rw [if_neg k1]
    by_cases k2 : k = 2
    · rw [if_pos k2]; subst k2; exact low_letters (letters_of (node_name h.1).2.1).1
    rw [if_neg k2]
    have h3 := (node_more h.1 k1 k2).1
    exact low_cons (by decide) (low_app (low_letters (word_of h3).1) (low_app (low_wrS ks h.2) (low_app (low_wrO k n ts) (low_cons (by decide) low_nil))))
theorem low_wrS : ∀ l : List Ex, allL l = true → Low (wrS l)
  | [], _ => low_nil
  | e :: es, h => by
    rw [allL, Bool.and_eq_true] at h
    rw [wrS]
    exact low_cons (by decide) (low_app (low_wr e h.1) (low_wrS es h.2))
end
end Go.Proofs.YtnchgeiinkaefaaGreatDoor.Rule
end

section
/-
  The program's reader reads what is written.
-/
namespace Go.Proofs.YtnchgeiinkaefaaGreatDoor.Rule
set_option linter.unusedVariables false
open Tiers
open Kinds hiding hide unhide below_trans ext_toList

theorem index_at (c : UInt8) (r : List UInt8) : ∀ (l : List UInt8), (∀ b ∈ l, b ≠ c) → Lib.index (l ++ c :: r) [c] = l.length
  | [], _ => by simp [Lib.index]
  | b :: l, h => by
    have hb : b ≠ c := h b (List.mem_cons_self ..)
    have ih := index_at c r l (fun x hx => h x (List.mem_cons_of_mem _ hx))
    simp only [List.cons_append, Lib.index]
    have e : [c].isPrefixOf (b :: (l ++ c :: r)) = false := by simp [List.isPrefixOf]; exact fun e => hb e.symm
    rw [e, ih]
    have e2 : (((l.length : Int)) == -1) = false := beq_eq_false_iff_ne.2 (by omega)
    rw [e2]; simp
theorem cut_at (c : UInt8) (l r : List UInt8) (h : ∀ b ∈ l, b ≠ c) : Lib.cut (l ++ c :: r) [c] = (l, r, true) := by
  unfold Lib.cut
  rw [index_at c r l h, if_pos (by omega)]
  simp
theorem index_none (c : UInt8) : ∀ (l : List UInt8), (∀ b ∈ l, b ≠ c) → Lib.index l [c] = -1
  | [], _ => by simp [Lib.index]
  | b :: l, h => by
    have hb : b ≠ c := h b (List.mem_cons_self ..)
    have ih := index_none c l (fun x hx => h x (List.mem_cons_of_mem _ hx))
    simp only [Lib.index]
    have e : [c].isPrefixOf (b :: l) = false := by simp [List.isPrefixOf]; exact fun e => hb e.symm
    rw [e, ih]; simp
theorem cut_none (c : UInt8) (l : List UInt8) (h : ∀ b ∈ l, b ≠ c) : Lib.cut l [c] = (l, [], false) := by
  unfold Lib.cut
  rw [index_none c l h, if_neg (by omega)]

/-! ### the words behind the kids -/
theorem fieldsGo_word : ∀ (w cur r : List UInt8), (∀ b ∈ w, Lib.isSp b = false) → Lib.fieldsGo cur (w ++ r) = Lib.fieldsGo (cur ++ w) r
  | [], cur, r, _ => by simp
  | b :: w, cur, r, h => by
    rw [List.cons_append, Lib.fieldsGo, if_neg (by simp [h b (List.mem_cons_self ..)]), fieldsGo_word w (cur ++ [b]) r (fun x hx => h x (List.mem_cons_of_mem _ hx))]
    simp
theorem fieldsGo_next {w r : List UInt8} (hw : w ≠ []) : Lib.fieldsGo w (32 :: r) = w :: Lib.fieldsGo [] r := by
  rw [Lib.fieldsGo, if_pos (by decide), if_neg (by cases w with | nil => exact absurd rfl hw | cons a b => simp)]
/-- words, each behind a space -/
def spaced : List (List UInt8) → List UInt8
  | [] => []
  | w :: ws => 32 :: (w ++ spaced ws)
def Word (w : List UInt8) : Prop := w ≠ [] ∧ ∀ b ∈ w, Lib.isSp b = false
theorem fields_from : ∀ (ws : List (List UInt8)) (w : List UInt8), Word w → (∀ x ∈ ws, Word x) → Lib.fieldsGo w (spaced ws) = w :: ws
  | [], w, hw, _ => by
    rw [spaced, Lib.fieldsGo, if_neg (by cases w with | nil => exact absurd rfl hw.1 | cons a b => simp)]
  | v :: ws, w, hw, h => by
    rw [spaced, fieldsGo_next hw.1, fieldsGo_word v [] _ (h v (List.mem_cons_self ..)).2, List.nil_append, fields_from ws v (h v (List.mem_cons_self ..)) (fun x hx => h x (List.mem_cons_of_mem _ hx))]
theorem fields_spaced : ∀ (ws : List (List UInt8)), (∀ x ∈ ws, Word x) → Lib.fields (spaced ws) = ws
  | [], _ => by simp [spaced, Lib.fields, Lib.fieldsGo]
  | v :: ws, h => by
    have e : Lib.fieldsGo [] (32 :: (v ++ spaced ws)) = Lib.fieldsGo [] (v ++ spaced ws) := by
      rw [Lib.fieldsGo, if_pos (by decide)]; simp
    rw [Lib.fields, spaced, e, fieldsGo_word v [] _ (h v (List.mem_cons_self ..)).2, List.nil_append, fields_from ws v (h v (List.mem_cons_self ..)) (fun x hx => h x (List.mem_cons_of_mem _ hx))]
def tierW2 (t : Int × Int) : List UInt8 := Lib.itoa t.1 ++ 58 :: Lib.itoa t.2
theorem spaced_wrT : ∀ ts : List (Int × Int), spaced (ts.map tierW2) = wrT ts
  | [] => rfl
  | t :: ts => by rw [List.map_cons, spaced, wrT, spaced_wrT ts]; simp [tierW2]
theorem isSp_no {b : UInt8} (h : 33 ≤ b.toNat) : Lib.isSp b = false := by
  unfold Lib.isSp
  have e : ∀ c : UInt8, c.toNat < 33 → (b == c) = false := by
    intro c hc
    rw [beq_eq_false_iff_ne]; intro e; subst e; omega
  rw [e 9 (by decide), e 10 (by decide), e 11 (by decide), e 12 (by decide), e 13 (by decide), e 32 (by decide)]; rfl
theorem word_itoa (n : Int) : Word (Lib.itoa n) := ⟨itoa_ne n, fun b hb => isSp_no (by have := itoa_bytes n b hb; omega)⟩
theorem word_tier (t : Int × Int) : Word (tierW2 t) := by
  refine ⟨by unfold tierW2; simp, fun b hb => ?_⟩
  unfold tierW2 at hb
  rcases List.mem_append.1 hb with h | h
  · exact (word_itoa t.1).2 b h
  · rcases List.mem_cons.1 h with rfl | h
    · decide
    · exact (word_itoa t.2).2 b h
theorem itoa_no {n : Int} {c : UInt8} (hc : c.toNat ≠ 45 ∧ (c.toNat < 48 ∨ 57 < c.toNat)) : ∀ b ∈ Lib.itoa n, b ≠ c := by
  intro b hb e
  subst e
  have := itoa_bytes n b hb
  omega
theorem cut_tier (t : Int × Int) : Lib.cut (tierW2 t) [58] = (Lib.itoa t.1, Lib.itoa t.2, true) := cut_at 58 _ _ (itoa_no (by decide))
theorem owns_tiers : ∀ (ts0 : List (Int × Int)) (n n' : Int) (ts ts' : List (Int × Int)), (∀ t ∈ ts0, numOk t.1 ∧ numOk t.2) → OwnsOf (ts0.map tierW2) n ts n' ts' → n' = n ∧ ts' = ts ++ ts0
  | [], n, n', ts, ts', _, h => by obtain ⟨rfl, rfl⟩ := h; simp
  | t :: ts0, n, n', ts, ts', hn, h => by
    obtain ⟨n1, ts1, h1, h2⟩ := h
    obtain ⟨rfl, rfl⟩ := owns_tiers ts0 n1 n' ts1 ts' (fun x hx => hn x (List.mem_cons_of_mem _ hx)) h2
    unfold OwnI at h1
    rw [cut_tier] at h1
    rcases h1 with ⟨h, _⟩ | ⟨_, rfl, a, b, ha, hb, rfl⟩
    · cases h
    · obtain ⟨k1, k2⟩ := hn t (List.mem_cons_self ..)
      rw [ha t.1 (atoi_itoa k1), hb t.2 (atoi_itoa k2)]
      simp
theorem owns_num {m n n' : Int} {ts ts' : List (Int × Int)} (hm : numOk m) (h : OwnsOf [Lib.itoa m] n ts n' ts') : n' = m ∧ ts' = ts := by
  obtain ⟨n1, ts1, h1, rfl, rfl⟩ := h
  unfold OwnI at h1
  rw [cut_none 58 _ (itoa_no (by decide))] at h1
  rcases h1 with ⟨_, hv, rfl⟩ | ⟨h, _⟩
  · exact ⟨hv m (atoi_itoa hm), rfl⟩
  · cases h

/-! ### kids -/
theorem kids_readI {R : List UInt8 → Ex → List UInt8 → Prop} : ∀ (ks0 ks : List Ex) (r0 r : List UInt8), ks.length = ks0.length → Tail r0 → Low r0 → allL ks0 = true → (∀ e ∈ ks0, ∀ t e' r', Tail t → Low t → R (wr e ++ t) e' r' → e' = e ∧ r' = t) → KidsOf R (wrS ks0 ++ r0) ks r → ks = ks0 ∧ r = r0
  | [], [], r0, r, _, _, _, _, _, h => by obtain rfl : r = wrS [] ++ r0 := h; simp
  | e :: es, k :: ks, r0, r, hl, ht, hlo, ha, hR, h => by
    obtain ⟨r1, h1, h2⟩ := h
    rw [allL, Bool.and_eq_true] at ha
    have e1 : wrS (e :: es) ++ r0 = 32 :: (wr e ++ (wrS es ++ r0)) := by simp [wrS]
    have hT : Tail (wrS es ++ r0) := by
      cases es with
      | nil => simpa [wrS] using ht
      | cons a b => exact .inr ⟨32, _, rfl, .inl rfl⟩
    have e2 : trimSp (32 :: (wr e ++ (wrS es ++ r0))) = wr e ++ (wrS es ++ r0) := by unfold trimSp; simp
    rw [e1, e2] at h1
    obtain ⟨rfl, rfl⟩ := hR e (List.mem_cons_self ..) _ _ _ hT (low_app (low_wrS es ha.2) hlo) h1
    obtain ⟨rfl, rfl⟩ := kids_readI es ks r0 r (by simpa using hl) ht hlo ha.2 (fun e' h' => hR e' (List.mem_cons_of_mem _ h')) h2
    exact ⟨rfl, rfl⟩
theorem noBr_T : ∀ ts : List (Int × Int), ∀ b ∈ wrT ts, b ≠ 41
  | [], b, hb => by cases hb
  | t :: ts, b, hb => by
    rw [wrT] at hb
    rcases List.mem_cons.1 hb with rfl | hb
    · decide
    rcases List.mem_append.1 hb with hb | hb
    · exact itoa_no (by decide) b hb
    rcases List.mem_cons.1 hb with rfl | hb
    · decide
    rcases List.mem_append.1 hb with hb | hb
    · exact itoa_no (by decide) b hb
    · exact noBr_T ts b hb
theorem noBr_O (k n : Int) (ts : List (Int × Int)) : ∀ b ∈ wrO k n ts, b ≠ 41 := by
  intro b hb
  unfold wrO at hb
  rcases List.mem_append.1 hb with hb | hb
  · split at hb
    · rcases List.mem_cons.1 hb with rfl | hb
      · decide
      · exact itoa_no (by decide) b hb
    · cases hb
  · exact noBr_T ts b hb

theorem reads_wr : ∀ (n : Nat) (e0 : Ex) (t : List UInt8) (e : Ex) (r : List UInt8), allB e0 = true → Tail t → Low t → ReadsI n (wr e0 ++ t) e r → e = e0 ∧ r = t := by
  intro n
  induction n with
  | zero => intro e0 t e r _ _ _ h; cases h
  | succ n ih =>
    intro e0 t e r ha ht hlo h
    have hlow := low_app (low_wr e0 ha) hlo
    obtain ⟨k, m, mt, ks, ts⟩ := e0
    have ha' := ha
    rw [allB, Bool.and_eq_true] at ha
    obtain ⟨hn, hks⟩ := ha
    by_cases k1 : k = 1
    · subst k1
      obtain ⟨a1, a2, rfl, rfl⟩ := node_num hn
      obtain rfl := List.length_eq_zero_iff.1 a1
      rw [wr, if_pos rfl] at h hlow
      rcases h with ⟨_, w, hc, hl⟩ | ⟨t', e1, _⟩
      · obtain ⟨rfl, rfl⟩ := hc.one hlow (fun b hb => endB_of (nostop_itoa m b hb)) ht.fin
        rcases hl with ⟨v, hv, rfl⟩ | ⟨hv, _⟩
        · rw [atoi_itoa a2] at hv
          simp only [Lib.NumEnd.ok.injEq] at hv
          rw [hv]; exact ⟨rfl, rfl⟩
        · exact absurd (atoi_itoa a2) (hv m)
      · exact absurd (by rw [e1]; rfl) (head_itoa m t)
    by_cases k2 : k = 2
    · subst k2
      obtain ⟨a1, a2, rfl, rfl⟩ := node_name hn
      obtain rfl := List.length_eq_zero_iff.1 a1
      obtain ⟨l1, l2, l3⟩ := letters_of a2
      rw [wr, if_neg (by omega), if_pos rfl] at h hlow
      rcases h with ⟨_, w, hc, hl⟩ | ⟨t', e1, _⟩
      · obtain ⟨rfl, rfl⟩ := hc.one hlow (fun b hb => endB_of (nostop_letters l1 b hb)) ht.fin
        rcases hl with ⟨v, hv, _⟩ | ⟨_, rfl⟩
        · exact absurd hv (atoi_name l1 l2 v)
        · rw [bytes_self]; exact ⟨rfl, rfl⟩
      · exact absurd (by rw [e1]; rfl) (head_letters (r := t) l1 l3)
    · obtain ⟨h3, a1, a2, a3, rfl, a4, a5, a6, a7⟩ := node_more hn k1 k2
      obtain ⟨l1, l2, l3, l4⟩ := word_of h3
      rw [wr, if_neg k1, if_neg k2] at h hlow
      have e1 : (40 :: (wordL k ++ (wrS ks ++ (wrO k m ts ++ [41])))) ++ t = 40 :: (wordL k ++ (wrS ks ++ (wrO k m ts ++ 41 :: t))) := by simp
      rw [e1] at h hlow
      rcases h with ⟨hh, _⟩ | ⟨t', e2, w, r1, hc, hrest⟩
      · exact absurd rfl hh
      · obtain rfl := (List.cons.inj e2).2
        have hlow2 : Low (wordL k ++ (wrS ks ++ (wrO k m ts ++ 41 :: t))) := fun b hb => hlow b (List.mem_cons_of_mem _ hb)
        have hr1 : wrS ks ++ (wrO k m ts ++ 41 :: t) = [] ∨ ∃ b u, wrS ks ++ (wrO k m ts ++ 41 :: t) = b :: u ∧ endB b = true := by
          cases ks with
          | nil => simp at a2
          | cons a b => exact .inr ⟨32, _, rfl, by decide⟩
        obtain ⟨rfl, rfl⟩ := hc.one hlow2 (fun b hb => endB_of (nostop_letters l1 b hb)) hr1
        rw [l4] at hrest
        rcases hrest with ⟨h0, _⟩ | ⟨_, ks', r2, ws, num, ts', hkl, hkids, hr, hws, _, howns, rfl⟩
        · omega
        have hT : Tail (wrO k m ts ++ 41 :: t) := by
          unfold wrO
          split
          · exact .inr ⟨32, _, rfl, .inl rfl⟩
          · cases ts with
            | nil => exact .inr ⟨41, t, rfl, .inr rfl⟩
            | cons a b => exact .inr ⟨32, _, rfl, .inl rfl⟩
        obtain ⟨rfl, rfl⟩ := kids_readI ks ks' _ r2 (by omega) hT (low_app (low_wrO k m ts) (low_cons (by decide) hlo)) hks (fun e he t' e' r' h1 h2 h3 => ih e t' e' r' (allL_mem hks e he) h1 h2 h3) hkids
        have hcut := cut_at 41 (wrO k m ts) t (noBr_O k m ts)
        rw [hcut] at hr hws
        have hws2 := hws (low_wrO k m ts)
        simp only at hr
        subst hr
        by_cases k6 : k = 6
        · subst k6
          obtain rfl := a7 (by omega)
          have ew : wrO 6 m [] = spaced [Lib.itoa m] := by simp [wrO, wrT, spaced]
          rw [ew, fields_spaced _ (fun x hx => by obtain rfl := List.mem_singleton.1 hx; exact word_itoa m)] at hws2
          rw [hws2] at howns
          obtain ⟨rfl, rfl⟩ := owns_num a4 howns
          exact ⟨rfl, rfl⟩
        · obtain rfl := a5 k6
          have ew : wrO k 0 ts = spaced (ts.map tierW2) := by rw [spaced_wrT]; simp [wrO, k6]
          rw [ew, fields_spaced _ (fun x hx => by obtain ⟨y, _, rfl⟩ := List.mem_map.1 hx; exact word_tier y)] at hws2
          rw [hws2] at howns
          have htn : ∀ t ∈ ts, numOk t.1 ∧ numOk t.2 := by
            by_cases k10 : k = 10
            · exact (tier_ok (a6 k10)).2.2
            · rw [a7 k10]; intro t ht; cases ht
          obtain ⟨rfl, rfl⟩ := owns_tiers ts 0 num [] ts' htn howns
          exact ⟨rfl, rfl⟩

/-! ### how much a text can make -/
theorem owns_len : ∀ {ws : List (List UInt8)} {n n' : Int} {ts ts' : List (Int × Int)}, OwnsOf ws n ts n' ts' → ts'.length ≤ ts.length + ws.length
  | [], n, n', ts, ts', h => by obtain ⟨_, rfl⟩ := h; simp
  | w :: ws, n, n', ts, ts', h => by
    obtain ⟨n1, ts1, h1, h2⟩ := h
    have := owns_len h2
    rcases h1 with ⟨_, _, rfl⟩ | ⟨_, _, a, b, _, _, rfl⟩
    · simp; omega
    · simp at this ⊢; omega
theorem trim_len (t : List UInt8) : (trimSp t).length ≤ t.length := by
  unfold trimSp
  split
  · simp
  · omega
theorem cut_len2 (c : UInt8) (t : List UInt8) : (Lib.cut t [c]).1.length + (Lib.cut t [c]).2.1.length ≤ t.length := by
  unfold Lib.cut
  split
  · simp; omega
  · simp
theorem kids_len {R : List UInt8 → Ex → List UInt8 → Prop} (hR : ∀ t e r, R t e r → wt e + 4 * r.length ≤ 4 * t.length) : ∀ {t : List UInt8} {ks : List Ex} {r : List UInt8}, KidsOf R t ks r → wtL ks + 4 * r.length ≤ 4 * t.length + ks.length
  | t, [], r, h => by obtain rfl : r = t := h; simp [wtL]
  | t, e :: es, r, h => by
    obtain ⟨r1, h1, h2⟩ := h
    have a1 := hR _ _ _ h1
    have a2 := kids_len hR h2
    have a3 := trim_len t
    rw [wtL]
    simp only [List.length_cons]
    omega
theorem opK_word {w : List UInt8} (h : opK (bytesOf w) ≠ 0) : 2 ≤ w.length := by
  refine Nat.le_of_not_lt fun hl => h ?_
  have hs : (bytesOf w).size = w.length := by simp [bytesOf, ByteArray.size]
  refine opK_none (fun j h1 h2 e => ?_)
  have : (wordK j).size ≤ 1 := by rw [e, hs]; omega
  have hj : j = 3 ∨ j = 4 ∨ j = 5 ∨ j = 6 ∨ j = 7 ∨ j = 8 ∨ j = 9 ∨ j = 10 := by omega
  rcases hj with rfl | rfl | rfl | rfl | rfl | rfl | rfl | rfl <;> exact absurd this (by decide)
theorem reads_wt : ∀ (n : Nat) (t : List UInt8) (e : Ex) (r : List UInt8), ReadsI n t e r → wt e + 4 * r.length ≤ 4 * t.length := by
  intro n
  have z : ByteArray.empty.size = 0 := rfl
  induction n with
  | zero => intro t e r h; cases h
  | succ n ih =>
    intro t e r h
    rcases h with ⟨_, w, hc, hl⟩ | ⟨t', rfl, w, r1, hc, hrest⟩
    · have hlen := congrArg List.length hc.1
      simp only [List.length_append] at hlen
      rcases hl with ⟨v, _, rfl⟩ | ⟨_, rfl⟩
      · rw [wt, z]; simp [wtL]; omega
      · have hs : (bytesOf w).size = w.length := by simp [bytesOf, ByteArray.size]
        rw [wt, hs]; simp [wtL]; omega
    · have hlen := congrArg List.length hc.1
      simp only [List.length_append] at hlen
      rcases hrest with ⟨_, rfl, rfl⟩ | ⟨h0, ks, r2, ws, num, ts, hk, hkids, rfl, _, hw, ho, rfl⟩
      · rw [wt, z]; simp [wtL]; omega
      · have a1 := kids_len (ih ·) hkids
        have a2 := owns_len ho
        have a3 := cut_len2 41 r2
        have a4 := opK_word h0
        have a5 : ks.length ≤ 3 := by
          have hx : kidsK (opK (bytesOf w)) ≤ 3 := by
            unfold kidsK
            repeat' split
            all_goals omega
          omega
        rw [wt, z]
        simp only [List.length_nil, List.length_cons] at *
        omega
end Go.Proofs.YtnchgeiinkaefaaGreatDoor.Rule
end

section
/-
  strings.IndexRune of the two signs that end a word, at a rune beyond ASCII.
-/
namespace Go.Proofs.YtnchgeiinkaefaaGreatDoor.Rule
set_option linter.unusedVariables false
open Go.RowKit
open Tiers (T T0 TR hide unhide below_trans)

/-- the two signs that end a word -/
abbrev ends2 : ByteArray := ⟨#[32, 41]⟩

set_option maxRecDepth 20000 in
set_option maxHeartbeats 1000000 in
theorem runeHigh (r : Int) (w : World) (h : 128 ≤ r) (h2 : r ≤ 2147483647) : Calls Tryz.prog 160 #[.string ends2, .int .i32 r] w fun e w' => ∃ x : Int, e = .returned (.int .i64 x) ∧ -1 ≤ x ∧ x ≤ 1 ∧ Below w.heap.size w w' := by
  have x1 : ¬ r < 128 := by omega
  have x0 : 0 ≤ r := by omega
  by_cases he : r = 65533
  · subst he
    have hn0 := fun ty => run_next_ascii (P := Tryz.prog) w ends2 0 ty (by decide) (by decide)
    have hn1 := fun ty => run_next_ascii (P := Tryz.prog) w ends2 1 ty (by decide) (by decide)
    have hn2 := fun ty => run_next_end (P := Tryz.prog) w ends2 2 ty (by decide)
    go_enter Tryz.func160, Tryz.ntmps160
    go_wp2_with (fail)
    refine wp_loop_rounds 3 ?_
    rw [rounds_succ]
    go_wp2_with (fail)
    rw [rounds_succ]
    go_wp2_with (fail)
    rw [rounds_succ]
    go_wp2_with (fail)
    go_ret
    exact ⟨-1, rfl, by omega, by omega, (Below.refl _ _).alloc (Nat.le_refl _) _⟩
  · have hb : (r == 65533) = false := by simpa using he
    cases hv : Lib.validRune r
    · go_enter Tryz.func160, Tryz.ntmps160
      go_wp2_with (first | (go_at_call 187; refine (Tryz.utf8_ValidRune r _).mono ?_; rintro e w1 ⟨rfl, hw⟩; rw [hw, hv]) | fail)
      go_ret
      exact ⟨-1, rfl, by omega, by omega, by first | exact Below.refl _ _ | (rw [hw]; exact Below.refl _ _)⟩
    · obtain ⟨z1, z2, z3⟩ := encode_facts r (by have := of_decide_eq_true hv; simp [Utf8.valid]; omega) h
      obtain ⟨rs, hrs⟩ : ∃ rs, Utf8.encode r = rs := ⟨_, rfl⟩
      rw [hrs] at z1 z2 z3
      by_cases hz : rs.size = 2
      · have hlt : rs.size - 1 < rs.size := by omega
        have z4 := z3 hlt
        have e1 : 1 < rs.size := by omega
        have e2 : rs[rs.size - 1]'hlt = rs[1]'e1 := by congr 1; omega
        rw [e2] at z4
        have q : ((41 : Int) != ((rs[1]'e1).toNat : Int)) = true := bne_iff_ne.2 (by omega)
        have q' : (((ends2[1]'(by decide)).toNat : Int) != ((rs[1]'e1).toNat : Int)) = true := q
        have ws : wrap64 ((rs.size : Int) - 1) = 1 := by unfold wrap64; omega
        clear z3 e2 hlt
        go_enter Tryz.func160, Tryz.ntmps160
        go_wp2_with (first | (go_at_call 187; refine (Tryz.utf8_ValidRune r _).mono ?_; rintro e w1 ⟨rfl, hw⟩; rw [hw, hv]) | fail)
        go_step3
        go_wp2_with (fail)
        refine wp_loop_rounds 1 ?_
        rw [rounds_succ]
        go_wp2_with (fail)
        go_step3
        go_wp2_with (fail)
        go_region
        go_wp2_with (fail)
        first | (go_region_with (go_at_call 186; refine (Tryz.strings_IndexByte _ _ _).mono ?_; rintro e w2 ⟨rfl, hw2⟩)) | fail
        all_goals
          subst hw2
          have hix : ∀ c : UInt8, Lib.indexByte [] c = -1 := fun c => rfl
          go_wp2_with (fail)
          rw [Exit.noGoto_ret]
          go_wp2_with (fail)
          rw [Exit.noGoto_ret]
          go_wp2_with (fail)
          go_ret
          exact ⟨-1, rfl, by omega, by omega, ⟨rfl, rfl, rfl, Nat.le_refl _, fun _ _ => rfl⟩⟩
      · have ws : wrap64 ((rs.size : Int) - 1) = (rs.size : Int) - 1 := by unfold wrap64; omega
        have hn : ¬ ((rs.size : Int) - 1 < 2) := by omega
        go_enter Tryz.func160, Tryz.ntmps160
        go_wp2_with (first | (go_at_call 187; refine (Tryz.utf8_ValidRune r _).mono ?_; rintro e w1 ⟨rfl, hw⟩; rw [hw, hv]) | fail)
        go_step3
        go_wp2_with (fail)
        refine wp_loop_rounds 1 ?_
        rw [rounds_succ]
        go_wp2_with (fail)
        try rw [Exit.noGoto_ret]
        go_ret
        exact ⟨-1, rfl, by omega, by omega, Below.refl _ _⟩

theorem iter_le (w : World) (s : ByteArray) (p : Nat) : Below w.heap.size w (w.iter s p) := (Below.refl _ _).alloc (Nat.le_refl _) _
/-- the iterator, behind a call that kept what there was -/
theorem decode_step (s : ByteArray) (p : Nat) : 1 ≤ (Utf8.decode s p).2 := by
  simp only [Utf8.decode]
  repeat' split
  all_goals simp_all

theorem below_iterAt {w W : World} {s : ByteArray} {q : Nat} (h : Below w.heap.size w W) : Below w.heap.size w (W.iterAt w.heap.size s q) := by
  refine ⟨h.os, h.tape, h.output, ?_, fun j hj => ?_⟩
  · have := h.size
    simpa [World.iterAt] using this
  · rw [← h.block j hj]
    simp only [World.iterAt]
    rw [Array.getElem?_setIfInBounds_ne (by omega)]
theorem idx_two (c : UInt8) : -1 ≤ Lib.indexByte [32, 41] c ∧ Lib.indexByte [32, 41] c ≤ 1 := by
  simp only [Lib.indexByte]
  repeat' split
  all_goals omega
/-- strings.IndexRune of the two signs -/
theorem runeAny (r : Int) (w : World) (h : 0 ≤ r) (h2 : r ≤ 2147483647) : Calls Tryz.prog 160 #[.string ends2, .int .i32 r] w fun e w' => ∃ x : Int, e = .returned (.int .i64 x) ∧ -1 ≤ x ∧ x ≤ 1 ∧ Below w.heap.size w w' := by
  by_cases hr : r < 128
  · refine (Tryz.strings_IndexRune_ascii ends2 r w h hr).mono ?_
    rintro e w' ⟨rfl, rfl⟩
    have := idx_two r.toNat.toUInt8
    exact ⟨_, rfl, this.1, this.2, Below.refl _ _⟩
  · exact runeHigh r w (by omega) h2

set_option maxRecDepth 20000 in
set_option maxHeartbeats 1000000 in
/-- strings.IndexAny of a short text: a place, or none -/
theorem ixShort (s : ByteArray) (w : World) (h8 : s.size ≤ 8) : Calls Tryz.prog 134 #[.string s, .string ends2] w fun e w' => ∃ x : Int, e = .returned (.int .i64 x) ∧ -1 ≤ x ∧ (x < s.size) ∧ Below w.heap.size w w' := by
  have h8z : decide ((8 : Int) < (s.size : Int)) = false := decide_eq_false (by omega)
  have hemp : ends2.toList.isEmpty = false := by rw [Lib.toList_data]; rfl
  go_enter Tryz.func134, Tryz.ntmps134
  go_wp2_with (first | (go_at_call 161; refine (Tryz.strings_shouldUseASCIISet _ _).mono ?_; rintro e w' ⟨rfl, hw⟩; rw [hw, h8z]) | fail)
  go_loopg [9, 10] s.size (fun g _ _ wx => ∃ p : Nat, s.size ≤ p + g ∧ Hid (wx.heap[w.heap.size]? = some (.stringIter s p)) ∧ Hid (Below w.heap.size w wx))
  case atStart => exact ⟨0, by omega, hide (World.iter_heap _ _ _), hide (iter_le _ _ _)⟩
  case round =>
    obtain ⟨p, hpg, hit, hb⟩ := hrel
    by_cases hp : p < s.size
    · have hnx := fun ty => Lib.run_next_any_at (P := Tryz.prog) wr w.heap.size s p ty (unhide hit) hp
      have hd := decode_step s p
      have hle := decode_le s p
      have HI2 := hide (Lib.iterAt_heap wr w.heap.size s p (p + (Utf8.decode s p).2) (unhide hit))
      have HB2 : Hid (Below w.heap.size w (wr.iterAt w.heap.size s (p + (Utf8.decode s p).2))) := hide (below_iterAt (unhide hb))
      have HC : Hid (∀ W : World, Calls Tryz.prog 160 #[.string ends2, .int .i32 (((Utf8.decode s p).1 : Nat) : Int)] W fun e w' => ∃ x : Int, e = .returned (.int .i64 x) ∧ -1 ≤ x ∧ x ≤ 1 ∧ Below W.heap.size W w') := hide (fun W => runeAny _ W (by omega) (by omega))
      generalize (Utf8.decode s p).2 = dz at *
      generalize (Utf8.decode s p).1 = dr at *
      have hlt2 : w.heap.size < (wr.iterAt w.heap.size s (p + dz)).heap.size := by
        refine Nat.lt_of_not_le fun hn => ?_
        have h0 := unhide HI2
        have : (wr.iterAt w.heap.size s (p + dz)).heap[w.heap.size]? = none := by simp only [Array.getElem?_eq_none_iff]; exact hn
        rw [this] at h0; cases h0
      obtain ⟨W2, hW2⟩ : ∃ W2, wr.iterAt w.heap.size s (p + dz) = W2 := ⟨_, rfl⟩
      rw [hW2] at hnx HI2 HB2 hlt2
      clear hW2
      cases gk with
      | zero => omega
      | succ g =>
        go_wp2_with (fail)
        refine (unhide HC _).mono ?_
        rintro e w3 ⟨x, rfl, x1, x2, hb3⟩
        have HB3 := hide (below_trans (unhide HB2) hb3)
        have HI3 := hide ((hb3.block w.heap.size hlt2).trans (unhide HI2))
        clear hb3
        by_cases hx : 0 ≤ x
        · go_wp2_with (fail)
          go_ret
          exact ⟨p, rfl, by omega, by omega, unhide HB3⟩
        · go_wp2_with (fail)
          go_roundg g
          case measure => omega
          case rel => exact ⟨p + dz, by omega, HI3, HB3⟩
    · have hnx := fun ty => Lib.run_next_end_at (P := Tryz.prog) wr w.heap.size s p ty (unhide hit) hp
      go_wp2_with (fail)
      go_ret
      exact ⟨-1, rfl, by omega, by omega, unhide hb⟩
end Go.Proofs.YtnchgeiinkaefaaGreatDoor.Rule
end

section
/-
  impl.cutWord, impl.readLeaf.
-/
namespace Go.Proofs.YtnchgeiinkaefaaGreatDoor.Rule
set_option linter.unusedVariables false
open Go.RowKit
open Tiers (T T0 TR hide unhide below_trans)
open Kinds hiding hide unhide below_trans ext_toList

theorem ends_has (b : UInt8) : ([32, 41] : List UInt8).contains b = endB b := by
  simp [endB]
  rfl
theorem indexAny_spec : ∀ l : List UInt8, (Lib.indexAny l [32, 41] = -1 → ∀ b ∈ l, endB b = false) ∧ (∀ n : Nat, Lib.indexAny l [32, 41] = n → n < l.length ∧ (∀ b ∈ l.take n, endB b = false) ∧ ∃ b u, l.drop n = b :: u ∧ endB b = true)
  | [] => ⟨fun _ b hb => by simp at hb, fun n hn => by rw [Lib.indexAny] at hn; omega⟩
  | a :: l => by
    obtain ⟨h1, h2⟩ := indexAny_spec l
    have hge := Lib.indexAny_ge [32, 41] l
    rw [Lib.indexAny, ends_has]
    cases ha : endB a
    · simp only [Bool.false_eq_true, if_false]
      by_cases hm : Lib.indexAny l [32, 41] = -1
      · simp only [hm]
        refine ⟨fun _ b hb => ?_, fun n hn => by simp at hn⟩
        rcases List.mem_cons.1 hb with rfl | hb
        · exact ha
        · exact h1 hm b hb
      · have hm' : (Lib.indexAny l [32, 41] == -1) = false := by simpa using hm
        simp only [hm', Bool.false_eq_true, if_false]
        refine ⟨fun h => by omega, fun n hn => ?_⟩
        cases n with
        | zero => simp at hn; omega
        | succ n =>
          obtain ⟨k1, k2, k3⟩ := h2 n (by omega)
          refine ⟨by simp; omega, fun b hb => ?_, by simpa using k3⟩
          rw [List.take_succ_cons] at hb
          rcases List.mem_cons.1 hb with rfl | hb
          · exact ha
          · exact k2 b hb
    · simp only [if_true]
      refine ⟨fun h => by omega, fun n hn => ?_⟩
      obtain rfl : n = 0 := by omega
      exact ⟨by simp, by simp, a, l, rfl, ha⟩

theorem zero173 : ∀ w, (zeroValue 249).run Tryz.prog w = .ok (.agg (Array.replicate 256 (.bool false))) w := fun w => by kernel_rfl

/-- strings.IndexAny of the two signs that end a word -/
theorem ixAny (s : ByteArray) (w : World) (hs : s.size ≤ 1000000) : Calls Tryz.prog 134 #[.string s, .string ends2] w fun e w' => ∃ x : Int, e = .returned (.int .i64 x) ∧ (-1 ≤ x ∧ x < s.size) ∧ (Low s.data.toList → x = Lib.indexAny s.data.toList [32, 41]) ∧ Below w.heap.size w w' := by
  have hsp := indexAny_spec s.data.toList
  have hge := Lib.indexAny_ge [32, 41] s.data.toList
  have hsz : s.data.toList.length = s.size := Array.length_toList
  have hbd : -1 ≤ Lib.indexAny s.data.toList [32, 41] ∧ Lib.indexAny s.data.toList [32, 41] < s.size := by
    refine ⟨hge, ?_⟩
    by_cases h0 : 0 ≤ Lib.indexAny s.data.toList [32, 41]
    · obtain ⟨n, hn⟩ := Int.eq_ofNat_of_zero_le h0
      have := (hsp.2 n hn).1
      omega
    · omega
  have hac : ∀ (j : Nat) b, ends2.data.toList[j]? = some b → b.toNat < 128 := fun j b hb => by
    have := List.mem_of_getElem? hb
    simp at this
    rcases this with rfl | rfl <;> decide
  have he : ends2.data.toList = [32, 41] := rfl
  by_cases h8 : s.size ≤ 8
  · by_cases hl : Low s.data.toList
    · have hC := Tryz.strings_IndexAny zero173 s ends2 w (by omega) (by decide) (fun j b hb => hl b (List.mem_of_getElem? hb)) hac
      rw [he] at hC
      refine hC.mono ?_
      rintro e w' ⟨rfl, hb⟩
      exact ⟨_, rfl, hbd, fun _ => rfl, hb⟩
    · refine (ixShort s w h8).mono ?_
      rintro e w' ⟨x, rfl, x1, x2, hb⟩
      exact ⟨x, rfl, ⟨x1, x2⟩, fun h => absurd h hl, hb⟩
  · have hC := Tryz.strings_IndexAny_long zero173 s ends2 w (by decide) (by omega) (by omega) (by decide) hac
    rw [he] at hC
    refine hC.mono ?_
    rintro e w' ⟨rfl, rfl⟩
    exact ⟨_, rfl, hbd, fun _ => rfl, below_trans (below_alloc _ _) (below_alloc _ _)⟩

theorem below_drew1 {n : Nat} {w W : World} (h : Below n w W) : Below n w W.drew := ⟨h.os, h.tape, h.output, h.size, h.block⟩
theorem extract_take (s : ByteArray) (n : Nat) : s.extract 0 n = bytesOf (s.data.toList.take n) := by
  apply ByteArray.ext
  apply Array.ext'
  simp [bytesOf, ByteArray.data_extract]
theorem extract_drop (s : ByteArray) (n : Nat) : s.extract n s.size = bytesOf (s.data.toList.drop n) := by
  apply ByteArray.ext
  apply Array.ext'
  have : s.data.toList.length = s.size := Array.length_toList
  simp only [bytesOf, ByteArray.data_extract, Array.toList_extract]
  rw [List.extract_eq_take_drop]
  exact List.take_of_length_le (by simp)

set_option maxHeartbeats 1000000 in
/-- impl.cutWord -/
theorem cutI (s : ByteArray) (w : World) (hs : s.size ≤ 1000000) : Calls Tryz.prog 117 #[.string s] w fun e w' => ∃ wd r, e = .returned (.tuple #[.string (bytesOf wd), .string (bytesOf r)]) ∧ CutW s.data.toList wd r ∧ Below w.heap.size w w' := by
  have hsz : s.data.toList.length = s.size := Array.length_toList
  go_enter Tryz.func117, Tryz.ntmps117
  go_wp2_with (fail)
  refine (ixAny s w hs).mono ?_
  rintro e w1 ⟨x, rfl, ⟨x1, x2⟩, hlow, hb⟩
  have HL := hide hlow
  have HB := hide hb
  clear hlow hb
  by_cases hx : x < 0
  · obtain rfl : x = -1 := by omega
    have b0 : (0 : Int) ≤ (s.size : Int) := by omega
    have b1 : (s.size : Int) ≤ (s.size : Int) := by omega
    go_wp2_with (fail)
    go_region
    go_wp2_with (fail)
    go_ret2
    refine ⟨s.data.toList, [], ?_, ⟨by simp, fun h => ⟨(indexAny_spec _).1 (unhide HL h).symm, .inl rfl⟩⟩, ?_⟩
    · rw [bytes_self]; rfl
    · exact below_drew1 (unhide HB)
  · obtain ⟨n, rfl⟩ := Int.eq_ofNat_of_zero_le (show 0 ≤ x by omega)
    have b0 : (0 : Int) ≤ (n : Int) := by omega
    have b1 : (n : Int) ≤ (s.size : Int) := by omega
    go_wp2_with (fail)
    go_region
    go_wp2_with (fail)
    go_ret2
    refine ⟨s.data.toList.take n, s.data.toList.drop n, ?_, ⟨by simp, fun h => ?_⟩, ?_⟩
    · rw [← extract_take, ← extract_drop]; rfl
    · obtain ⟨k1, k2, k3⟩ := (indexAny_spec s.data.toList).2 n (unhide HL h).symm
      exact ⟨k2, .inr k3⟩
    · exact below_drew1 (unhide HB)
end Go.Proofs.YtnchgeiinkaefaaGreatDoor.Rule
end
