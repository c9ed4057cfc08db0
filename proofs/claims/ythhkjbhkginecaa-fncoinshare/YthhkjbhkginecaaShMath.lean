/-
  The plain law of dealing: in the sorted row the place of each share is the number of those ahead of it.
-/
import Derived.Test.YthhkjbhkginecaaShareS2
import Derived.Test.YthhkjbhkginecaaCmp
namespace Go.Proofs.Ythhkjbhkginecaa.Share
set_option linter.unusedVariables false
open Go.RowKit Ints Go.Sort

theorem count_at {α : Type} (p : α → Bool) (l : List α) (i : Nat) (hi : i ≤ l.length) (h1 : ∀ j x, l[j]? = some x → j < i → p x = true) (h2 : ∀ j x, l[j]? = some x → i ≤ j → p x = false) : l.countP p = i := by
  rw [← List.take_append_drop i l, List.countP_append]
  have e1 : (l.take i).countP p = i := by
    have : (l.take i).length = i := by simp; omega
    conv => rhs; rw [← this]
    rw [List.countP_eq_length]
    intro x hx
    obtain ⟨j, hj⟩ := List.mem_iff_getElem?.1 hx
    rw [List.getElem?_take] at hj
    by_cases hji : j < i
    · rw [if_pos hji] at hj; exact h1 j x hj hji
    · rw [if_neg hji] at hj; cases hj
  have e2 : (l.drop i).countP p = 0 := by
    rw [List.countP_eq_zero]
    intro x hx
    obtain ⟨j, hj⟩ := List.mem_iff_getElem?.1 hx
    rw [List.getElem?_drop] at hj
    rw [h2 _ x hj (by omega)]; simp
  rw [e1, e2]; omega

/-- the shares by place -/
def shL (P R : List Int) (n : Nat) : List Sh := (List.range n).map fun (p : Nat) => ((p : Int), P.getD p 0, R.getD p 0)

theorem ahead_tri (x y : Sh) (h : x.1 ≠ y.1) (h2 : ahead y x = false) : ahead x y = true := by
  unfold ahead at *
  by_cases h1 : y.2.2 < x.2.2
  · simp [h1]
  · by_cases h3 : x.2.2 = y.2.2
    · simp [h3] at h2 ⊢; omega
    · simp at h2; omega

theorem ahead_irr (x : Sh) : ahead x x = false := by simp [ahead]

theorem ahead_asym (x y : Sh) (h : ahead x y = true) : ahead y x = false := by
  unfold ahead at *
  simp only [Bool.or_eq_true, Bool.and_eq_true, decide_eq_true_eq, Bool.or_eq_false_iff, Bool.and_eq_false_iff, decide_eq_false_iff_not] at *
  omega

/-- the place in the sorted row -/
theorem rank (P R : List Int) (n : Nat) (l : List Sh) (hp : l.Perm (shL P R n)) (hs : ∀ (i j : Nat) (x y : Sh), i < j → l[i]? = some x → l[j]? = some y → ahead y x = false) (i : Nat) (x : Sh) (hx : l[i]? = some x) :
    ∃ p : Nat, p < n ∧ x = ((p : Int), P.getD p 0, R.getD p 0) ∧ cnt R p n = i := by
  have hm : x ∈ shL P R n := hp.mem_iff.1 (List.mem_of_getElem? hx)
  unfold shL at hm
  obtain ⟨p, hpn, rfl⟩ := List.mem_map.1 hm
  have hpn' := List.mem_range.1 hpn
  refine ⟨p, hpn', rfl, ?_⟩
  have hnd : (l.map (·.1)).Nodup := by
    have h1 : ((shL P R n).map (·.1)).Nodup := by
      unfold shL
      rw [List.map_map]
      rw [List.nodup_iff_pairwise_ne, List.pairwise_map]
      exact List.Pairwise.imp (fun {a b} (h : a < b) => by simp; omega) List.pairwise_lt_range
    exact (hp.map _).nodup_iff.2 h1
  have hne : ∀ j y, l[j]? = some y → j ≠ i → y.1 ≠ (p : Int) := by
    intro j y hy hji he
    have e1 : (l.map (·.1))[j]? = some (p : Int) := by rw [List.getElem?_map, hy]; simp [he]
    have e2 : (l.map (·.1))[i]? = some (p : Int) := by rw [List.getElem?_map, hx]; rfl
    have hl : j < (l.map (·.1)).length := by
      rcases Nat.lt_or_ge j (l.map (·.1)).length with h | h
      · exact h
      · rw [List.getElem?_eq_none h] at e1; cases e1
    exact hji ((List.getElem?_inj hl hnd).1 (e1.trans e2.symm))
  have hc : l.countP (fun y => ahead y ((p : Int), P.getD p 0, R.getD p 0)) = i := by
    apply count_at
    · rcases Nat.lt_or_ge i l.length with h | h
      · omega
      · rw [List.getElem?_eq_none h] at hx; cases hx
    · intro j y hy hji
      exact ahead_tri _ _ (hne j y hy (by omega)) (hs j i y _ hji hy hx)
    · intro j y hy hij
      by_cases e : j = i
      · subst e
        rw [hx] at hy; cases hy
        exact ahead_irr _
      · exact hs i j _ _ (by omega) hx hy
  rw [hp.countP_eq] at hc
  rw [← hc]
  unfold cnt shL
  rw [List.countP_map]
  apply List.countP_congr
  intro q hq
  simp [moreB, ahead, Function.comp]

/-- the parts as the loop lays them -/
def layV (l : List Sh) (L : Int) (n : Nat) : Nat → List Int
  | 0 => List.replicate n 0
  | k + 1 => match l[k]? with
    | some x => (layV l L n k).set x.1.toNat (x.2.1 + if (k : Int) < L then 1 else 0)
    | none => layV l L n k
theorem lay_len (l : List Sh) (L : Int) (n : Nat) : ∀ k, (layV l L n k).length = n
  | 0 => by simp [layV]
  | k + 1 => by
    unfold layV
    split
    · rw [List.length_set]; exact lay_len l L n k
    · exact lay_len l L n k
theorem lay_step (l : List Sh) (L : Int) (n k : Nat) (x : Sh) (h : l[k]? = some x) : layV l L n (k + 1) = (layV l L n k).set x.1.toNat (x.2.1 + if (k : Int) < L then 1 else 0) := by
  rw [layV, h]

theorem lay_all (P R : List Int) (n : Nat) (l : List Sh) (L : Int) (F : Nat → Int) (hF : ∀ i, F i = P.getD i 0 + if (cnt R i n : Int) < L then 1 else 0) (hp : l.Perm (shL P R n)) (hs : ∀ (i j : Nat) (x y : Sh), i < j → l[i]? = some x → l[j]? = some y → ahead y x = false) :
    layV l L n n = (List.range n).map F := by
  have hlen : l.length = n := by rw [hp.length_eq]; simp [shL]
  have key : ∀ k, k ≤ n → ∀ i x, i < k → l[i]? = some x → (layV l L n k).getD x.1.toNat 0 = x.2.1 + if (i : Int) < L then 1 else 0 := by
    intro k
    induction k with
    | zero => intro _ i x hi; omega
    | succ k ih =>
      intro hk i x hi hx
      obtain ⟨y, hy⟩ : ∃ y, l[k]? = some y := ⟨l[k]'(by omega), List.getElem?_eq_getElem (by omega)⟩
      rw [lay_step l L n k y hy]
      obtain ⟨p, hpn, rfl, hpc⟩ := rank P R n l hp hs i x hx
      obtain ⟨q, hqn, rfl, hqc⟩ := rank P R n l hp hs k y hy
      simp only [Int.toNat_natCast]
      by_cases e : i = k
      · subst e
        rw [hx] at hy
        have hpq : p = q := by
          have h9 : (p : Int) = q := by simpa using congrArg (fun z => z.map (·.1)) hy
          omega
        subst hpq
        rw [List.getD_eq_getElem?_getD, List.getElem?_set_self (by rw [lay_len]; exact hpn)]; rfl
      · have hpq : q ≠ p := fun e2 => by subst e2; omega
        have := ih (by omega) i _ (by omega) hx
        simp only [Int.toNat_natCast] at this
        rw [List.getD_eq_getElem?_getD, List.getElem?_set_ne hpq, ← List.getD_eq_getElem?_getD, this]
  apply getD_eq (by rw [lay_len]; simp)
  intro p hp2
  rw [lay_len] at hp2
  have hm : ((p : Int), P.getD p 0, R.getD p 0) ∈ l := hp.mem_iff.2 (List.mem_map.2 ⟨p, List.mem_range.2 hp2, rfl⟩)
  obtain ⟨i, hi⟩ := List.mem_iff_getElem?.1 hm
  have hil : i < n := by
    rcases Nat.lt_or_ge i l.length with h | h
    · omega
    · rw [List.getElem?_eq_none h] at hi; cases hi
  have := key n (Nat.le_refl _) i _ hil hi
  simp only [Int.toNat_natCast] at this
  rw [this]
  obtain ⟨q, hqn, hq, hqc⟩ := rank P R n l hp hs i _ hi
  have hpq : p = q := by
    have h9 : (p : Int) = q := by have := congrArg (·.1) hq; simpa using this
    omega
  subst hpq
  simp [List.getD, hp2]
  rw [hF, hqc]
  simp [List.getD]
end Go.Proofs.Ythhkjbhkginecaa.Share
