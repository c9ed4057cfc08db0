/-
  By steps more never costs less, and one unit more costs the price of a step; no program in it.
-/
import Derived.Test.YtdpefmjlmpjjbaaStepS
namespace Go.Proofs.Ytdpefmjlmpjjbaa.Tiers
set_option linter.unusedVariables false
open Coin

/-- what q units cost -/
def cost : List T → Int → Int
  | [], q => 0
  | t :: ts, q => if q ≤ 0 then 0 else nOf t.1 q * t.2 + cost ts (q - nOf t.1 q)

theorem stepF_cost : ∀ (l : List T) (q out x : Int), stepF l q out = some x → x = out + cost l q
  | [], q, out, x, h => by simp only [stepF, Option.some.injEq] at h; simp [cost, h]
  | t :: ts, q, out, x, h => by
    unfold stepF at h
    unfold cost
    by_cases h0 : q ≤ 0
    · rw [if_pos h0] at h ⊢
      simp only [Option.some.injEq] at h
      omega
    · rw [if_neg h0] at h ⊢
      split at h
      · have := stepF_cost ts _ _ _ h
        omega
      · cases h
theorem cost_end (l : List T) {q : Int} (h : q ≤ 0) : cost l q = 0 := by cases l <;> simp [cost, h]
/-- prices and sizes are not below nought -/
def Fair (l : List T) : Prop := ∀ t ∈ l, 0 ≤ t.1 ∧ 0 ≤ t.2
theorem Fair.tail {t : T} {ts : List T} (h : Fair (t :: ts)) : Fair ts := fun u hu => h u (List.mem_cons_of_mem _ hu)
theorem cost_pos : ∀ (l : List T) (q : Int), Fair l → 0 ≤ cost l q
  | [], q, _ => by simp [cost]
  | t :: ts, q, h => by
    unfold cost
    split
    · omega
    · have h1 := cost_pos ts (q - nOf t.1 q) h.tail
      have h2 := nOf_bd (x := t.1) (q := q) (by omega)
      have h3 := Int.mul_nonneg (show 0 ≤ nOf t.1 q by omega) (h t (List.mem_cons_self ..)).2
      omega
theorem cost_mono : ∀ (l : List T) (q q' : Int), Fair l → q ≤ q' → cost l q ≤ cost l q'
  | [], q, q', _, _ => by simp [cost]
  | t :: ts, q, q', h, hq => by
    by_cases h0 : q ≤ 0
    · rw [cost_end _ h0]; exact cost_pos _ _ h
    · unfold cost
      rw [if_neg h0, if_neg (by omega)]
      obtain ⟨f1, f2⟩ := h t (List.mem_cons_self ..)
      by_cases hx : 0 < t.1 ∧ t.1 < q
      · rw [nOf_small hx.1 hx.2, nOf_small hx.1 (by omega)]
        have := cost_mono ts (q - t.1) (q' - t.1) h.tail (by omega)
        omega
      · rw [nOf_all hx]
        have e : cost ts (q - q) = 0 := cost_end _ (by omega)
        rw [e]
        have hp := cost_pos ts (q' - nOf t.1 q') h.tail
        have hn : q ≤ nOf t.1 q' := by
          by_cases hx' : 0 < t.1 ∧ t.1 < q'
          · rw [nOf_small hx'.1 hx'.2]; omega
          · rw [nOf_all hx']; omega
        have := Int.mul_le_mul_of_nonneg_right hn f2
        omega
/-- a step without an end is among them -/
def Open : List T → Prop
  | [] => False
  | t :: ts => t.1 = 0 ∨ Open ts
theorem cost_one : ∀ (l : List T) (q : Int), Fair l → Open l → 0 ≤ q → ∃ t ∈ l, t.2 = cost l (q + 1) - cost l q
  | [], q, _, h, _ => h.elim
  | t :: ts, q, h, ho, hq => by
    obtain ⟨f1, f2⟩ := h t (List.mem_cons_self ..)
    by_cases h0 : q = 0
    · subst h0
      refine ⟨t, List.mem_cons_self .., ?_⟩
      have e1 : nOf t.1 (0 + 1) = 1 := nOf_all (by omega)
      have e2 : cost (t :: ts) (0 + 1) = t.2 := by
        unfold cost
        rw [if_neg (by omega), e1, cost_end ts (by omega)]; omega
      have e3 : cost (t :: ts) 0 = 0 := cost_end _ (by omega)
      rw [e2, e3]; omega
    · have g1 : cost (t :: ts) (q + 1) = nOf t.1 (q + 1) * t.2 + cost ts (q + 1 - nOf t.1 (q + 1)) := by
        rw [cost, if_neg (by omega)]
      have g2 : cost (t :: ts) q = nOf t.1 q * t.2 + cost ts (q - nOf t.1 q) := by
        rw [cost, if_neg (by omega)]
      rw [g1, g2]
      by_cases hx : 0 < t.1 ∧ t.1 < q + 1
      · have ho' : Open ts := ho.resolve_left (by omega)
        by_cases hx' : t.1 < q
        · rw [nOf_small hx.1 hx.2, nOf_small hx.1 hx']
          obtain ⟨u, hu, e⟩ := cost_one ts (q - t.1) h.tail ho' (by omega)
          refine ⟨u, List.mem_cons_of_mem _ hu, ?_⟩
          rw [e, show q + 1 - t.1 = q - t.1 + 1 by omega]; omega
        · rw [nOf_small hx.1 hx.2, nOf_all (fun h => hx' h.2)]
          have e1 : t.1 = q := by omega
          obtain ⟨u, hu, e⟩ := cost_one ts 0 h.tail ho' (by omega)
          refine ⟨u, List.mem_cons_of_mem _ hu, ?_⟩
          rw [e, e1, show q + 1 - q = 0 + 1 by omega, show q - q = 0 by omega]; omega
      · rw [nOf_all hx, nOf_all (x := t.1) (q := q) (by omega)]
        refine ⟨t, List.mem_cons_self .., ?_⟩
        rw [cost_end ts (q := q + 1 - (q + 1)) (by omega), cost_end ts (q := q - q) (by omega), Int.add_mul]
        omega

theorem rightB_fair {l : List T} (h : rightB l = true) : Fair l := by
  intro t ht
  obtain ⟨i, hi, rfl⟩ := List.getElem_of_mem ht
  have := okT_of (rightB_at h hi)
  simp only [List.getD, List.getElem?_eq_getElem hi, Option.getD_some] at this
  exact ⟨this.2.1, this.2.2.2.1⟩
theorem open_of : ∀ (l : List T) (i : Nat) (hi : i < l.length), l[i].1 = 0 → Open l
  | [], i, hi, _ => by simp at hi
  | t :: ts, 0, _, h => .inl h
  | t :: ts, i + 1, hi, h => .inr (open_of ts i (by simpa using hi) (by simpa using h))
theorem rightB_open {l : List T} (h : rightB l = true) : Open l := by
  have hl := rightB_len h
  have hi : l.length - 1 < l.length := by omega
  have := okT_of (rightB_at h hi)
  simp only [List.getD, List.getElem?_eq_getElem hi, Option.getD_some] at this
  exact open_of l _ hi (this.1.1 (by omega))

theorem stepB_parts {l : List T} {q : Int} (h : stepB l q = true) : rightB l = true ∧ okB q = true ∧ stepF l q 0 = some (stepV l q) := by
  unfold stepB at h
  simp only [Bool.and_eq_true] at h
  obtain ⟨x, hx⟩ := Option.isSome_iff_exists.1 h.2
  exact ⟨h.1.1, h.1.2, by rw [hx, (stepB_some h.1.1 h.1.2 hx).2]⟩
/-- what a told answer is -/
theorem stepV_cost {l : List T} {q : Int} (h : stepB l q = true) : stepV l q = cost l q := by
  obtain ⟨_, _, h3⟩ := stepB_parts h
  have := stepF_cost l q 0 _ h3
  omega
theorem step_nought {l : List T} {q : Int} (h : stepB l q = true) (hq : q ≤ 0) : stepV l q = 0 := by rw [stepV_cost h, cost_end _ hq]
theorem step_mono {l : List T} {q q' : Int} (h : stepB l q = true) (h' : stepB l q' = true) (hq : q ≤ q') : stepV l q ≤ stepV l q' := by
  rw [stepV_cost h, stepV_cost h']; exact cost_mono l q q' (rightB_fair (stepB_parts h).1) hq
theorem step_one {l : List T} {q : Int} (h : stepB l q = true) (h' : stepB l (q + 1) = true) (hq : 0 ≤ q) : ∃ i, ∃ hi : i < l.length, l[i].2 = stepV l (q + 1) - stepV l q := by
  rw [stepV_cost h, stepV_cost h']
  obtain ⟨t, ht, e⟩ := cost_one l q (rightB_fair (stepB_parts h).1) (rightB_open (stepB_parts h).1) hq
  obtain ⟨i, hi, rfl⟩ := List.getElem_of_mem ht
  exact ⟨i, hi, e⟩
theorem stepF_bd : ∀ (l : List T) (q out x : Int), okB out = true → stepF l q out = some x → okB x = true
  | [], q, out, x, h, e => by simp only [stepF, Option.some.injEq] at e; rw [← e]; exact h
  | t :: ts, q, out, x, h, e => by
    unfold stepF at e
    split at e
    · simp only [Option.some.injEq] at e; rw [← e]; exact h
    · split at e
      · rename_i hh
        exact stepF_bd ts _ _ _ (addB_parts hh.2).2.2 e
      · cases e
theorem stepV_bd (l : List T) (q : Int) : -1000000000000000 ≤ stepV l q ∧ stepV l q ≤ 1000000000000000 := by
  cases h : stepB l q
  · unfold stepV
    split
    · rename_i hh
      unfold stepB at h
      rw [hh.1, hh.2] at h
      simp only [Bool.true_and, Option.isSome_eq_false_iff, Option.isNone_iff_eq_none] at h
      rw [h]; simp
    · omega
  · exact okB_bd (stepF_bd l q 0 _ (by decide) (stepB_parts h).2.2)
end Go.Proofs.Ytdpefmjlmpjjbaa.Tiers
