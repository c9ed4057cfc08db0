/-
  Events that are put in any order come to the same: the mathematics of FnUseOrder.
-/
import Derived.Test.YthhkjbhkginecaaPutM
namespace Go.Proofs.Ythhkjbhkginecaa.Evs
set_option linter.unusedVariables false
open Go.RowKit Go.Maps MapM

theorem asc_ext : ∀ {a b : List E}, Asc keyE a → Asc keyE b → (∀ u, u ∈ a ↔ u ∈ b) → a = b
  | [], [], _, _, _ => rfl
  | [], y :: b, _, _, h => by have := (h y).2 (by simp); simp at this
  | x :: a, [], _, _, h => by have := (h x).1 (by simp); simp at this
  | x :: a, y :: b, ha, hb, h => by
    have pa := List.pairwise_cons.1 ha
    have pb := List.pairwise_cons.1 hb
    have hxy : x = y := by
      by_cases e : x = y
      · exact e
      · have h1 : x ∈ b := by
          rcases List.mem_cons.1 ((h x).1 (by simp)) with h1 | h1
          · exact absurd h1 e
          · exact h1
        have h2 : y ∈ a := by
          rcases List.mem_cons.1 ((h y).2 (by simp)) with h2 | h2
          · exact absurd h2.symm e
          · exact h2
        exact absurd (List.lt_trans (pb.1 x h1) (pa.1 y h2)) (List.lt_irrefl _)
    subst hxy
    have hn1 : x ∉ a := fun hm => List.lt_irrefl _ (pa.1 x hm)
    have hn2 : x ∉ b := fun hm => List.lt_irrefl _ (pb.1 x hm)
    rw [asc_ext pa.2 pb.2 (fun u => ?_)]
    constructor
    · intro hu
      rcases List.mem_cons.1 ((h u).1 (by simp [hu])) with h1 | h1
      · subst h1; exact absurd hu hn1
      · exact h1
    · intro hu
      rcases List.mem_cons.1 ((h u).2 (by simp [hu])) with h1 | h1
      · subst h1; exact absurd hu hn2
      · exact h1
/-- one more of a set in which a name is one event's -/
theorem put_step {acc : List E} {e : E} (hok : okB acc = true) (hr : rightE e = true) (hc : ∀ u ∈ acc, u.1 = e.1 → u = e) (hl : acc.length < 20) :
    okB (putO acc e) = true ∧ ∀ u, u ∈ putO acc e ↔ u ∈ acc ∨ u = e := by
  refine ⟨put_ok hok, fun u => ?_⟩
  by_cases he : e ∈ acc
  · rw [(put_there hok he).2]
    constructor
    · exact .inl
    · rintro (h | rfl)
      · exact h
      · exact he
  · have hk : (lookE acc e.1).2 = false := by
      rcases lookE_cases acc e.1 with ⟨k, hk, h1, h2⟩ | ⟨_, h2⟩
      · have := hc _ (List.getElem_mem hk) h1
        exact absurd (this ▸ List.getElem_mem hk) he
      · rw [h2]
    have hp : putO acc e = putL acc e := by unfold putO; rw [if_pos hok]
    rw [hp, (putL_new hr hk (by omega)).2.1]
    rw [List.mem_append, List.mem_cons]
    constructor
    · rintro (h | h | h)
      · exact .inl (List.mem_of_mem_take h)
      · exact .inr h
      · exact .inl (List.mem_of_mem_drop h)
    · rintro (h | h)
      · rw [← List.take_append_drop (pos keyE (kb keyE e) acc) acc] at h
        rcases List.mem_append.1 h with h | h
        · exact .inl h
        · exact .inr (.inr h)
      · exact .inr (.inl h)
theorem takeE_step {l : List E} {k : Nat} (hk : k < l.length) (u : E) : u ∈ l.take (k + 1) ↔ u ∈ l.take k ∨ u = l.getD k E0 := by
  have : l.take (k + 1) = l.take k ++ [l.getD k E0] := by rw [List.take_add_one, List.getElem?_eq_getElem hk]; simp [List.getD, hk]
  rw [this, List.mem_append, List.mem_singleton]
theorem dropE_step {l : List E} {k : Nat} (hk : k < l.length) (u : E) : u ∈ l.drop k ↔ u ∈ l.drop (k + 1) ∨ u = l.getD k E0 := by
  rw [List.drop_eq_getElem_cons hk, List.mem_cons]
  have : l[k] = l.getD k E0 := by simp [List.getD, hk]
  rw [this]
  exact or_comm
theorem alike_of {A : List E} {n : Nat} (hn : n = A.length) (h : ∀ x y, x < n → y < x → (A.getD x E0).1 = (A.getD y E0).1 → A.getD x E0 = A.getD y E0) : ∀ u ∈ A, ∀ v ∈ A, u.1 = v.1 → u = v := by
  subst hn
  intro u hu v hv huv
  obtain ⟨i, hi, rfl⟩ := List.getElem_of_mem hu
  obtain ⟨j, hj, rfl⟩ := List.getElem_of_mem hv
  have gi : A.getD i E0 = A[i] := by simp [List.getD, hi]
  have gj : A.getD j E0 = A[j] := by simp [List.getD, hj]
  rcases Nat.lt_trichotomy i j with h1 | h1 | h1
  · have := h j i hj h1 (by rw [gi, gj]; exact huv.symm)
    rw [gi, gj] at this
    exact this.symm
  · subst h1; rfl
  · have := h i j hi h1 (by rw [gi, gj]; exact huv)
    rw [gi, gj] at this
    exact this
end Go.Proofs.Ythhkjbhkginecaa.Evs
