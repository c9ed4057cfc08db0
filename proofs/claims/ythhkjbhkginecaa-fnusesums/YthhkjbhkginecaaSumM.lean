/-
  The sums of events by their meters: the mathematics.
-/
import Derived.Test.YthhkjbhkginecaaPutS
import Derived.Test.YthhkjbhkginecaaUses
namespace Go.Proofs.Ythhkjbhkginecaa.Sums
set_option linter.unusedVariables false
open Go.RowKit Go.Maps MapM
open Uses (U U0)
open Evs (E E0 hide unhide)

abbrev keyU (u : U) : ByteArray := u.1
abbrev valU (u : U) : Value := .int .i64 u.2

theorem ascU_put {l : List U} {e : U} (ha : Asc keyU l) (h : ∀ a ∈ l, kb keyU a ≠ kb keyU e) : Asc keyU (l.take (pos keyU (kb keyU e) l) ++ e :: l.drop (pos keyU (kb keyU e) l)) := by
  have hp := pos_le keyU (kb keyU e) l
  have htake : ∀ a ∈ l.take (pos keyU (kb keyU e) l), kb keyU a < kb keyU e := by
    intro a hm
    obtain ⟨i, hi, rfl⟩ := List.getElem_of_mem hm
    rw [List.getElem_take]
    exact (pos_spec keyU (kb keyU e) l i (by simp at hi; omega)).1 (by simp at hi; omega)
  have hdrop : ∀ a ∈ l.drop (pos keyU (kb keyU e) l), kb keyU e < kb keyU a := by
    intro a hm
    obtain ⟨i, hi, rfl⟩ := List.getElem_of_mem hm
    rw [List.getElem_drop]
    have hi' : pos keyU (kb keyU e) l + i < l.length := by simp at hi; omega
    have hpl : pos keyU (kb keyU e) l < l.length := by omega
    have h1 : kb keyU e < kb keyU l[pos keyU (kb keyU e) l] := lt_tri ((pos_spec keyU (kb keyU e) l _ hpl).2 rfl) (h _ (List.getElem_mem hpl))
    by_cases h0 : i = 0
    · subst h0; exact h1
    · exact List.lt_trans h1 (List.pairwise_iff_getElem.1 ha _ _ hpl hi' (by omega))
  refine List.pairwise_append.2 ⟨List.Pairwise.sublist (List.take_sublist _ _) ha, List.pairwise_cons.2 ⟨hdrop, List.Pairwise.sublist (List.drop_sublist _ _) ha⟩, ?_⟩
  intro a hm b hb
  rcases List.mem_cons.1 hb with rfl | hb
  · exact htake a hm
  · exact List.lt_trans (htake a hm) (hdrop b hb)
theorem ascU_set {l : List U} {e : U} {k : Nat} (ha : Asc keyU l) (hk : k < l.length) (h : kb keyU l[k] = kb keyU e) : Asc keyU (l.set k e) := by
  refine List.pairwise_iff_getElem.2 (fun i j hi hj hij => ?_)
  have hi' : i < l.length := by simpa using hi
  have hj' : j < l.length := by simpa using hj
  have hlt := List.pairwise_iff_getElem.1 ha i j hi' hj' hij
  rw [List.getElem_set, List.getElem_set]
  by_cases e1 : k = i
  · subst e1
    rw [if_pos rfl, if_neg (by omega), ← h]
    exact hlt
  · rw [if_neg e1]
    by_cases e2 : k = j
    · subst e2
      rw [if_pos rfl, ← h]
      exact hlt
    · rw [if_neg e2]
      exact hlt

theorem kbU_inj {a : U} {s : ByteArray} (h : kb keyU a = s.data.toList) : a.1 = s := by
  have : a.1.data = s.data := Array.toList_inj.1 h
  cases hh : a.1; cases s; simp_all
/-- where a meter is, or belongs -/
abbrev posU (l : List U) (m : ByteArray) : Nat := pos keyU m.data.toList l
def hasU (l : List U) (m : ByteArray) : Bool := l.any fun u => decide (u.1 = m)
/-- how much of it there is -/
def lkU (l : List U) (m : ByteArray) : Int := if hasU l m = true then (l.getD (posU l m) U0).2 else 0
/-- as much more -/
def addU (l : List U) (m : ByteArray) (q : Int) : List U :=
  if hasU l m = true then l.set (posU l m) (m, lkU l m + q) else l.take (posU l m) ++ (m, lkU l m + q) :: l.drop (posU l m)
def sumsFrom (a : List U) (l : List E) : List U := l.foldl (fun acc e => addU acc e.2.1 e.2.2) a
/-- the sums -/
def sums (l : List E) : List U := sumsFrom [] l

theorem has_no {l : List U} {m : ByteArray} (h : hasU l m = false) : ∀ a ∈ l, a.1 ≠ m := by
  intro a ha e
  unfold hasU at h
  have := List.any_eq_false.1 h a ha
  simp [e] at this
theorem has_no_kb {l : List U} {m : ByteArray} (h : hasU l m = false) : ∀ a ∈ l, kb keyU a ≠ m.data.toList := fun a ha e => has_no h a ha (kbU_inj e)
theorem posU_hit {l : List U} (ha : Asc keyU l) {k : Nat} (hk : k < l.length) : pos keyU (kb keyU l[k]) l = k :=
  pos_of keyU (Nat.le_of_lt hk) (fun i hi h => List.pairwise_iff_getElem.1 ha i k hi hk h) (fun _ => List.lt_irrefl _)
theorem has_yes {l : List U} {m : ByteArray} (ha : Asc keyU l) (h : hasU l m = true) : ∃ hp : posU l m < l.length, l[posU l m].1 = m := by
  unfold hasU at h
  obtain ⟨a, hm, he⟩ := List.any_eq_true.1 h
  obtain ⟨k, hk, rfl⟩ := List.getElem_of_mem hm
  have he' : l[k].1 = m := of_decide_eq_true he
  have hp : posU l m = k := by
    have := posU_hit ha hk
    unfold posU
    rw [← he']
    exact this
  refine ⟨by omega, ?_⟩
  simp only [hp]
  exact he'
theorem has_at {l : List U} {m : ByteArray} {k : Nat} (hk : k < l.length) (h : l[k].1 = m) : hasU l m = true := by
  unfold hasU
  exact List.any_eq_true.2 ⟨l[k], List.getElem_mem hk, by simp [h]⟩
theorem lk_yes {l : List U} {m : ByteArray} (h : hasU l m = true) : lkU l m = (l.getD (posU l m) U0).2 := by unfold lkU; rw [if_pos h]
theorem lk_no {l : List U} {m : ByteArray} (h : hasU l m = false) : lkU l m = 0 := by unfold lkU; rw [if_neg (by rw [h]; simp)]
theorem add_yes {l : List U} {m : ByteArray} {q : Int} (h : hasU l m = true) : addU l m q = l.set (posU l m) (m, lkU l m + q) := by unfold addU; rw [if_pos h]
theorem add_no {l : List U} {m : ByteArray} {q : Int} (h : hasU l m = false) : addU l m q = l.take (posU l m) ++ (m, q) :: l.drop (posU l m) := by unfold addU; rw [if_neg (by rw [h]; simp), lk_no h]; simp
theorem add_asc {l : List U} {m : ByteArray} {q : Int} (ha : Asc keyU l) : Asc keyU (addU l m q) := by
  cases h : hasU l m with
  | true =>
    obtain ⟨hp, he⟩ := has_yes ha h
    rw [add_yes h]
    exact ascU_set ha hp (by unfold kb keyU; rw [he])
  | false =>
    rw [add_no h]
    exact ascU_put (e := (m, q)) ha (has_no_kb h)
theorem add_len {l : List U} {m : ByteArray} {q : Int} : (addU l m q).length ≤ l.length + 1 := by
  unfold addU
  split
  · rw [List.length_set]; omega
  · have := pos_le keyU m.data.toList l
    simp; omega
theorem add_mem {l : List U} {m : ByteArray} {q : Int} {u : U} (h : u ∈ addU l m q) : u ∈ l ∨ u = (m, lkU l m + q) := by
  unfold addU at h
  split at h
  · rcases List.mem_or_eq_of_mem_set h with h | h
    · exact .inl h
    · exact .inr h
  · rcases List.mem_append.1 h with h | h
    · exact .inl (List.mem_of_mem_take h)
    · rcases List.mem_cons.1 h with h | h
      · exact .inr h
      · exact .inl (List.mem_of_mem_drop h)
theorem lk_bound {l : List U} {m : ByteArray} {M : Int} (ha : Asc keyU l) (h0 : 0 ≤ M) (h : ∀ u ∈ l, 0 ≤ u.2 ∧ u.2 ≤ M) : 0 ≤ lkU l m ∧ lkU l m ≤ M := by
  cases hh : hasU l m with
  | true =>
    obtain ⟨hp, _⟩ := has_yes ha hh
    rw [lk_yes hh]
    exact h _ (by simp [List.getD, hp])
  | false => rw [lk_no hh]; omega

theorem look_DU {l : List U} (ha : Asc keyU l) (m : ByteArray) : (DM keyU valU l).atKey (.string m.data.toList) (.held (.int .i64 0)) = .held (.int .i64 (lkU l m)) := by
  cases h : hasU l m with
  | true =>
    obtain ⟨hp, he⟩ := has_yes ha h
    have := atKey_hit keyU valU (.held (.int .i64 0)) l (posU l m) hp ha
    have e2 : kb keyU l[posU l m] = m.data.toList := by unfold kb keyU; rw [he]
    rw [e2] at this
    rw [this, lk_yes h]
    simp [List.getD, hp]
  | false =>
    rw [atKey_miss keyU valU _ l (has_no_kb h), lk_no h]
theorem put_DU {l : List U} (ha : Asc keyU l) (m : ByteArray) (q : Int) : (DM keyU valU l).put (.string m.data.toList) (.held (.int .i64 (lkU l m + q))) = DM keyU valU (addU l m q) := by
  cases h : hasU l m with
  | true =>
    obtain ⟨hp, he⟩ := has_yes ha h
    rw [add_yes h]
    exact put_old keyU valU l (m, lkU l m + q) (posU l m) hp ha (by unfold kb keyU; rw [he])
  | false =>
    rw [add_no h, lk_no h, Int.zero_add]
    exact put_new keyU valU l (m, q) (has_no_kb h)

theorem sums_step {l : List E} {k : Nat} (hk : k < l.length) : sums (l.take (k + 1)) = addU (sums (l.take k)) (l.getD k E0).2.1 (l.getD k E0).2.2 := by
  unfold sums sumsFrom
  have : l.take (k + 1) = l.take k ++ [l.getD k E0] := by rw [List.take_add_one, List.getElem?_eq_getElem hk]; simp [List.getD, hk]
  rw [this, List.foldl_append]
  rfl
theorem sums_asc (l : List E) : ∀ k, k ≤ l.length → Asc keyU (sums (l.take k)) := by
  intro k
  induction k with
  | zero => intro _; simp [sums, sumsFrom, Asc]
  | succ k ih =>
    intro hk
    rw [sums_step (by omega)]
    exact add_asc (ih (by omega))
theorem sums_len (l : List E) : ∀ k, k ≤ l.length → (sums (l.take k)).length ≤ k := by
  intro k
  induction k with
  | zero => intro _; simp [sums, sumsFrom]
  | succ k ih =>
    intro hk
    rw [sums_step (by omega)]
    exact Nat.le_trans add_len (by have := ih (by omega); omega)
theorem sums_bound (l : List E) (hq : ∀ u ∈ l, 0 ≤ u.2.2 ∧ u.2.2 ≤ 1000000000) : ∀ k, k ≤ l.length → ∀ u ∈ sums (l.take k), 0 ≤ u.2 ∧ u.2 ≤ (k : Int) * 1000000000 := by
  intro k
  induction k with
  | zero => intro _ u hu; simp [sums, sumsFrom] at hu
  | succ k ih =>
    intro hk u hu
    rw [sums_step (by omega)] at hu
    have hb := ih (by omega)
    have hx : 0 ≤ (l.getD k E0).2.2 ∧ (l.getD k E0).2.2 ≤ 1000000000 := hq _ (by simp [List.getD, (by omega : k < l.length)])
    rcases add_mem hu with h | rfl
    · have := hb u h
      omega
    · have := lk_bound (m := (l.getD k E0).2.1) (sums_asc l k (by omega)) (by omega) hb
      simp only
      omega
theorem sums_size (l : List E) (hs : ∀ u ∈ l, u.2.1.size ≤ maxLen) : ∀ k, k ≤ l.length → ∀ u ∈ sums (l.take k), u.1.size ≤ maxLen := by
  intro k
  induction k with
  | zero => intro _ u hu; simp [sums, sumsFrom] at hu
  | succ k ih =>
    intro hk u hu
    rw [sums_step (by omega)] at hu
    rcases add_mem hu with h | rfl
    · exact ih (by omega) u h
    · exact hs _ (by simp [List.getD, (by omega : k < l.length)])
theorem okB_qty {l : List E} (h : Evs.okB l = true) : ∀ u ∈ l, 0 ≤ u.2.2 ∧ u.2.2 ≤ 1000000000 := by
  intro u hu
  obtain ⟨k, hk, rfl⟩ := List.getElem_of_mem hu
  have := Evs.okB_right h hk
  have hg : l.getD k E0 = l[k] := by simp [List.getD, hk]
  rw [hg] at this
  unfold Evs.rightE at this
  simp only [Bool.and_eq_true, decide_eq_true_eq] at this
  exact this.2.2
/-- what UseSums answers -/
def sumsO (l : List E) : List U := if Evs.okB l = true then sums l else []
end Go.Proofs.Ythhkjbhkginecaa.Sums
