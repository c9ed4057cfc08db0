/-
  Lists of events that are right: impl.UseOk and spec.UseOk answer the same.
-/
import Derived.Test.YthhkjbhkginecaaEvs
import Derived.Test.YthhkjbhkginecaaIds
import Derived.Test.YthhkjbhkginecaaKinds
import Derived.Sort.Walk0
namespace Go.Proofs.Ythhkjbhkginecaa.Evs
set_option linter.unusedVariables false
open Go.RowKit

/-- an event that is right -/
def rightE (e : E) : Bool := Ids.idB e.1 && (Kinds.nameB e.2.1 && decide (0 ≤ e.2.2 ∧ e.2.2 ≤ 1000000000))
/-- byte by byte before -/
abbrev ltS (s t : ByteArray) : Bool := Op.bytesLess s.toList t.toList

theorem ltS_total (s t : ByteArray) : (ltS t s || t.toList == s.toList) = !ltS s t := by
  unfold ltS
  rw [Proofs.bytesLess_eq, Proofs.bytesLess_eq]
  by_cases h1 : s.toList < t.toList
  · have h2 : ¬ t.toList < s.toList := fun h => List.lt_irrefl _ (List.lt_trans h1 h)
    have h3 : t.toList ≠ s.toList := fun h => by rw [h] at h1; exact List.lt_irrefl _ h1
    simp [h1, h2, h3]
  · by_cases h3 : t.toList = s.toList
    · simp [h3]
    · have h2 : t.toList < s.toList := by
        have hle : t.toList ≤ s.toList := h1
        rcases Decidable.em (t.toList < s.toList) with h | h
        · exact h
        · exact absurd (List.le_antisymm hle h) h3
      simp [h1, h2]

/-- event number i is not right, or not behind the one before -/
def badAt (l : List E) (i : Nat) : Bool := !rightE (l.getD i E0) || (decide (0 < i) && !ltS (l.getD (i - 1) E0).1 (l.getD i E0).1)
/-- UseOk -/
def okB (l : List E) : Bool := decide (l.length ≤ 20) && (List.range l.length).all fun i => !badAt l i

theorem okB_long {l : List E} (h : 20 < l.length) : okB l = false := by unfold okB; rw [decide_eq_false (by omega)]; rfl
theorem okB_bad {l : List E} {k : Nat} (hk : k < l.length) (h : badAt l k = true) : okB l = false := by
  have : ((List.range l.length).all fun i => !badAt l i) = false := by
    rw [List.all_eq_false]
    exact ⟨k, by simpa using hk, by simp [h]⟩
  unfold okB; rw [this]; simp
theorem okB_true {l : List E} (h : l.length ≤ 20) (hl : ∀ i, i < l.length → badAt l i = false) : okB l = true := by
  have : ((List.range l.length).all fun i => !badAt l i) = true := by
    rw [List.all_eq_true]
    intro i hi
    rw [hl i (by simpa using hi)]; rfl
  unfold okB; rw [this, decide_eq_true h]; rfl

/-- spec.l3Event -/
theorem rightS (e : E) (w : World) (h1 : e.1.size ≤ maxLen) (h2 : e.2.1.size ≤ maxLen) :
    Calls Try.prog 40 #[eV e] w fun x w' => x = .returned (.bool (rightE e)) ∧ Below w.heap.size w w' := by
  obtain ⟨s, m, q⟩ := e
  simp only [eV, rightE] at *
  generalize hi : Ids.idB s = bi
  have HI := hide hi; clear hi
  generalize hm : Kinds.nameB m = bm
  have HM := hide hm; clear hm
  generalize hq : decide (0 ≤ q ∧ q ≤ 1000000000) = bq
  have HQ := hide hq; clear hq
  go_enter Try.func40, Try.ntmps40
  go_wp2_with (fail)
  refine (Ids.idS s _ h1).mono ?_
  rintro e w1 ⟨rfl, hb1⟩
  rw [unhide HI]
  have c1 : w1.cell? ⟨w.heap.size, 1, none⟩ = some (.string m) := (hb1.cell (p := ⟨w.heap.size, 1, none⟩) (by simp)).trans (by simp)
  have c2 : w1.cell? ⟨w.heap.size, 2, none⟩ = some (.int .i64 q) := (hb1.cell (p := ⟨w.heap.size, 2, none⟩) (by simp)).trans (by simp)
  have z1 : w.heap.size < w1.heap.size := Nat.lt_of_lt_of_le (by simp) hb1.size
  have HB : Hid (Below w.heap.size w w1) := hide (below_trans ((Below.refl _ _).alloc (Nat.le_refl _) _) hb1)
  clear hb1
  cases bi with
  | false =>
    go_wp2
    go_ret
    exact ⟨rfl, unhide HB⟩
  | true =>
    go_wp2_with (fail)
    refine (Kinds.nameS m _ h2).mono ?_
    rintro e w2 ⟨rfl, hb2⟩
    rw [unhide HM]
    have d2 : w2.cell? ⟨w.heap.size, 2, none⟩ = some (.int .i64 q) := (hb2.cell (p := ⟨w.heap.size, 2, none⟩) z1).trans c2
    have HB2 : Hid (Below w.heap.size w w2) := hide (below_trans (unhide HB) hb2)
    clear hb2 HB c1 c2
    cases bm with
    | false =>
      go_wp2
      go_ret
      exact ⟨rfl, unhide HB2⟩
    | true =>
      by_cases q0 : 0 ≤ q
      · have e : bq = decide (q ≤ 1000000000) := (unhide HQ).symm.trans (by simp [q0])
        subst e
        go_wp2
        go_ret
        exact ⟨rfl, unhide HB2⟩
      · have e : bq = false := (unhide HQ).symm.trans (by simp [q0])
        subst e
        go_wp2
        go_ret
        exact ⟨rfl, unhide HB2⟩

/-- impl.useQty -/
theorem qtyI (q : Int) (w : World) : Calls Try.prog 58 #[.int .i64 q] w fun x w' => x = .returned (.bool (decide (0 ≤ q ∧ q ≤ 1000000000))) ∧ w' = w := by
  by_cases q0 : 0 ≤ q
  · have e : decide (0 ≤ q ∧ q ≤ 1000000000) = decide (q ≤ 1000000000) := by simp [q0]
    rw [e]
    clear e
    go_enter Try.func58, Try.ntmps58
    go_wp2
    go_ret
    exact ⟨rfl, rfl⟩
  · have e : decide (0 ≤ q ∧ q ≤ 1000000000) = false := by simp [q0]
    rw [e]
    clear e
    go_enter Try.func58, Try.ntmps58
    go_wp2
    go_ret
    exact ⟨rfl, rfl⟩

/-- impl.eventRight -/
theorem rightI (e : E) (w : World) (h1 : e.1.size ≤ maxLen) (h2 : e.2.1.size ≤ maxLen) :
    Calls Try.prog 43 #[eV e] w fun x w' => x = .returned (.bool (rightE e)) ∧ Below w.heap.size w w' := by
  obtain ⟨s, m, q⟩ := e
  simp only [eV, rightE] at *
  generalize hi : Ids.idB s = bi
  have HI := hide hi; clear hi
  generalize hm : Kinds.nameB m = bm
  have HM := hide hm; clear hm
  generalize hq : decide (0 ≤ q ∧ q ≤ 1000000000) = bq
  have HQ := hide hq; clear hq
  go_enter Try.func43, Try.ntmps43
  go_wp2_with (fail)
  refine (Ids.idI s _ h1).mono ?_
  rintro e w1 ⟨rfl, hb1⟩
  rw [unhide HI]
  have c1 : w1.cell? ⟨w.heap.size, 1, none⟩ = some (.string m) := (hb1.cell (p := ⟨w.heap.size, 1, none⟩) (by simp)).trans (by simp)
  have c2 : w1.cell? ⟨w.heap.size, 2, none⟩ = some (.int .i64 q) := (hb1.cell (p := ⟨w.heap.size, 2, none⟩) (by simp)).trans (by simp)
  have z1 : w.heap.size < w1.heap.size := Nat.lt_of_lt_of_le (by simp) hb1.size
  have HB : Hid (Below w.heap.size w w1) := hide (below_trans ((Below.refl _ _).alloc (Nat.le_refl _) _) hb1)
  clear hb1
  cases bi with
  | false =>
    go_wp2
    go_ret
    exact ⟨rfl, unhide HB⟩
  | true =>
    go_wp2_with (fail)
    refine (Kinds.nameI m _ h2).mono ?_
    rintro e w2 ⟨rfl, hb2⟩
    rw [unhide HM]
    have d2 : w2.cell? ⟨w.heap.size, 2, none⟩ = some (.int .i64 q) := (hb2.cell (p := ⟨w.heap.size, 2, none⟩) z1).trans c2
    have HB2 : Hid (Below w.heap.size w w2) := hide (below_trans (unhide HB) hb2)
    clear hb2 HB c1 c2
    cases bm with
    | false =>
      go_wp2
      go_ret
      exact ⟨rfl, unhide HB2⟩
    | true =>
      go_wp2_with (fail)
      refine (qtyI q _).mono ?_
      rintro e w3 ⟨rfl, rfl⟩
      rw [unhide HQ]
      go_wp2
      go_ret
      exact ⟨rfl, unhide HB2⟩
end Go.Proofs.Ythhkjbhkginecaa.Evs
