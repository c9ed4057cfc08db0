/-
  An event that is put once more turns nothing: the mathematics of FnUseOnce.
-/
import Derived.Test.YthhkjbhkginecaaFixM
namespace Go.Proofs.Ythhkjbhkginecaa.Evs
set_option linter.unusedVariables false
open Go.RowKit Go.Maps MapM

theorem okB_of {l : List E} (hl : l.length ≤ 20) (hr : ∀ u ∈ l, rightE u = true) (ha : Asc keyE l) : okB l = true := by
  refine okB_true hl (fun i hi => ?_)
  have h1 : rightE (l.getD i E0) = true := hr _ (by simp [List.getD, hi])
  unfold badAt
  rw [h1]
  by_cases h0 : i = 0
  · simp [h0]
  · have h2 : ltS (l.getD (i - 1) E0).1 (l.getD i E0).1 = true := by
      rw [ltS_iff]
      have := List.pairwise_iff_getElem.1 ha (i - 1) i (by omega) hi (by omega)
      simpa [List.getD, hi, (by omega : i - 1 < l.length)] using this
    rw [h2]; simp
theorem okB_mem {l : List E} (h : okB l = true) : ∀ u ∈ l, rightE u = true := by
  intro u hu
  obtain ⟨k, hk, rfl⟩ := List.getElem_of_mem hu
  have := okB_right h hk
  simpa [List.getD, hk] using this
theorem idOnce {l : List E} (ha : Asc keyE l) {i k : Nat} (hi : i < l.length) (hk : k < l.length) (h : l[i].1 = l[k].1) : i = k := by
  have h1 := pos_hit ha hi
  have h2 := pos_hit ha hk
  have e : kb keyE l[i] = kb keyE l[k] := by unfold kb keyE; rw [h]
  rw [e, h2] at h1
  exact h1.symm
theorem lookE_mem {l : List E} (ha : Asc keyE l) {e : E} (hm : e ∈ l) : lookE l e.1 = (e, true) := by
  obtain ⟨k, hk, rfl⟩ := List.getElem_of_mem hm
  rcases lookE_cases l l[k].1 with ⟨j, hj, h1, h2⟩ | ⟨h1, _⟩
  · have := idOnce ha hj hk h1
    subst this
    exact h2
  · exact absurd rfl (h1 _ (List.getElem_mem hk))
theorem putC_zero {l : List E} {e : E} (h : putC l e = 0) : rightE e = true ∧ (lookE l e.1).2 = false ∧ ¬ 20 ≤ l.length := by
  unfold putC at h
  split at h
  · simp at h
  rename_i h1
  split at h
  · split at h <;> simp at h
  rename_i h2
  split at h
  · simp at h
  rename_i h3
  exact ⟨by simpa using h1, by simpa using h2, h3⟩
/-- what a put leaves stays right -/
theorem put_ok {l : List E} {e : E} (h : okB l = true) : okB (putO l e) = true := by
  have hp : putO l e = putL l e := by unfold putO; rw [if_pos h]
  rw [hp]
  by_cases h0 : putC l e = 0
  · obtain ⟨h1, h2, h3⟩ := putC_zero h0
    obtain ⟨_, _, _, h4⟩ := putL_new h1 h2 h3
    refine okB_of (by omega) (fun u hu => ?_) (putL_asc (okB_asc h))
    rcases putL_mem hu with hu | rfl
    · exact okB_mem h u hu
    · exact h1
  · rw [putL_old h0]; exact h
theorem put_old' {l : List E} {e : E} (h : okB l = true) (h0 : putD l e ≠ 0) : putO l e = l := by
  have hd : putD l e = putC l e := by unfold putD; rw [if_pos h]
  have hp : putO l e = putL l e := by unfold putO; rw [if_pos h]
  rw [hp]
  exact putL_old (by rw [← hd]; exact h0)
theorem put_len {l : List E} {e : E} (h : okB l = true) (h0 : putD l e = 0) : (putO l e).length = l.length + 1 := by
  have hd : putD l e = putC l e := by unfold putD; rw [if_pos h]
  have hp : putO l e = putL l e := by unfold putO; rw [if_pos h]
  obtain ⟨h1, h2, h3⟩ := putC_zero (by rw [← hd]; exact h0)
  rw [hp]
  exact (putL_new h1 h2 h3).2.2.2
theorem put_mem {l : List E} {e : E} (h : okB l = true) (h0 : putD l e = 0) : e ∈ putO l e := by
  have hd : putD l e = putC l e := by unfold putD; rw [if_pos h]
  have hp : putO l e = putL l e := by unfold putO; rw [if_pos h]
  obtain ⟨h1, h2, h3⟩ := putC_zero (by rw [← hd]; exact h0)
  rw [hp, (putL_new h1 h2 h3).2.1]
  simp
/-- an event that is there already -/
theorem put_there {l : List E} {e : E} (h : okB l = true) (hm : e ∈ l) : putD l e = 1 ∧ putO l e = l := by
  have hd : putD l e = putC l e := by unfold putD; rw [if_pos h]
  have hp : putO l e = putL l e := by unfold putO; rw [if_pos h]
  have hc : putC l e = 1 := by
    unfold putC
    rw [lookE_mem (okB_asc h) hm, okB_mem h e hm]
    simp
  exact ⟨hd.trans hc, hp.trans (putL_old (by rw [hc]; decide))⟩
/-- put again -/
theorem put_twice {l : List E} {e : E} (h : okB l = true) : putO (putO l e) e = putO l e ∧ (putD l e ≠ 0 → putD (putO l e) e = putD l e) ∧ (putD l e = 0 → putD (putO l e) e = 1) := by
  by_cases h0 : putD l e = 0
  · have := put_there (put_ok (e := e) h) (put_mem h h0)
    exact ⟨this.2, fun hn => absurd h0 hn, fun _ => this.1⟩
  · rw [put_old' h h0]
    exact ⟨put_old' h h0, fun _ => rfl, fun hn => absurd hn h0⟩
end Go.Proofs.Ythhkjbhkginecaa.Evs
