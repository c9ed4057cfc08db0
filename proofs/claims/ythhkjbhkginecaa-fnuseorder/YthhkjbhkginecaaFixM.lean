/-
  What is put right can be put back: the mathematics of FnUseBack.
-/
import Derived.Test.YthhkjbhkginecaaPutS
namespace Go.Proofs.Ythhkjbhkginecaa.Evs
set_option linter.unusedVariables false
open Go.RowKit Go.Maps MapM

theorem set_id {l : List E} {k : Nat} (hk : k < l.length) {e : E} (h1 : e.1 = l[k].1) (i : Nat) : ((l.set k e).getD i E0).1 = (l.getD i E0).1 := by
  simp only [List.getD, List.getElem?_set]
  split
  · rename_i h
    subst h
    simp [hk, h1]
  · rfl
theorem okB_set {l : List E} (hok : okB l = true) {k : Nat} (hk : k < l.length) {e : E} (h1 : e.1 = l[k].1) (hr : rightE e = true) : okB (l.set k e) = true := by
  refine okB_true (by rw [List.length_set]; exact okB_len hok) (fun i hi => ?_)
  rw [List.length_set] at hi
  have hb := okB_at hok hi
  have hri : rightE ((l.set k e).getD i E0) = true := by
    simp only [List.getD, List.getElem?_set]
    split
    · exact hr
    · exact okB_right hok hi
  have hri0 := okB_right hok hi
  unfold badAt at hb ⊢
  rw [hri, set_id hk h1, set_id hk h1]
  rw [hri0] at hb
  exact hb

/-- what a fix that went through leaves, and that its undoing brings the list back -/
theorem fix_back {l : List E} {id : ByteArray} {q : Int} (h : fixD l id q = 0) :
    ∃ k, ∃ hk : k < l.length, ∃ (m : ByteArray) (was : Int), l[k] = (id, m, was) ∧ was ≠ q ∧ fixO l id q = l.set k (id, m, q) ∧ fixD (l.set k (id, m, q)) id was = 0 ∧ fixO (l.set k (id, m, q)) id was = l := by
  unfold fixD at h
  split at h
  case isFalse => exact absurd h (by decide)
  rename_i hok
  have ha := okB_asc hok
  obtain ⟨k, hk, e1, e2, hq, hne⟩ := fixC_hit h
  have hset := fixL_set ha hk e1 e2 h
  have hrt := okB_right hok hk
  have hgd : l.getD k E0 = l[k] := by simp [List.getD, hk]
  rw [hgd] at hrt
  refine ⟨k, hk, l[k].2.1, l[k].2.2, by rw [← e1], hne, ?_, ?_⟩
  · unfold fixO; rw [if_pos hok]; exact hset
  generalize hm : l[k].2.1 = m at *
  generalize hw : l[k].2.2 = was at *
  have hlk : l[k] = (id, m, was) := by rw [← e1, ← hm, ← hw]
  rw [hlk] at hrt
  have hr' : rightE (id, m, q) = true := by
    unfold rightE at hrt ⊢
    simp only [Bool.and_eq_true, decide_eq_true_eq] at hrt ⊢
    exact ⟨hrt.1, hrt.2.1, hq⟩
  have hwr : 0 ≤ was ∧ was ≤ 1000000000 := by
    unfold rightE at hrt
    simp only [Bool.and_eq_true, decide_eq_true_eq] at hrt
    exact hrt.2.2
  have hok' : okB (l.set k (id, m, q)) = true := okB_set hok hk (by rw [hlk]) hr'
  have ha' := okB_asc hok'
  have hk' : k < (l.set k (id, m, q)).length := by rw [List.length_set]; exact hk
  have hg : (l.set k (id, m, q))[k] = (id, m, q) := by simp
  have hlook : lookE (l.set k (id, m, q)) id = ((l.set k (id, m, q))[k], true) := by
    rcases lookE_cases (l.set k (id, m, q)) id with ⟨j, hj, h1, h2⟩ | ⟨h1, _⟩
    · have p1 := pos_hit ha' hj
      have p2 := pos_hit ha' hk'
      have e3 : kb keyE (l.set k (id, m, q))[j] = kb keyE (l.set k (id, m, q))[k] := by
        unfold kb keyE; rw [h1, hg]
      rw [e3, p2] at p1
      subst p1
      exact h2
    · exact absurd (by rw [hg]) (h1 _ (List.getElem_mem hk'))
  have hc0 : fixC (l.set k (id, m, q)) id was = 0 := by
    unfold fixC
    rw [hlook, hg, decide_eq_true hwr]
    simp only [Bool.true_eq_false, if_false]
    rw [if_neg (fun e => hne e.symm)]
  refine ⟨by unfold fixD; rw [if_pos hok']; exact hc0, ?_⟩
  unfold fixO
  rw [if_pos hok', fixL_set ha' hk' (by rw [hg]) hlook hc0, hg]
  simp only [List.set_set]
  rw [← hlk]
  simp
end Go.Proofs.Ythhkjbhkginecaa.Evs
