/-
  Plain laws of shares: their sum, who has no weight, the greater weight, twice the weights.
-/
import Derived.Test.YthhkjbhkginecaaShMath
namespace Go.Proofs.Ythhkjbhkginecaa.Share
set_option linter.unusedVariables false
open Go.RowKit Ints

/-- the division, whole -/
theorem pt_rs (T S x : Int) (hs : 1 ≤ S) : S * ptV T S x + rsV T S x = T * x := by
  unfold ptV rsV
  have e1 := Int.mul_ediv_add_emod (T % S * x) S
  have e2 := Int.mul_ediv_add_emod T S
  have e3 : T * x = (S * (T / S) + T % S) * x := by rw [e2]
  rw [e3, Int.mul_add, Int.add_mul, Int.mul_assoc]
  omega

theorem rs_bd (T S x : Int) (hs : 1 ≤ S) : 0 ≤ rsV T S x ∧ rsV T S x < S := by
  unfold rsV
  exact ⟨Int.emod_nonneg _ (by omega), Int.emod_lt_of_pos _ (by omega)⟩

theorem sum_pt_rs (T S : Int) (hs : 1 ≤ S) (l : List Int) : S * (l.map (ptV T S)).sum + (l.map (rsV T S)).sum = T * l.sum := by
  induction l with
  | nil => simp
  | cons a l ih =>
    have h1 := pt_rs T S a hs
    simp only [List.map_cons, List.sum_cons]
    rw [Int.mul_add, Int.mul_add]
    omega

/-- what is left, by the rests -/
theorem left_rs (T : Int) (ws : List Int) (hs : 1 ≤ ws.sum) : ws.sum * leftV T ws = (rss T ws).sum := by
  have h := sum_pt_rs T ws.sum hs ws
  unfold leftV pts rss
  rw [Int.mul_sub, Int.mul_comm ws.sum T]
  omega

theorem sum_nn (l : List Int) (h : ∀ x ∈ l, 0 ≤ x) : 0 ≤ l.sum := by
  induction l with
  | nil => simp
  | cons a l ih => have := ih (fun x hx => h x (by simp [hx])); have := h a (by simp); rw [List.sum_cons]; omega

/-- a sum of rests below S: at most S times those that are not 0 -/
theorem sum_cnt (S : Int) (l : List Int) (h : ∀ x ∈ l, 0 ≤ x ∧ x < S) : l.sum ≤ S * (l.countP fun x => decide (0 < x) : Nat) ∧ (0 < l.sum → l.sum < S * (l.countP fun x => decide (0 < x) : Nat)) := by
  induction l with
  | nil => simp
  | cons a l ih =>
    have h1 := ih (fun x hx => h x (by simp [hx]))
    have h2 := h a (by simp)
    have h3 := sum_nn l (fun x hx => (h x (by simp [hx])).1)
    rw [List.sum_cons, List.countP_cons]
    by_cases ha : 0 < a
    · simp only [ha, decide_true, if_true]
      rw [Int.natCast_add, Int.mul_add]
      simp only [Int.natCast_one, Int.mul_one]
      omega
    · have : a = 0 := by omega
      subst this
      simp
      exact h1

theorem left_bd (T : Int) (ws : List Int) (hs : 1 ≤ ws.sum) : 0 ≤ leftV T ws ∧ leftV T ws ≤ ((rss T ws).countP fun x => decide (0 < x) : Nat) := by
  have h := left_rs T ws hs
  have hb : ∀ x ∈ rss T ws, 0 ≤ x ∧ x < ws.sum := by
    intro x hx
    unfold rss at hx
    obtain ⟨y, _, rfl⟩ := List.mem_map.1 hx
    exact rs_bd T ws.sum y hs
  have h1 := sum_nn (rss T ws) (fun x hx => (hb x hx).1)
  have h2 := (sum_cnt ws.sum (rss T ws) hb).1
  constructor
  · rcases (by omega : leftV T ws < 0 ∨ 0 ≤ leftV T ws) with hl | hl
    · have : ws.sum * leftV T ws < 0 := Int.mul_neg_of_pos_of_neg (by omega) hl
      omega
    · exact hl
  · rw [← h] at h2
    exact Int.le_of_mul_le_mul_left h2 (by omega)

/-- cnt is one to one, onto the numbers below n -/
theorem cnt_perm (P R : List Int) (n : Nat) : ((List.range n).map fun i => cnt R i n).Perm (List.range n) := by
  let l := (shL P R n).mergeSort (fun x y => !ahead y x)
  have hp : l.Perm (shL P R n) := List.mergeSort_perm _ _
  have hs : ∀ (i j : Nat) (x y : Sh), i < j → l[i]? = some x → l[j]? = some y → ahead y x = false := by
    have hpw : l.Pairwise (fun x y => (!ahead y x) = true) := List.pairwise_mergeSort (fun x y z h1 h2 => by
        unfold ahead at *
        simp at *
        omega) (fun x y => by
        unfold ahead
        by_cases h1 : y.2.2 < x.2.2
        · simp [h1]; omega
        · by_cases h2 : x.2.2 < y.2.2
          · simp [h1, h2]; omega
          · simp; omega) _
    intro i j x y hij hx hy
    have := List.pairwise_iff_getElem.1 hpw
    have hi : i < l.length := by
      rcases Nat.lt_or_ge i l.length with h | h
      · exact h
      · rw [List.getElem?_eq_none h] at hx; cases hx
    have hj : j < l.length := by
      rcases Nat.lt_or_ge j l.length with h | h
      · exact h
      · rw [List.getElem?_eq_none h] at hy; cases hy
    have h2 := this i j hi hj hij
    rw [List.getElem?_eq_getElem hi] at hx
    rw [List.getElem?_eq_getElem hj] at hy
    cases hx; cases hy
    simpa using h2
  have hlen : l.length = n := by rw [hp.length_eq]; simp [shL]
  have e1 : l.map (fun x => cnt R x.1.toNat n) = List.range n := by
    apply List.ext_getElem (by simp [hlen])
    intro i h1 h2
    have hi : i < l.length := by simpa using h1
    obtain ⟨p, hpn, hx, hc⟩ := rank P R n l hp hs i l[i] (List.getElem?_eq_getElem hi)
    simp only [List.getElem_map, List.getElem_range]
    rw [hx]
    simp only [Int.toNat_natCast]
    exact hc
  have e2 : (shL P R n).map (fun x => cnt R x.1.toNat n) = (List.range n).map fun i => cnt R i n := by
    unfold shL
    rw [List.map_map]
    apply List.map_congr_left
    intro i _
    simp
  rw [← e2, ← e1]
  exact (hp.map _).symm

theorem count_lt (n : Nat) (L : Int) (h0 : 0 ≤ L) (h1 : L ≤ n) : (((List.range n).map fun (i : Nat) => if (i : Int) < L then (1 : Int) else 0)).sum = L := by
  induction n generalizing L with
  | zero => simp; omega
  | succ n ih =>
    rw [List.range_succ, List.map_append, List.sum_append]
    by_cases h : L ≤ n
    · rw [ih L h0 h]; simp; omega
    · have e : ∀ i ∈ List.range n, (if (i : Int) < L then (1 : Int) else 0) = (if (i : Int) < n then 1 else 0) := by
        intro i hi
        have := List.mem_range.1 hi
        rw [if_pos (by omega), if_pos (by omega)]
      rw [List.map_congr_left e, ih n (by omega) (by omega)]
      simp
      rw [if_pos (by omega)]; omega

theorem sum_map_add {α : Type} (l : List α) (f g : α → Int) : (l.map fun i => f i + g i).sum = (l.map f).sum + (l.map g).sum := by
  induction l with
  | nil => simp
  | cons a l ih => simp only [List.map_cons, List.sum_cons]; rw [ih]; omega

theorem perm_sum {l m : List Int} (h : l.Perm m) : l.sum = m.sum := by
  induction h with
  | nil => rfl
  | cons x _ ih => simp [ih]
  | swap x y l => simp only [List.sum_cons]; omega
  | trans _ _ h1 h2 => rw [h1, h2]

theorem range_getD (l : List Int) : (List.range l.length).map (fun i => l.getD i 0) = l := by
  apply List.ext_getElem (by simp)
  intro i h1 h2
  simp [List.getD, h2]

/-- together they are the total -/
theorem share_sum (T : Int) (ws : List Int) (hs : 1 ≤ ws.sum) : (shareV T ws).sum = T := by
  have hb := left_bd T ws hs
  have hc : ((rss T ws).countP fun x => decide (0 < x)) ≤ ws.length := by
    refine Nat.le_trans List.countP_le_length ?_
    simp [rss]
  have e1 : shareV T ws = (List.range ws.length).map fun i => (pts T ws).getD i 0 + (fun i => if (cnt (rss T ws) i ws.length : Int) < leftV T ws then (1 : Int) else 0) i := rfl
  rw [e1, sum_map_add]
  have e2 : ((List.range ws.length).map fun i => (pts T ws).getD i 0) = pts T ws := by
    have := range_getD (pts T ws)
    rwa [show (pts T ws).length = ws.length by simp [pts]] at this
  have e3 : ((List.range ws.length).map fun i => if (cnt (rss T ws) i ws.length : Int) < leftV T ws then (1 : Int) else 0).sum = leftV T ws := by
    have hp := (cnt_perm (pts T ws) (rss T ws) ws.length).map (fun (c : Nat) => if (c : Int) < leftV T ws then (1 : Int) else 0)
    rw [List.map_map] at hp
    have := perm_sum hp
    rw [count_lt ws.length (leftV T ws) hb.1 (by omega)] at this
    exact this
  rw [e2, e3]
  unfold leftV; omega
theorem fin_at (T : Int) (ws : List Int) (i : Nat) (h : i < ws.length) : (shareV T ws).getD i 0 = finV T ws i := by simp [shareV, List.getD, h]
theorem fin_eq (T : Int) (ws : List Int) (i : Nat) (h : i < ws.length) : finV T ws i = ptV T ws.sum (ws.getD i 0) + if (cnt (rss T ws) i ws.length : Int) < leftV T ws then 1 else 0 := by
  unfold finV; rw [pts_at T ws i h]

/-- each is within one unit of its due -/
theorem fin_due (T : Int) (ws : List Int) (i : Nat) (h : i < ws.length) : ptV T ws.sum (ws.getD i 0) ≤ finV T ws i ∧ finV T ws i ≤ ptV T ws.sum (ws.getD i 0) + 1 := by
  rw [fin_eq T ws i h]
  split <;> omega

theorem cnt_mono (R : List Int) (n : Nat) (p q : Nat → Bool) (h : ∀ j, j < n → p j = true → q j = true) : (List.range n).countP p ≤ (List.range n).countP q :=
  List.countP_mono_left (fun j hj => h j (List.mem_range.1 hj))

/-- who has no rest is behind all that have one -/
theorem cnt_zero (R : List Int) (i : Nat) (hi : i < R.length) (h : R.getD i 0 = 0) : (R.countP fun x => decide (0 < x)) ≤ cnt R i R.length := by
  have e : (R.countP fun x => decide (0 < x)) = (List.range R.length).countP fun j => decide (0 < R.getD j 0) := by
    conv => lhs; rw [← range_getD R]
    rw [List.countP_map]; rfl
  rw [e]
  unfold cnt
  apply cnt_mono R
  intro j _ hj
  unfold moreB
  rw [h]
  rw [hj]; rfl

theorem fin_none (T : Int) (ws : List Int) (hs : 1 ≤ ws.sum) (i : Nat) (h : i < ws.length) (hw : ws.getD i 0 = 0) : finV T ws i = 0 := by
  have hb := left_bd T ws hs
  have hr : (rss T ws).getD i 0 = 0 := by rw [rss_at T ws i h, hw]; simp [rsV]
  have hc := cnt_zero (rss T ws) i (by rw [rss_len]; exact h) hr
  rw [rss_len] at hc
  rw [fin_eq T ws i h, hw, if_neg (by omega)]
  simp [ptV]

/-- the greater rest is ahead -/
theorem cnt_less (R : List Int) (n i j : Nat) (hi : i < n) (h : R.getD j 0 < R.getD i 0) : cnt R i n < cnt R j n := by
  have h1 : cnt R i n + 1 ≤ cnt R j n := by
    unfold cnt
    have e : (List.range n).countP (fun q => moreB R q i) + 1 ≤ (List.range n).countP (fun q => moreB R q i || decide (q = i)) := by
      have h2 : (List.range n).countP (fun q => moreB R q i || decide (q = i)) = (List.range n).countP (fun q => moreB R q i) + (List.range n).countP (fun q => decide (q = i)) := by
        generalize hr : List.range n = l
        clear hr
        induction l with
        | nil => simp
        | cons a l ih =>
          rw [List.countP_cons, List.countP_cons, List.countP_cons, ih]
          by_cases ha : a = i
          · subst ha; simp [more_irr]; omega
          · simp [ha]; omega
      rw [h2]
      have : 0 < (List.range n).countP (fun q => decide (q = i)) := List.countP_pos_iff.2 ⟨i, List.mem_range.2 hi, by simp⟩
      omega
    refine Nat.le_trans e ?_
    apply cnt_mono R
    intro q _ hq
    unfold moreB at *
    simp only [Bool.or_eq_true, Bool.and_eq_true, decide_eq_true_eq, beq_iff_eq] at *
    rcases hq with (hq | hq) | rfl
    · left; omega
    · left; omega
    · left; exact h
  omega

theorem fin_mono (T : Int) (ws : List Int) (hs : 1 ≤ ws.sum) (hT : 0 ≤ T) (i j : Nat) (hi : i < ws.length) (hj : j < ws.length) (h0 : 0 ≤ ws.getD j 0) (h : ws.getD j 0 < ws.getD i 0) : finV T ws j ≤ finV T ws i := by
  have p1 := pt_rs T ws.sum (ws.getD i 0) hs
  have p2 := pt_rs T ws.sum (ws.getD j 0) hs
  have r1 := rs_bd T ws.sum (ws.getD i 0) hs
  have r2 := rs_bd T ws.sum (ws.getD j 0) hs
  have hle : T * ws.getD j 0 ≤ T * ws.getD i 0 := Int.mul_le_mul_of_nonneg_left (by omega) hT
  have d1 := fin_due T ws i hi
  have d2 := fin_due T ws j hj
  have hpt : ptV T ws.sum (ws.getD j 0) ≤ ptV T ws.sum (ws.getD i 0) := by
    rcases (by omega : ptV T ws.sum (ws.getD i 0) < ptV T ws.sum (ws.getD j 0) ∨ ptV T ws.sum (ws.getD j 0) ≤ ptV T ws.sum (ws.getD i 0)) with hl | hl
    · have h3 : ws.sum * (ptV T ws.sum (ws.getD i 0) + 1) ≤ ws.sum * ptV T ws.sum (ws.getD j 0) := Int.mul_le_mul_of_nonneg_left (by omega) (by omega)
      rw [Int.mul_add] at h3
      omega
    · exact hl
  rcases (by omega : ptV T ws.sum (ws.getD j 0) < ptV T ws.sum (ws.getD i 0) ∨ ptV T ws.sum (ws.getD j 0) = ptV T ws.sum (ws.getD i 0)) with hl | hl
  · omega
  · rw [fin_eq T ws i hi, fin_eq T ws j hj, hl]
    by_cases hT0 : T = 0
    · have hz : leftV T ws = 0 := by
        have h1 := left_rs T ws hs
        have h2 : (rss T ws).sum = 0 := by
          subst hT0
          unfold rss
          have : ∀ l : List Int, (l.map (rsV 0 ws.sum)).sum = 0 := by
            intro l
            induction l with
            | nil => simp
            | cons a l ih => simp only [List.map_cons, List.sum_cons, ih]; simp [rsV]
          exact this ws
        rw [h2] at h1
        rcases Int.mul_eq_zero.1 h1 with h | h
        · omega
        · exact h
      rw [hz, if_neg (by omega), if_neg (by omega)]
      omega
    · have h4 : T * ws.getD j 0 < T * ws.getD i 0 := Int.mul_lt_mul_of_pos_left h (by omega)
      rw [hl] at p2
      have hr : (rss T ws).getD j 0 < (rss T ws).getD i 0 := by rw [rss_at T ws i hi, rss_at T ws j hj]; omega
      have hc := cnt_less (rss T ws) ws.length i j hi hr
      split <;> split <;> omega

/-- twice the weights -/
def dbl (ws : List Int) : List Int := ws.map fun x => 2 * x
theorem dbl_sum (ws : List Int) : (dbl ws).sum = 2 * ws.sum := by
  unfold dbl
  induction ws with
  | nil => simp
  | cons a l ih => simp only [List.map_cons, List.sum_cons, ih]; omega

theorem pt_dbl (T S x : Int) (hs : 1 ≤ S) : ptV T (2 * S) (2 * x) = ptV T S x ∧ rsV T (2 * S) (2 * x) = 2 * rsV T S x := by
  have p1 := pt_rs T S x hs
  have p2 := pt_rs T (2 * S) (2 * x) (by omega)
  have r1 := rs_bd T S x hs
  have r2 := rs_bd T (2 * S) (2 * x) (by omega)
  have e1 : T * (2 * x) = 2 * (T * x) := by rw [← Int.mul_assoc, Int.mul_comm T 2, Int.mul_assoc]
  have e2 : 2 * S * ptV T (2 * S) (2 * x) = 2 * (S * ptV T (2 * S) (2 * x)) := Int.mul_assoc _ _ _
  rw [e1, e2] at p2
  have hpt : ptV T (2 * S) (2 * x) = ptV T S x := by
    rcases (by omega : ptV T (2 * S) (2 * x) < ptV T S x ∨ ptV T S x < ptV T (2 * S) (2 * x) ∨ ptV T (2 * S) (2 * x) = ptV T S x) with hl | hl | hl
    · have h3 : S * (ptV T (2 * S) (2 * x) + 1) ≤ S * ptV T S x := Int.mul_le_mul_of_nonneg_left (by omega) (by omega)
      rw [Int.mul_add] at h3
      omega
    · have h3 : S * (ptV T S x + 1) ≤ S * ptV T (2 * S) (2 * x) := Int.mul_le_mul_of_nonneg_left (by omega) (by omega)
      rw [Int.mul_add] at h3
      omega
    · exact hl
  refine ⟨hpt, ?_⟩
  rw [hpt] at p2
  omega

theorem share_dbl (T : Int) (ws : List Int) (hs : 1 ≤ ws.sum) : shareV T (dbl ws) = shareV T ws := by
  have hl : (dbl ws).length = ws.length := by simp [dbl]
  have e1 : pts T (dbl ws) = pts T ws := by
    unfold pts
    rw [dbl_sum]
    unfold dbl
    rw [List.map_map]
    apply List.map_congr_left
    intro x _
    exact (pt_dbl T ws.sum x hs).1
  have e2 : rss T (dbl ws) = (rss T ws).map fun x => 2 * x := by
    unfold rss
    rw [dbl_sum]
    unfold dbl
    rw [List.map_map, List.map_map]
    apply List.map_congr_left
    intro x _
    exact (pt_dbl T ws.sum x hs).2
  have e3 : ∀ i, i < ws.length → cnt (rss T (dbl ws)) i ws.length = cnt (rss T ws) i ws.length := by
    intro i hi
    unfold cnt
    apply List.countP_congr
    intro j hj
    have hj' := List.mem_range.1 hj
    rw [e2]
    have g : ∀ k, k < ws.length → ((rss T ws).map fun x => 2 * x).getD k 0 = 2 * (rss T ws).getD k 0 := by
      intro k hk
      have : k < (rss T ws).length := by rw [rss_len]; exact hk
      simp [List.getD, this]
    unfold moreB
    rw [g i hi, g j hj']
    simp only [Bool.or_eq_true, Bool.and_eq_true, decide_eq_true_eq, beq_iff_eq]
    omega
  unfold shareV
  rw [hl]
  apply List.map_congr_left
  intro i hi
  have hi' := List.mem_range.1 hi
  unfold finV leftV
  rw [hl, e1, e3 i hi']
end Go.Proofs.Ythhkjbhkginecaa.Share
