/-
  Plain arithmetic of amounts: what the functions of chapter 1 answer, as functions on whole numbers; no program in it.
-/
namespace Go.Proofs.YtpamdnkngedmaaaDoor.Coin
set_option linter.unusedVariables false

def okB (n : Int) : Bool := decide (-1000000000000000 ≤ n ∧ n ≤ 1000000000000000)
theorem okB_true {n : Int} (h : -1000000000000000 ≤ n ∧ n ≤ 1000000000000000) : okB n = true := by simp [okB, h]
theorem okB_false {n : Int} (h : ¬ (-1000000000000000 ≤ n ∧ n ≤ 1000000000000000)) : okB n = false := by simp only [okB, decide_eq_false_iff_not]; exact h
theorem okB_iff {n : Int} : okB n = true ↔ -1000000000000000 ≤ n ∧ n ≤ 1000000000000000 := by simp [okB]

/-- the number without its sign -/
def sz (a : Int) : Int := if a < 0 then -a else a
theorem sz_neg {a : Int} (h : a < 0) : sz a = -a := by simp [sz, h]
theorem sz_pos {a : Int} (h : 0 ≤ a) : sz a = a := by simp only [sz]; rw [if_neg (by omega)]
theorem sz_nonneg (a : Int) : 0 ≤ sz a := by unfold sz; split <;> omega

/-- is the product of two amounts an amount? -/
def fitB (a b : Int) : Bool := okB a && okB b && decide (sz a * sz b ≤ 1000000000000000)

theorem sz_mul_le {a b : Int} (h : sz a * sz b ≤ 1000000000000000) : -1000000000000000 ≤ a * b ∧ a * b ≤ 1000000000000000 := by
  unfold sz at h
  split at h <;> split at h
  · rw [Int.neg_mul_neg] at h; have : 0 ≤ a * b := Int.mul_nonneg_of_nonpos_of_nonpos (by omega) (by omega); omega
  · rw [Int.neg_mul] at h; have : a * b ≤ 0 := Int.mul_nonpos_of_nonpos_of_nonneg (by omega) (by omega); omega
  · rw [Int.mul_neg] at h; have : a * b ≤ 0 := Int.mul_nonpos_of_nonneg_of_nonpos (by omega) (by omega); omega
  · have : 0 ≤ a * b := Int.mul_nonneg (by omega) (by omega); omega

theorem div_test {x y : Int} (hx : 1 ≤ x) (hy : 0 ≤ y) : 1000000000000000 / x < y ↔ ¬ x * y ≤ 1000000000000000 := by
  rw [Int.ediv_lt_iff_lt_mul (by omega), Int.mul_comm y x]; omega

theorem fit_zero {b : Int} (hb : okB b = true) : fitB 0 b = true := by
  unfold fitB; rw [hb]; simp [okB, sz]
theorem fit_comm (a b : Int) : fitB a b = fitB b a := by
  unfold fitB; rw [Int.mul_comm (sz a), Bool.and_comm (okB a)]
theorem fit_yes {a b : Int} (ha : okB a = true) (hb : okB b = true) (h0 : a ≠ 0) (h : ¬ 1000000000000000 / sz a < sz b) : fitB a b = true := by
  have h1 : 1 ≤ sz a := by unfold sz; split <;> omega
  rw [div_test h1 (sz_nonneg b)] at h
  unfold fitB; rw [ha, hb]; simp; omega
theorem fit_no {a b : Int} (h0 : a ≠ 0) (h : 1000000000000000 / sz a < sz b) : fitB a b = false := by
  have h1 : 1 ≤ sz a := by unfold sz; split <;> omega
  rw [div_test h1 (sz_nonneg b)] at h
  unfold fitB; simp; intros; omega
theorem fit_ok {a b : Int} (h : fitB a b = true) : okB a = true ∧ okB b = true ∧ -1000000000000000 ≤ a * b ∧ a * b ≤ 1000000000000000 := by
  unfold fitB at h; simp only [Bool.and_eq_true, decide_eq_true_eq] at h
  exact ⟨h.1.1, h.1.2, sz_mul_le h.2⟩

/-- what CoinTimes answers -/
def timesV (a b : Int) : Int := if fitB a b = true then a * b else 0
theorem timesV_yes {a b : Int} (h : fitB a b = true) : timesV a b = a * b := by simp [timesV, h]
theorem timesV_no {a b : Int} (h : fitB a b = false) : timesV a b = 0 := by simp [timesV, h]

/-- rounded to the nearest, to the even one of two that are as near -/
def rndE (q r d : Int) : Int := if d < 2 * r ∨ (2 * r = d ∧ q % 2 ≠ 0) then q + 1 else q
theorem rndE_up {q r d : Int} (h : d < 2 * r) : rndE q r d = q + 1 := by simp [rndE, h]
theorem rndE_tie {q r d : Int} (h : 2 * r = d) (h' : q % 2 ≠ 0) : rndE q r d = q + 1 := by simp [rndE, h, h']
theorem rndE_even {q r d : Int} (h : 2 * r = d) (h' : q % 2 = 0) : rndE q r d = q := by
  unfold rndE; rw [if_neg]; rintro (h1 | h1)
  · omega
  · omega
theorem rndE_low {q r d : Int} (h : 2 * r < d) : rndE q r d = q := by
  unfold rndE; rw [if_neg]; rintro (h1 | h1) <;> omega
theorem rndE_bd (q r d : Int) : q ≤ rndE q r d ∧ rndE q r d ≤ q + 1 := by unfold rndE; split <;> omega

/-- the whole part and the rest of x times n divided by d, x not below 0 -/
def quoD (x n d : Int) : Int := x / d * n + x % d * n / d
def remD (x n d : Int) : Int := x % d * n % d

theorem prodBd {x n d : Int} (hn : 0 ≤ n) (hn' : n ≤ 1000000) (hd : 1 ≤ d) (hd' : d ≤ 16000000) : 0 ≤ x % d * n ∧ x % d * n ≤ 16000000000000 := by
  have h1 : 0 ≤ x % d := Int.emod_nonneg _ (by omega)
  have h2 : x % d < d := Int.emod_lt_of_pos _ (by omega)
  refine ⟨Int.mul_nonneg h1 hn, ?_⟩
  have h3 : x % d * n ≤ 16000000 * 1000000 := Int.mul_le_mul (by omega) hn' hn (by omega)
  omega
theorem divBd {y d : Int} (h : 0 ≤ y) (hd : 1 ≤ d) : 0 ≤ y / d ∧ y / d ≤ y ∧ 0 ≤ y % d ∧ y % d < d := by
  refine ⟨Int.ediv_nonneg h (by omega), ?_, Int.emod_nonneg _ (by omega), Int.emod_lt_of_pos _ (by omega)⟩
  exact Int.ediv_le_self _ h

/-- the sum of two amounts, where it is told -/
def addB (a b : Int) : Bool := okB a && okB b && okB (a + b)
def addV (a b : Int) : Int := if addB a b = true then a + b else 0

/-- what CoinPart answers: is it told, and what -/
def partB (a n d : Int) : Bool := okB a && decide (0 ≤ n ∧ n ≤ 1000000 ∧ 1 ≤ d ∧ d ≤ 1000000) && fitB (sz a / d) n && okB (rndE (sz a / d * n + sz a % d * n / d) (sz a % d * n % d) d)
def partV (a n d : Int) : Int := if partB a n d = true then (if a < 0 then -(rndE (sz a / d * n + sz a % d * n / d) (sz a % d * n % d) d) else rndE (sz a / d * n + sz a % d * n / d) (sz a % d * n % d) d) else 0

theorem okB_neg (n : Int) : okB (-n) = okB n := by unfold okB; congr 1; apply propext; omega
theorem sz_neg' (a : Int) : sz (-a) = sz a := by unfold sz; split <;> split <;> omega
theorem partB_neg (a n d : Int) : partB (-a) n d = partB a n d := by unfold partB; rw [okB_neg, sz_neg']
theorem partB_iff {a n d : Int} (h : partB a n d = true) : okB a = true ∧ 0 ≤ n ∧ n ≤ 1000000 ∧ 1 ≤ d ∧ d ≤ 1000000 ∧ fitB (sz a / d) n = true ∧ okB (rndE (sz a / d * n + sz a % d * n / d) (sz a % d * n % d) d) = true := by
  unfold partB at h
  simp only [Bool.and_eq_true, decide_eq_true_eq] at h
  exact ⟨h.1.1.1, h.1.1.2.1, h.1.1.2.2.1, h.1.1.2.2.2.1, h.1.1.2.2.2.2, h.1.2, h.2⟩
theorem partV_neg (a n d : Int) : partV (-a) n d = -(partV a n d) := by
  unfold partV; rw [partB_neg, sz_neg']
  cases hB : partB a n d
  · simp
  · have hd := (partB_iff hB).2.2.2.1
    simp only [if_true]
    by_cases h : a = 0
    · subst h
      simp [sz]
      unfold rndE
      simp; omega
    · by_cases h1 : a < 0
      · rw [if_neg (by omega), if_pos h1, Int.neg_neg]
      · rw [if_pos (by omega), if_neg h1]

theorem part_bd (a n d : Int) : -1000000000000000 ≤ partV a n d ∧ partV a n d ≤ 1000000000000000 := by
  unfold partV
  cases hB : partB a n d
  · simp
  · have hp := okB_iff.1 (partB_iff hB).2.2.2.2.2.2
    simp only [if_true]
    split <;> omega

/-- all of an amount is the amount -/
theorem part_all {a : Int} (h : okB a = true) : partB a 10000 10000 = true ∧ partV a 10000 10000 = a := by
  have hb := okB_iff.1 h
  have hs : 0 ≤ sz a ∧ sz a ≤ 1000000000000000 := by unfold sz; split <;> omega
  have e1 : sz a / 10000 * 10000 + sz a % 10000 * 10000 / 10000 = sz a := by omega
  have e2 : sz a % 10000 * 10000 % 10000 = 0 := by omega
  have e3 : rndE (sz a) 0 10000 = sz a := rndE_low (by omega)
  have e4 : fitB (sz a / 10000) 10000 = true := by
    have h1 : okB (sz a / 10000) = true := okB_true (by omega)
    have h2 : okB 10000 = true := okB_true (by omega)
    have h3 : sz (sz a / 10000) = sz a / 10000 := sz_pos (by omega)
    have h4 : sz (10000 : Int) = 10000 := sz_pos (by omega)
    unfold fitB; rw [h1, h2, h3, h4]
    simp; omega
  have e5 : okB (sz a) = true := okB_true (by omega)
  have e6 : decide ((0 : Int) ≤ 10000 ∧ (10000 : Int) ≤ 1000000 ∧ (1 : Int) ≤ 10000 ∧ (10000 : Int) ≤ 1000000) = true := by decide
  have e : partB a 10000 10000 = true := by unfold partB; rw [e1, e2, e3, e4, e5, e6, h]; rfl
  refine ⟨e, ?_⟩
  unfold partV; rw [if_pos e, e1, e2, e3]
  unfold sz; split <;> omega

/-- x times n, in wholes and rest -/
theorem quo_rem (x n d : Int) : x * n = (x / d * n + x % d * n / d) * d + x % d * n % d := by
  have h1 := Int.emod_add_mul_ediv x d
  have h2 := Int.emod_add_mul_ediv (x % d * n) d
  have h3 : x * n = x % d * n + d * (x / d) * n := by rw [← Int.add_mul, h1]
  rw [h3, Int.add_mul]
  have h4 : d * (x / d) * n = x / d * n * d := by rw [Int.mul_assoc, Int.mul_comm d]
  have h5 : d * (x % d * n / d) = x % d * n / d * d := Int.mul_comm _ _
  omega

/-- what is rounded is at most half a unit off, and even if it is just half -/
theorem rnd_off {q r d : Int} (h1 : 0 ≤ r) (h2 : r < d) : -d ≤ 2 * (q * d + r - rndE q r d * d) ∧ 2 * (q * d + r - rndE q r d * d) ≤ d ∧ (2 * (q * d + r - rndE q r d * d) = d → rndE q r d % 2 = 0) ∧ (2 * (q * d + r - rndE q r d * d) = -d → rndE q r d % 2 = 0) := by
  by_cases c1 : d < 2 * r
  · rw [rndE_up c1, Int.add_mul]; omega
  · by_cases c2 : 2 * r = d
    · by_cases c3 : q % 2 = 0
      · rw [rndE_even c2 c3]; omega
      · rw [rndE_tie c2 c3, Int.add_mul]; omega
    · rw [rndE_low (by omega)]; omega

theorem mul_bd {a n : Int} (h1 : -1000000000 ≤ a) (h2 : a ≤ 1000000000) (h3 : 0 ≤ n) (h4 : n ≤ 1000000) : a * n ≤ 1000000000000000 ∧ -1000000000000000 ≤ a * n := by
  by_cases h : 0 ≤ a
  · have e1 : a * n ≤ 1000000000 * 1000000 := Int.mul_le_mul h2 h4 h3 (by omega)
    have e2 : 0 ≤ a * n := Int.mul_nonneg h h3
    omega
  · have e1 : -a * n ≤ 1000000000 * 1000000 := Int.mul_le_mul (by omega) h4 h3 (by omega)
    have e2 : 0 ≤ -a * n := Int.mul_nonneg (by omega) h3
    rw [Int.neg_mul] at e1 e2
    omega
theorem tmod2 {x : Int} (h : x % 2 = 0) : x.tmod 2 = 0 := by
  obtain ⟨k, rfl⟩ : ∃ k, x = 2 * k := ⟨x / 2, by omega⟩
  exact Int.mul_tmod_right 2 k

theorem part_off {a n d : Int} (h : partB a n d = true) : -d ≤ 2 * (a * n - partV a n d * d) ∧ 2 * (a * n - partV a n d * d) ≤ d ∧ (2 * (a * n - partV a n d * d) = d → (partV a n d).tmod 2 = 0) ∧ (2 * (a * n - partV a n d * d) = -d → (partV a n d).tmod 2 = 0) := by
  obtain ⟨ha, hn, hn', hd, hd', hf, hp⟩ := partB_iff h
  have r1 : 0 ≤ sz a % d * n % d := Int.emod_nonneg _ (by omega)
  have r2 : sz a % d * n % d < d := Int.emod_lt_of_pos _ (by omega)
  have hq := quo_rem (sz a) n d
  obtain ⟨o1, o2, o3, o4⟩ := rnd_off (q := sz a / d * n + sz a % d * n / d) r1 r2
  rw [← hq] at o1 o2 o3 o4
  unfold partV; rw [if_pos h]
  generalize rndE (sz a / d * n + sz a % d * n / d) (sz a % d * n % d) d = y at *
  by_cases hs : a < 0
  · rw [if_pos hs]
    rw [sz_neg hs, Int.neg_mul] at o1 o2 o3 o4
    rw [Int.neg_mul]
    refine ⟨by omega, by omega, fun e => tmod2 ?_, fun e => tmod2 ?_⟩
    · have := o4 (by omega); omega
    · have := o3 (by omega); omega
  · rw [if_neg hs]
    rw [sz_pos (by omega)] at o1 o2 o3 o4
    exact ⟨o1, o2, fun e => tmod2 (o3 e), fun e => tmod2 (o4 e)⟩

/-- a part of a sum is within one unit of the parts together -/
theorem part_sum {a b n d : Int} (hs : partB (a + b) n d = true) (ha : partB a n d = true) (hb : partB b n d = true) : -1 ≤ partV (a + b) n d - partV a n d - partV b n d ∧ partV (a + b) n d - partV a n d - partV b n d ≤ 1 := by
  have hd := (partB_iff hs).2.2.2.1
  obtain ⟨s1, s2, _, _⟩ := part_off hs
  obtain ⟨a1, a2, _, _⟩ := part_off ha
  obtain ⟨b1, b2, _, _⟩ := part_off hb
  rw [Int.add_mul] at s1 s2
  have e : (partV (a + b) n d - partV a n d - partV b n d) * d = partV (a + b) n d * d - partV a n d * d - partV b n d * d := by rw [Int.sub_mul, Int.sub_mul]
  generalize partV (a + b) n d - partV a n d - partV b n d = k at *
  constructor
  · refine Int.le_of_not_gt fun h => ?_
    have : k * d ≤ -2 * d := Int.mul_le_mul_of_nonneg_right (by omega) (by omega)
    omega
  · refine Int.le_of_not_gt fun h => ?_
    have : 2 * d ≤ k * d := Int.mul_le_mul_of_nonneg_right (by omega) (by omega)
    omega
theorem addV_yes {a b : Int} (h : addB a b = true) : addV a b = a + b := by simp [addV, h]
theorem addV_no {a b : Int} (h : addB a b = false) : addV a b = 0 := by simp [addV, h]
end Go.Proofs.YtpamdnkngedmaaaDoor.Coin
