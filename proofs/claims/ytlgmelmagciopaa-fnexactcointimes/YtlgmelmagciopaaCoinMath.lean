/-
  Plain arithmetic of amounts: what the functions of chapter 1 answer, as functions on whole numbers; no program in it.
-/
namespace Go.Proofs.Ytlgmelmagciopaa.Coin
set_option linter.unusedVariables false

def okB (n : Int) : Bool := decide (-1000000000000000 ≤ n ∧ n ≤ 1000000000000000)
theorem okB_true {n : Int} (h : -1000000000000000 ≤ n ∧ n ≤ 1000000000000000) : okB n = true := by simp [okB, h]
theorem okB_false {n : Int} (h : ¬ (-1000000000000000 ≤ n ∧ n ≤ 1000000000000000)) : okB n = false := by simp only [okB, decide_eq_false_iff_not]; exact h
theorem okB_iff {n : Int} : okB n = true ↔ -1000000000000000 ≤ n ∧ n ≤ 1000000000000000 := by simp [okB]

/-- the number without its sign -/
def sz (a : Int) : Int := if a < 0 then -a else a
theorem sz_neg {a : Int} (h : a < 0) : sz a = -a := by simp [sz, h]
theorem sz_pos {a : Int} (h : 0 ≤ a) : sz a = a := by simp only [sz]; rw [if_neg (by omega)]
theorem sz_nonneg (a : Int) : 0 ≤ sz a := by unfold sz; split <;> omega

/-- is the product of two amounts an amount? -/
def fitB (a b : Int) : Bool := okB a && okB b && decide (sz a * sz b ≤ 1000000000000000)

theorem sz_mul_le {a b : Int} (h : sz a * sz b ≤ 1000000000000000) : -1000000000000000 ≤ a * b ∧ a * b ≤ 1000000000000000 := by
  unfold sz at h
  split at h <;> split at h
  · rw [Int.neg_mul_neg] at h; have : 0 ≤ a * b := Int.mul_nonneg_of_nonpos_of_nonpos (by omega) (by omega); omega
  · rw [Int.neg_mul] at h; have : a * b ≤ 0 := Int.mul_nonpos_of_nonpos_of_nonneg (by omega) (by omega); omega
  · rw [Int.mul_neg] at h; have : a * b ≤ 0 := Int.mul_nonpos_of_nonneg_of_nonpos (by omega) (by omega); omega
  · have : 0 ≤ a * b := Int.mul_nonneg (by omega) (by omega); omega

theorem div_test {x y : Int} (hx : 1 ≤ x) (hy : 0 ≤ y) : 1000000000000000 / x < y ↔ ¬ x * y ≤ 1000000000000000 := by
  rw [Int.ediv_lt_iff_lt_mul (by omega), Int.mul_comm y x]; omega

theorem fit_zero {b : Int} (hb : okB b = true) : fitB 0 b = true := by
  unfold fitB; rw [hb]; simp [okB, sz]
theorem fit_comm (a b : Int) : fitB a b = fitB b a := by
  unfold fitB; rw [Int.mul_comm (sz a), Bool.and_comm (okB a)]
theorem fit_yes {a b : Int} (ha : okB a = true) (hb : okB b = true) (h0 : a ≠ 0) (h : ¬ 1000000000000000 / sz a < sz b) : fitB a b = true := by
  have h1 : 1 ≤ sz a := by unfold sz; split <;> omega
  rw [div_test h1 (sz_nonneg b)] at h
  unfold fitB; rw [ha, hb]; simp; omega
theorem fit_no {a b : Int} (h0 : a ≠ 0) (h : 1000000000000000 / sz a < sz b) : fitB a b = false := by
  have h1 : 1 ≤ sz a := by unfold sz; split <;> omega
  rw [div_test h1 (sz_nonneg b)] at h
  unfold fitB; simp; intros; omega
theorem fit_ok {a b : Int} (h : fitB a b = true) : okB a = true ∧ okB b = true ∧ -1000000000000000 ≤ a * b ∧ a * b ≤ 1000000000000000 := by
  unfold fitB at h; simp only [Bool.and_eq_true, decide_eq_true_eq] at h
  exact ⟨h.1.1, h.1.2, sz_mul_le h.2⟩

/-- what CoinTimes answers -/
def timesV (a b : Int) : Int := if fitB a b = true then a * b else 0
theorem timesV_yes {a b : Int} (h : fitB a b = true) : timesV a b = a * b := by simp [timesV, h]
theorem timesV_no {a b : Int} (h : fitB a b = false) : timesV a b = 0 := by simp [timesV, h]

/-- rounded to the nearest, to the even one of two that are as near -/
def rndE (q r d : Int) : Int := if d < 2 * r ∨ (2 * r = d ∧ q % 2 ≠ 0) then q + 1 else q
theorem rndE_up {q r d : Int} (h : d < 2 * r) : rndE q r d = q + 1 := by simp [rndE, h]
theorem rndE_tie {q r d : Int} (h : 2 * r = d) (h' : q % 2 ≠ 0) : rndE q r d = q + 1 := by simp [rndE, h, h']
theorem rndE_even {q r d : Int} (h : 2 * r = d) (h' : q % 2 = 0) : rndE q r d = q := by
  unfold rndE; rw [if_neg]; rintro (h1 | h1)
  · omega
  · omega
theorem rndE_low {q r d : Int} (h : 2 * r < d) : rndE q r d = q := by
  unfold rndE; rw [if_neg]; rintro (h1 | h1) <;> omega
theorem rndE_bd (q r d : Int) : q ≤ rndE q r d ∧ rndE q r d ≤ q + 1 := by unfold rndE; split <;> omega

/-- the whole part and the rest of x times n divided by d, x not below 0 -/
def quoD (x n d : Int) : Int := x / d * n + x % d * n / d
def remD (x n d : Int) : Int := x % d * n % d

theorem prodBd {x n d : Int} (hn : 0 ≤ n) (hn' : n ≤ 1000000) (hd : 1 ≤ d) (hd' : d ≤ 16000000) : 0 ≤ x % d * n ∧ x % d * n ≤ 16000000000000 := by
  have h1 : 0 ≤ x % d := Int.emod_nonneg _ (by omega)
  have h2 : x % d < d := Int.emod_lt_of_pos _ (by omega)
  refine ⟨Int.mul_nonneg h1 hn, ?_⟩
  have h3 : x % d * n ≤ 16000000 * 1000000 := Int.mul_le_mul (by omega) hn' hn (by omega)
  omega
theorem divBd {y d : Int} (h : 0 ≤ y) (hd : 1 ≤ d) : 0 ≤ y / d ∧ y / d ≤ y ∧ 0 ≤ y % d ∧ y % d < d := by
  refine ⟨Int.ediv_nonneg h (by omega), ?_, Int.emod_nonneg _ (by omega), Int.emod_lt_of_pos _ (by omega)⟩
  exact Int.ediv_le_self _ h
end Go.Proofs.Ytlgmelmagciopaa.Coin
