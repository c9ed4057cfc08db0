/-
  Texts of this proof laid together, in build order; each says of itself what it holds.
-/
import Derived.Test.YtnchgeiinkaefaaGreatDoorProg
import Derived.WalkKit
import Derived.WalkLawsBesides
import Derived.Below
import Derived.Laws.IdiomStrings
import Derived.Lib.ItoaNum
import Derived.Lib.ItoaMem
import Derived.Shelf.Strings.Builder1
import Derived.Shelf.Strings.Builder2
import Derived.Shelf.Strings.OnBuilder
import Derived.Shelf.Small.Utf8
import Derived.Shelf.Small.Bits
import Derived.Shelf.Small.Strs
import Derived.Shelf.Small.Wraps
import Derived.Shelf.Strconv.Atoi
import Derived.Shelf.Strconv.Itoa0
import Derived.Shelf.Strconv.Itoa1
import Derived.Shelf.LaysM
import Derived.Shelf.Strconv.Itoa2
import Derived.Shelf.Strconv.Itoa3
import Derived.Shelf.Strconv.AtoiErrFast
import Derived.Shelf.Strconv.ParseIntEmpty
import Derived.Shelf.Strconv.AtoiFail
import Derived.Shelf.Strconv.Clone
import Derived.Shelf.Strconv.SyntaxError
import Derived.Shelf.LaysC
import Derived.Shelf.Strconv.ToError
import Derived.Shelf.Strconv.Lower
import Derived.Shelf.Strconv.ParseUint10
import Derived.Shelf.Strconv.ParseUint10Empty
import Derived.Shelf.Strconv.ParseUint10Any
import Derived.Shelf.Strconv.ParseInt10
import Derived.Shelf.Strconv.AtoiLong
import Derived.Shelf.Strconv.AtoiInnerAll
import Derived.Shelf.Strconv.RangeError
import Derived.Shelf.Strconv.ToErrorRange
import Derived.Shelf.Strconv.AtoiAll
import Derived.Shelf.Strconv.ErrVarAll
import Derived.Shelf.Strings.Search1
import Derived.Shelf.Strings.Search2
import Derived.Shelf.Strings.Cut
import Derived.Shelf.Strings.Shaped
import Derived.Shelf.Strings.Prefix
import Derived.Shelf.Strings.Fields
import Derived.Shelf.Unicode.Latin
import Derived.Shelf.Strings.Runes
import Derived.Shelf.Strings.IndexAny
import Derived.Shelf.Strings.AsciiSet
import Derived.Shelf.Strings.IndexAnyAll
import Derived.Shelf.Unicode.Is16White
import Derived.Shelf.Unicode.IsSpaceAny
import Derived.Shelf.Unicode.Is16WhiteD
import Derived.Shelf.Unicode.IsSpaceAnyD
import Derived.Shelf.Strings.FieldsAny
import Derived.Shelf.Strings.FieldsFuncAny
import Derived.Shelf.Unicode.Is16Any
import Derived.Shelf.Unicode.Is32Any
import Derived.Shelf.Unicode.ExclAny
import Derived.Ground.SlgmProg
import Derived.Shelf.SortM.Plain
import Derived.Shelf.SortM.SortNone
import Derived.Lib.AppendIntMem
import Derived.Test.YtnchgeiinkaefaaGreatDoorRows
import Derived.Lib.LaidTab
import Derived.Stop.LaidErr
import Derived.Lib.AtoiTie
import Derived.Lib.AtoiAllCases
import Derived.Lib.IndexMore
section
/-
  Plain arithmetic of amounts: what the functions of chapter 1 answer, as functions on whole numbers; no program in it.
-/
namespace Go.Proofs.YtnchgeiinkaefaaGreatDoor.Coin
set_option linter.unusedVariables false

def okB (n : Int) : Bool := decide (-1000000000000000 ≤ n ∧ n ≤ 1000000000000000)
theorem okB_true {n : Int} (h : -1000000000000000 ≤ n ∧ n ≤ 1000000000000000) : okB n = true := by simp [okB, h]
theorem okB_false {n : Int} (h : ¬ (-1000000000000000 ≤ n ∧ n ≤ 1000000000000000)) : okB n = false := by simp only [okB, decide_eq_false_iff_not]; exact h
theorem okB_iff {n : Int} : okB n = true ↔ -1000000000000000 ≤ n ∧ n ≤ 1000000000000000 := by simp [okB]

/-- the number without its sign -/
def sz (a : Int) : Int := if a < 0 then -a else a
theorem sz_neg {a : Int} (h : a < 0) : sz a = -a := by simp [sz, h]
theorem sz_pos {a : Int} (h : 0 ≤ a) : sz a = a := by simp only [sz]; rw [if_neg (by omega)]
theorem sz_nonneg (a : Int) : 0 ≤ sz a := by unfold sz; split <;> omega

/-- is the product of two amounts an amount? -/
def fitB (a b : Int) : Bool := okB a && okB b && decide (sz a * sz b ≤ 1000000000000000)

theorem sz_mul_le {a b : Int} (h : sz a * sz b ≤ 1000000000000000) : -1000000000000000 ≤ a * b ∧ a * b ≤ 1000000000000000 := by
  unfold sz at h
  split at h <;> split at h
  · rw [Int.neg_mul_neg] at h; have : 0 ≤ a * b := Int.mul_nonneg_of_nonpos_of_nonpos (by omega) (by omega); omega
  · rw [Int.neg_mul] at h; have : a * b ≤ 0 := Int.mul_nonpos_of_nonpos_of_nonneg (by omega) (by omega); omega
  · rw [Int.mul_neg] at h; have : a * b ≤ 0 := Int.mul_nonpos_of_nonneg_of_nonpos (by omega) (by omega); omega
  · have : 0 ≤ a * b := Int.mul_nonneg (by omega) (by omega); omega

theorem div_test {x y : Int} (hx : 1 ≤ x) (hy : 0 ≤ y) : 1000000000000000 / x < y ↔ ¬ x * y ≤ 1000000000000000 := by
  rw [Int.ediv_lt_iff_lt_mul (by omega), Int.mul_comm y x]; omega

theorem fit_zero {b : Int} (hb : okB b = true) : fitB 0 b = true := by
  unfold fitB; rw [hb]; simp [okB, sz]
theorem fit_comm (a b : Int) : fitB a b = fitB b a := by
  unfold fitB; rw [Int.mul_comm (sz a), Bool.and_comm (okB a)]
theorem fit_yes {a b : Int} (ha : okB a = true) (hb : okB b = true) (h0 : a ≠ 0) (h : ¬ 1000000000000000 / sz a < sz b) : fitB a b = true := by
  have h1 : 1 ≤ sz a := by unfold sz; split <;> omega
  rw [div_test h1 (sz_nonneg b)] at h
  unfold fitB; rw [ha, hb]; simp; omega
theorem fit_no {a b : Int} (h0 : a ≠ 0) (h : 1000000000000000 / sz a < sz b) : fitB a b = false := by
  have h1 : 1 ≤ sz a := by unfold sz; split <;> omega
  rw [div_test h1 (sz_nonneg b)] at h
  unfold fitB; simp; intros; omega
theorem fit_ok {a b : Int} (h : fitB a b = true) : okB a = true ∧ okB b = true ∧ -1000000000000000 ≤ a * b ∧ a * b ≤ 1000000000000000 := by
  unfold fitB at h; simp only [Bool.and_eq_true, decide_eq_true_eq] at h
  exact ⟨h.1.1, h.1.2, sz_mul_le h.2⟩

/-- what CoinTimes answers -/
def timesV (a b : Int) : Int := if fitB a b = true then a * b else 0
theorem timesV_yes {a b : Int} (h : fitB a b = true) : timesV a b = a * b := by simp [timesV, h]
theorem timesV_no {a b : Int} (h : fitB a b = false) : timesV a b = 0 := by simp [timesV, h]

/-- rounded to the nearest, to the even one of two that are as near -/
def rndE (q r d : Int) : Int := if d < 2 * r ∨ (2 * r = d ∧ q % 2 ≠ 0) then q + 1 else q
theorem rndE_up {q r d : Int} (h : d < 2 * r) : rndE q r d = q + 1 := by simp [rndE, h]
theorem rndE_tie {q r d : Int} (h : 2 * r = d) (h' : q % 2 ≠ 0) : rndE q r d = q + 1 := by simp [rndE, h, h']
theorem rndE_even {q r d : Int} (h : 2 * r = d) (h' : q % 2 = 0) : rndE q r d = q := by
  unfold rndE; rw [if_neg]; rintro (h1 | h1)
  · omega
  · omega
theorem rndE_low {q r d : Int} (h : 2 * r < d) : rndE q r d = q := by
  unfold rndE; rw [if_neg]; rintro (h1 | h1) <;> omega
theorem rndE_bd (q r d : Int) : q ≤ rndE q r d ∧ rndE q r d ≤ q + 1 := by unfold rndE; split <;> omega

/-- the whole part and the rest of x times n divided by d, x not below 0 -/
def quoD (x n d : Int) : Int := x / d * n + x % d * n / d
def remD (x n d : Int) : Int := x % d * n % d

theorem prodBd {x n d : Int} (hn : 0 ≤ n) (hn' : n ≤ 1000000) (hd : 1 ≤ d) (hd' : d ≤ 16000000) : 0 ≤ x % d * n ∧ x % d * n ≤ 16000000000000 := by
  have h1 : 0 ≤ x % d := Int.emod_nonneg _ (by omega)
  have h2 : x % d < d := Int.emod_lt_of_pos _ (by omega)
  refine ⟨Int.mul_nonneg h1 hn, ?_⟩
  have h3 : x % d * n ≤ 16000000 * 1000000 := Int.mul_le_mul (by omega) hn' hn (by omega)
  omega
theorem divBd {y d : Int} (h : 0 ≤ y) (hd : 1 ≤ d) : 0 ≤ y / d ∧ y / d ≤ y ∧ 0 ≤ y % d ∧ y % d < d := by
  refine ⟨Int.ediv_nonneg h (by omega), ?_, Int.emod_nonneg _ (by omega), Int.emod_lt_of_pos _ (by omega)⟩
  exact Int.ediv_le_self _ h

/-- the sum of two amounts, where it is told -/
def addB (a b : Int) : Bool := okB a && okB b && okB (a + b)
def addV (a b : Int) : Int := if addB a b = true then a + b else 0

/-- what CoinPart answers: is it told, and what -/
def partB (a n d : Int) : Bool := okB a && decide (0 ≤ n ∧ n ≤ 1000000 ∧ 1 ≤ d ∧ d ≤ 1000000) && fitB (sz a / d) n && okB (rndE (sz a / d * n + sz a % d * n / d) (sz a % d * n % d) d)
def partV (a n d : Int) : Int := if partB a n d = true then (if a < 0 then -(rndE (sz a / d * n + sz a % d * n / d) (sz a % d * n % d) d) else rndE (sz a / d * n + sz a % d * n / d) (sz a % d * n % d) d) else 0

theorem okB_neg (n : Int) : okB (-n) = okB n := by unfold okB; congr 1; apply propext; omega
theorem sz_neg' (a : Int) : sz (-a) = sz a := by unfold sz; split <;> split <;> omega
theorem partB_neg (a n d : Int) : partB (-a) n d = partB a n d := by unfold partB; rw [okB_neg, sz_neg']
theorem partB_iff {a n d : Int} (h : partB a n d = true) : okB a = true ∧ 0 ≤ n ∧ n ≤ 1000000 ∧ 1 ≤ d ∧ d ≤ 1000000 ∧ fitB (sz a / d) n = true ∧ okB (rndE (sz a / d * n + sz a % d * n / d) (sz a % d * n % d) d) = true := by
  unfold partB at h
  simp only [Bool.and_eq_true, decide_eq_true_eq] at h
  exact ⟨h.1.1.1, h.1.1.2.1, h.1.1.2.2.1, h.1.1.2.2.2.1, h.1.1.2.2.2.2, h.1.2, h.2⟩
theorem partV_neg (a n d : Int) : partV (-a) n d = -(partV a n d) := by
  unfold partV; rw [partB_neg, sz_neg']
  cases hB : partB a n d
  · simp
  · have hd := (partB_iff hB).2.2.2.1
    simp only [if_true]
    by_cases h : a = 0
    · subst h
      simp [sz]
      unfold rndE
      simp; omega
    · by_cases h1 : a < 0
      · rw [if_neg (by omega), if_pos h1, Int.neg_neg]
      · rw [if_pos (by omega), if_neg h1]

theorem part_bd (a n d : Int) : -1000000000000000 ≤ partV a n d ∧ partV a n d ≤ 1000000000000000 := by
  unfold partV
  cases hB : partB a n d
  · simp
  · have hp := okB_iff.1 (partB_iff hB).2.2.2.2.2.2
    simp only [if_true]
    split <;> omega

/-- all of an amount is the amount -/
theorem part_all {a : Int} (h : okB a = true) : partB a 10000 10000 = true ∧ partV a 10000 10000 = a := by
  have hb := okB_iff.1 h
  have hs : 0 ≤ sz a ∧ sz a ≤ 1000000000000000 := by unfold sz; split <;> omega
  have e1 : sz a / 10000 * 10000 + sz a % 10000 * 10000 / 10000 = sz a := by omega
  have e2 : sz a % 10000 * 10000 % 10000 = 0 := by omega
  have e3 : rndE (sz a) 0 10000 = sz a := rndE_low (by omega)
  have e4 : fitB (sz a / 10000) 10000 = true := by
    have h1 : okB (sz a / 10000) = true := okB_true (by omega)
    have h2 : okB 10000 = true := okB_true (by omega)
    have h3 : sz (sz a / 10000) = sz a / 10000 := sz_pos (by omega)
    have h4 : sz (10000 : Int) = 10000 := sz_pos (by omega)
    unfold fitB; rw [h1, h2, h3, h4]
    simp; omega
  have e5 : okB (sz a) = true := okB_true (by omega)
  have e6 : decide ((0 : Int) ≤ 10000 ∧ (10000 : Int) ≤ 1000000 ∧ (1 : Int) ≤ 10000 ∧ (10000 : Int) ≤ 1000000) = true := by decide
  have e : partB a 10000 10000 = true := by unfold partB; rw [e1, e2, e3, e4, e5, e6, h]; rfl
  refine ⟨e, ?_⟩
  unfold partV; rw [if_pos e, e1, e2, e3]
  unfold sz; split <;> omega

/-- x times n, in wholes and rest -/
theorem quo_rem (x n d : Int) : x * n = (x / d * n + x % d * n / d) * d + x % d * n % d := by
  have h1 := Int.emod_add_mul_ediv x d
  have h2 := Int.emod_add_mul_ediv (x % d * n) d
  have h3 : x * n = x % d * n + d * (x / d) * n := by rw [← Int.add_mul, h1]
  rw [h3, Int.add_mul]
  have h4 : d * (x / d) * n = x / d * n * d := by rw [Int.mul_assoc, Int.mul_comm d]
  have h5 : d * (x % d * n / d) = x % d * n / d * d := Int.mul_comm _ _
  omega

/-- what is rounded is at most half a unit off, and even if it is just half -/
theorem rnd_off {q r d : Int} (h1 : 0 ≤ r) (h2 : r < d) : -d ≤ 2 * (q * d + r - rndE q r d * d) ∧ 2 * (q * d + r - rndE q r d * d) ≤ d ∧ (2 * (q * d + r - rndE q r d * d) = d → rndE q r d % 2 = 0) ∧ (2 * (q * d + r - rndE q r d * d) = -d → rndE q r d % 2 = 0) := by
  by_cases c1 : d < 2 * r
  · rw [rndE_up c1, Int.add_mul]; omega
  · by_cases c2 : 2 * r = d
    · by_cases c3 : q % 2 = 0
      · rw [rndE_even c2 c3]; omega
      · rw [rndE_tie c2 c3, Int.add_mul]; omega
    · rw [rndE_low (by omega)]; omega

theorem mul_bd {a n : Int} (h1 : -1000000000 ≤ a) (h2 : a ≤ 1000000000) (h3 : 0 ≤ n) (h4 : n ≤ 1000000) : a * n ≤ 1000000000000000 ∧ -1000000000000000 ≤ a * n := by
  by_cases h : 0 ≤ a
  · have e1 : a * n ≤ 1000000000 * 1000000 := Int.mul_le_mul h2 h4 h3 (by omega)
    have e2 : 0 ≤ a * n := Int.mul_nonneg h h3
    omega
  · have e1 : -a * n ≤ 1000000000 * 1000000 := Int.mul_le_mul (by omega) h4 h3 (by omega)
    have e2 : 0 ≤ -a * n := Int.mul_nonneg (by omega) h3
    rw [Int.neg_mul] at e1 e2
    omega
theorem tmod2 {x : Int} (h : x % 2 = 0) : x.tmod 2 = 0 := by
  obtain ⟨k, rfl⟩ : ∃ k, x = 2 * k := ⟨x / 2, by omega⟩
  exact Int.mul_tmod_right 2 k

theorem part_off {a n d : Int} (h : partB a n d = true) : -d ≤ 2 * (a * n - partV a n d * d) ∧ 2 * (a * n - partV a n d * d) ≤ d ∧ (2 * (a * n - partV a n d * d) = d → (partV a n d).tmod 2 = 0) ∧ (2 * (a * n - partV a n d * d) = -d → (partV a n d).tmod 2 = 0) := by
  obtain ⟨ha, hn, hn', hd, hd', hf, hp⟩ := partB_iff h
  have r1 : 0 ≤ sz a % d * n % d := Int.emod_nonneg _ (by omega)
  have r2 : sz a % d * n % d < d := Int.emod_lt_of_pos _ (by omega)
  have hq := quo_rem (sz a) n d
  obtain ⟨o1, o2, o3, o4⟩ := rnd_off (q := sz a / d * n + sz a % d * n / d) r1 r2
  rw [← hq] at o1 o2 o3 o4
  unfold partV; rw [if_pos h]
  generalize rndE (sz a / d * n + sz a % d * n / d) (sz a % d * n % d) d = y at *
  by_cases hs : a < 0
  · rw [if_pos hs]
    rw [sz_neg hs, Int.neg_mul] at o1 o2 o3 o4
    rw [Int.neg_mul]
    refine ⟨by omega, by omega, fun e => tmod2 ?_, fun e => tmod2 ?_⟩
    · have := o4 (by omega); omega
    · have := o3 (by omega); omega
  · rw [if_neg hs]
    rw [sz_pos (by omega)] at o1 o2 o3 o4
    exact ⟨o1, o2, fun e => tmod2 (o3 e), fun e => tmod2 (o4 e)⟩

/-- a part of a sum is within one unit of the parts together -/
theorem part_sum {a b n d : Int} (hs : partB (a + b) n d = true) (ha : partB a n d = true) (hb : partB b n d = true) : -1 ≤ partV (a + b) n d - partV a n d - partV b n d ∧ partV (a + b) n d - partV a n d - partV b n d ≤ 1 := by
  have hd := (partB_iff hs).2.2.2.1
  obtain ⟨s1, s2, _, _⟩ := part_off hs
  obtain ⟨a1, a2, _, _⟩ := part_off ha
  obtain ⟨b1, b2, _, _⟩ := part_off hb
  rw [Int.add_mul] at s1 s2
  have e : (partV (a + b) n d - partV a n d - partV b n d) * d = partV (a + b) n d * d - partV a n d * d - partV b n d * d := by rw [Int.sub_mul, Int.sub_mul]
  generalize partV (a + b) n d - partV a n d - partV b n d = k at *
  constructor
  · refine Int.le_of_not_gt fun h => ?_
    have : k * d ≤ -2 * d := Int.mul_le_mul_of_nonneg_right (by omega) (by omega)
    omega
  · refine Int.le_of_not_gt fun h => ?_
    have : 2 * d ≤ k * d := Int.mul_le_mul_of_nonneg_right (by omega) (by omega)
    omega
theorem addV_yes {a b : Int} (h : addB a b = true) : addV a b = a + b := by simp [addV, h]
theorem addV_no {a b : Int} (h : addB a b = false) : addV a b = 0 := by simp [addV, h]
end Go.Proofs.YtnchgeiinkaefaaGreatDoor.Coin
end

section
/-
  What the functions of chapter 1 on single amounts answer (the program's and the document's own), function by function.
-/
namespace Go.Proofs.YtnchgeiinkaefaaGreatDoor.Coin
set_option linter.unusedVariables false
open Go.RowKit

theorem hide {p : Prop} (h : p) : Hid p := h
theorem unhide {p : Prop} (h : Hid p) : p := h.out
theorem ret_int {k : IntKind} {a b : Int} (h : a = b) : Ending.returned (.int k a) = .returned (.int k b) := by rw [h]
theorem ret_bool {a b : Bool} (h : a = b) : Ending.returned (.bool a) = .returned (.bool b) := by rw [h]
theorem ret_ib {k : IntKind} {a b : Int} {c d : Bool} (h : a = b) (h' : c = d) : Ending.returned (.tuple #[.int k a, .bool c]) = .returned (.tuple #[.int k b, .bool d]) := by rw [h, h']

theorem okM (a : Int) (w : World) : Calls Tryz.prog 72 #[.int .i64 a] w fun e w' => e = .returned (.bool (okB a)) ∧ w' = w := by
  by_cases h1 : -1000000000000000 ≤ a
  · by_cases h2 : a ≤ 1000000000000000
    · go_enter Tryz.func72, Tryz.ntmps72
      go_wp2
      go_ret
      exact ⟨ret_bool (okB_true ⟨h1, h2⟩).symm, rfl⟩
    · go_enter Tryz.func72, Tryz.ntmps72
      go_wp2
      go_ret
      exact ⟨ret_bool (okB_false (by omega)).symm, rfl⟩
  · go_enter Tryz.func72, Tryz.ntmps72
    go_wp2
    go_ret
    exact ⟨ret_bool (okB_false (by omega)).symm, rfl⟩

theorem okI (a : Int) (w : World) : Calls Tryz.prog 47 #[.int .i64 a] w fun e w' => e = .returned (.bool (okB a)) ∧ w' = w := by
  go_enter Tryz.func47, Tryz.ntmps47
  go_wp2_with (go_at_call 72; refine (okM _ _).mono ?_; rintro e w' ⟨rfl, rfl⟩)
  go_ret
  exact ⟨rfl, rfl⟩

theorem okS (a : Int) (w : World) : Calls Tryz.prog 23 #[.int .i64 a] w fun e w' => e = .returned (.bool (okB a)) ∧ w' = w := by
  by_cases h1 : -1000000000000000 ≤ a
  · by_cases h2 : a ≤ 1000000000000000
    · go_enter Tryz.func23, Tryz.ntmps23
      go_wp2
      go_ret
      exact ⟨ret_bool (okB_true ⟨h1, h2⟩).symm, rfl⟩
    · go_enter Tryz.func23, Tryz.ntmps23
      go_wp2
      go_ret
      exact ⟨ret_bool (okB_false (by omega)).symm, rfl⟩
  · go_enter Tryz.func23, Tryz.ntmps23
    go_wp2
    go_ret
    exact ⟨ret_bool (okB_false (by omega)).symm, rfl⟩

theorem szM (a : Int) (w : World) (h : -9223372036854775807 ≤ a) (h' : a ≤ 9223372036854775807) : Calls Tryz.prog 103 #[.int .i64 a] w fun e w' => e = .returned (.int .i64 (sz a)) ∧ w' = w := by
  by_cases h1 : a < 0
  · go_enter Tryz.func103, Tryz.ntmps103
    go_wp2
    go_ret
    exact ⟨ret_int (sz_neg h1).symm, rfl⟩
  · go_enter Tryz.func103, Tryz.ntmps103
    go_wp2
    go_ret
    exact ⟨ret_int (sz_pos (by omega)).symm, rfl⟩

theorem szS (a : Int) (w : World) (h : -9223372036854775807 ≤ a) (h' : a ≤ 9223372036854775807) : Calls Tryz.prog 91 #[.int .i64 a] w fun e w' => e = .returned (.int .i64 (sz a)) ∧ w' = w := by
  by_cases h1 : a < 0
  · go_enter Tryz.func91, Tryz.ntmps91
    go_wp2
    go_ret
    exact ⟨ret_int (sz_neg h1).symm, rfl⟩
  · go_enter Tryz.func91, Tryz.ntmps91
    go_wp2
    go_ret
    exact ⟨ret_int (sz_pos (by omega)).symm, rfl⟩

theorem plusM (a b : Int) (w : World) : Calls Tryz.prog 166 #[.int .i64 a, .int .i64 b] w fun e w' => e = .returned (.tuple #[.int .i64 (addV a b), .bool (addB a b)]) ∧ w' = w := by
  cases ha : okB a
  · go_enter Tryz.func166, Tryz.ntmps166
    go_wp2_with (go_at_call 72; refine (okM _ _).mono ?_; rintro e w' ⟨rfl, rfl⟩)
    go_ret2
    exact ⟨by simp [addV, addB, ha], rfl⟩
  · cases hb : okB b
    · go_enter Tryz.func166, Tryz.ntmps166
      go_wp2_with (go_at_call 72; refine (okM _ _).mono ?_; rintro e w' ⟨rfl, rfl⟩)
      go_ret2
      exact ⟨by simp [addV, addB, hb], rfl⟩
    · have h1 := okB_iff.1 ha
      have h2 := okB_iff.1 hb
      cases hc : okB (a + b)
      · go_enter Tryz.func166, Tryz.ntmps166
        go_wp2_with (go_at_call 72; refine (okM _ _).mono ?_; rintro e w' ⟨rfl, rfl⟩)
        go_ret2
        exact ⟨by simp [addV, addB, hc], rfl⟩
      · go_enter Tryz.func166, Tryz.ntmps166
        go_wp2_with (go_at_call 72; refine (okM _ _).mono ?_; rintro e w' ⟨rfl, rfl⟩)
        go_ret2
        exact ⟨by simp [addV, addB, ha, hb, hc], rfl⟩

theorem addI (a b : Int) (w : World) : Calls Tryz.prog 136 #[.int .i64 a, .int .i64 b] w fun e w' => e = .returned (.tuple #[.int .i64 (addV a b), .bool (addB a b)]) ∧ w' = w := by
  go_enter Tryz.func136, Tryz.ntmps136
  go_wp2_with (go_at_call 166; refine (plusM _ _ _).mono ?_; rintro e w' ⟨rfl, rfl⟩)
  go_ret2
  exact ⟨rfl, rfl⟩

theorem addS (a b : Int) (w : World) : Calls Tryz.prog 114 #[.int .i64 a, .int .i64 b] w fun e w' => e = .returned (.tuple #[.int .i64 (addV a b), .bool (addB a b)]) ∧ w' = w := by
  cases ha : okB a
  · go_enter Tryz.func114, Tryz.ntmps114
    go_wp2_with (go_at_call 23; refine (okS _ _).mono ?_; rintro e w' ⟨rfl, rfl⟩)
    go_ret2
    exact ⟨by simp [addV, addB, ha], rfl⟩
  · cases hb : okB b
    · go_enter Tryz.func114, Tryz.ntmps114
      go_wp2_with (go_at_call 23; refine (okS _ _).mono ?_; rintro e w' ⟨rfl, rfl⟩)
      go_ret2
      exact ⟨by simp [addV, addB, hb], rfl⟩
    · have h1 := okB_iff.1 ha
      have h2 := okB_iff.1 hb
      cases hc : okB (a + b)
      · go_enter Tryz.func114, Tryz.ntmps114
        go_wp2_with (go_at_call 23; refine (okS _ _).mono ?_; rintro e w' ⟨rfl, rfl⟩)
        go_ret2
        exact ⟨by simp [addV, addB, hc], rfl⟩
      · go_enter Tryz.func114, Tryz.ntmps114
        go_wp2_with (go_at_call 23; refine (okS _ _).mono ?_; rintro e w' ⟨rfl, rfl⟩)
        go_ret2
        exact ⟨by simp [addV, addB, ha, hb, hc], rfl⟩

theorem timesM (a b : Int) (w : World) : Calls Tryz.prog 102 #[.int .i64 a, .int .i64 b] w fun e w' => e = .returned (.tuple #[.int .i64 (timesV a b), .bool (fitB a b)]) ∧ w' = w := by
  cases ha : okB a
  · go_enter Tryz.func102, Tryz.ntmps102
    go_wp2_with (go_at_call 72; refine (okM _ _).mono ?_; rintro e w' ⟨rfl, rfl⟩)
    go_ret2
    exact ⟨by simp [timesV, fitB, ha], rfl⟩
  · cases hb : okB b
    · go_enter Tryz.func102, Tryz.ntmps102
      go_wp2_with (go_at_call 72; refine (okM _ _).mono ?_; rintro e w' ⟨rfl, rfl⟩)
      go_ret2
      exact ⟨by simp [timesV, fitB, hb], rfl⟩
    · have h1 := okB_iff.1 ha
      have h2 := okB_iff.1 hb
      have s1 : -9223372036854775807 ≤ sz a ∧ sz a ≤ 1000000000000000 := by unfold sz; split <;> omega
      by_cases h0 : a = 0
      · subst h0
        go_enter Tryz.func102, Tryz.ntmps102
        go_wp2_with (go_at_call 72; refine (okM _ _).mono ?_; rintro e w' ⟨rfl, rfl⟩)
        go_ret2
        exact ⟨by simp [timesV, fit_zero hb], rfl⟩
      · have h0' : (a != 0) = true := by simpa using h0
        have s0 : 1 ≤ sz a := by unfold sz; split <;> omega
        by_cases hc : 1000000000000000 / sz a < sz b
        · go_enter Tryz.func102, Tryz.ntmps102
          go_wp2_with (first | (go_at_call 72; refine (okM _ _).mono ?_; rintro e w' ⟨rfl, rfl⟩) | (go_at_call 103; refine (szM _ _ (by omega) (by omega)).mono ?_; rintro e w' ⟨rfl, rfl⟩))
          go_ret2
          exact ⟨by simp [timesV, fit_no h0 hc], rfl⟩
        · have hf := fit_yes ha hb h0 hc
          have hm := (fit_ok hf).2.2
          go_enter Tryz.func102, Tryz.ntmps102
          go_wp2_with (first | (go_at_call 72; refine (okM _ _).mono ?_; rintro e w' ⟨rfl, rfl⟩) | (go_at_call 103; refine (szM _ _ (by omega) (by omega)).mono ?_; rintro e w' ⟨rfl, rfl⟩))
          go_ret2
          exact ⟨by simp [timesV, hf], rfl⟩
theorem timesI (a b : Int) (w : World) : Calls Tryz.prog 138 #[.int .i64 a, .int .i64 b] w fun e w' => e = .returned (.tuple #[.int .i64 (timesV a b), .bool (fitB a b)]) ∧ w' = w := by
  go_enter Tryz.func138, Tryz.ntmps138
  go_wp2_with (go_at_call 102; refine (timesM _ _ _).mono ?_; rintro e w' ⟨rfl, rfl⟩)
  go_ret2
  exact ⟨rfl, rfl⟩

theorem timesS (a b : Int) (w : World) : Calls Tryz.prog 55 #[.int .i64 a, .int .i64 b] w fun e w' => e = .returned (.tuple #[.int .i64 (timesV a b), .bool (fitB a b)]) ∧ w' = w := by
  cases ha : okB a
  · go_enter Tryz.func55, Tryz.ntmps55
    go_wp2_with (go_at_call 23; refine (okS _ _).mono ?_; rintro e w' ⟨rfl, rfl⟩)
    go_ret2
    exact ⟨by simp [timesV, fitB, ha], rfl⟩
  · cases hb : okB b
    · go_enter Tryz.func55, Tryz.ntmps55
      go_wp2_with (go_at_call 23; refine (okS _ _).mono ?_; rintro e w' ⟨rfl, rfl⟩)
      go_ret2
      exact ⟨by simp [timesV, fitB, hb], rfl⟩
    · have h1 := okB_iff.1 ha
      have h2 := okB_iff.1 hb
      have s1 : -9223372036854775807 ≤ sz b ∧ sz b ≤ 1000000000000000 := by unfold sz; split <;> omega
      by_cases h0 : b = 0
      · subst h0
        have hf : fitB a 0 = true := by rw [fit_comm]; exact fit_zero ha
        go_enter Tryz.func55, Tryz.ntmps55
        go_wp2_with (go_at_call 23; refine (okS _ _).mono ?_; rintro e w' ⟨rfl, rfl⟩)
        go_ret2
        exact ⟨by simp [timesV, hf], rfl⟩
      · have h0' : (b != 0) = true := by simpa using h0
        have s0 : 1 ≤ sz b := by unfold sz; split <;> omega
        by_cases hc : 1000000000000000 / sz b < sz a
        · have hf : fitB a b = false := by rw [fit_comm]; exact fit_no h0 hc
          go_enter Tryz.func55, Tryz.ntmps55
          go_wp2_with (first | (go_at_call 23; refine (okS _ _).mono ?_; rintro e w' ⟨rfl, rfl⟩) | (go_at_call 91; refine (szS _ _ (by omega) (by omega)).mono ?_; rintro e w' ⟨rfl, rfl⟩))
          go_ret2
          exact ⟨by simp [timesV, hf], rfl⟩
        · have hf : fitB a b = true := by rw [fit_comm]; exact fit_yes hb ha h0 hc
          have hm := (fit_ok hf).2.2
          go_enter Tryz.func55, Tryz.ntmps55
          go_wp2_with (first | (go_at_call 23; refine (okS _ _).mono ?_; rintro e w' ⟨rfl, rfl⟩) | (go_at_call 91; refine (szS _ _ (by omega) (by omega)).mono ?_; rintro e w' ⟨rfl, rfl⟩))
          go_ret2
          exact ⟨by simp [timesV, hf], rfl⟩
end Go.Proofs.YtnchgeiinkaefaaGreatDoor.Coin
end

section
/-
  Numbers in decimals (spec.l18Dec): the digits of strconv.Itoa.
-/
namespace Go.Proofs.YtnchgeiinkaefaaGreatDoor.Dec
set_option linter.unusedVariables false
open Go.RowKit

theorem hide {p : Prop} (h : p) : Hid p := h
theorem unhide {p : Prop} (h : Hid p) : p := h
theorem below2 {a b c : World} (h1 : Below a.heap.size a b) (h2 : Below b.heap.size b c) : Below a.heap.size a c := h1.trans (h2.mono h1.size)
theorem ret_str {a b : List UInt8} (h : a = b) : Ending.returned (.string ⟨a.toArray⟩) = .returned (.string ⟨b.toArray⟩) := by rw [h]

/-- a string of one byte -/
theorem conv1 (w : World) (c : Int) (h0 : 0 ≤ c) (h1 : c ≤ 255) : (convert 97 9 (.slice (some ⟨w.heap.size, 0, none⟩) 1 1)).run Tryz.prog (w.alloc (.cells #[.int .u8 c] 5)) = .ok (.string ⟨#[UInt8.ofNat c.toNat]⟩) (w.alloc (.cells #[.int .u8 c] 5)) := by
  have h := run_convert_bytes_back (P := Tryz.prog) (w.alloc (.cells #[.int .u8 c] 5)) 97 9 5 ⟨w.heap.size, 0, none⟩ 1 [UInt8.ofNat c.toNat] Tryz.underlying97 Tryz.underlying5 Tryz.underlying9 ?_
  · exact h
  · intro j hj
    obtain rfl : j = 0 := by simpa using hj
    have e : ((UInt8.ofNat c.toNat).toNat : Int) = c := by
      simp; omega
    rw [Addr.add_lit]
    show (w.alloc _).cell? _ = some (.int .u8 ((UInt8.ofNat c.toNat).toNat : Int))
    rw [e]
    have e1 := (MapKept.heap_alloc w (.cells #[.int .u8 c] 5)).1
    simp only [World.cell?]
    rw [e1]; rfl

theorem cat (a b : List UInt8) : ((⟨a.toArray⟩ : ByteArray) ++ ⟨b.toArray⟩) = ⟨(a ++ b).toArray⟩ := by
  apply ByteArray.ext; simp

theorem digit (k : Nat) : 48 + UInt8.ofNat k = UInt8.ofNat (48 + k) := by rw [UInt8.ofNat_add]; rfl

theorem dec_step {m : Nat} (h : 9 < m) : Lib.decDigits m = Lib.decDigits (m / 10) ++ [UInt8.ofNat (48 + m % 10)] := by
  rw [Lib.decDigits, dif_neg (by omega)]

theorem nDig (n : Nat) (h : n ≤ 9223372036854775807) : (Lib.decDigits n).length ≤ 20 := by
  have key : ∀ k n : Nat, n < 10 ^ (k + 1) → (Lib.decDigits n).length ≤ k + 1 := by
    intro k
    induction k with
    | zero => intro n h; rw [Lib.decDigits_one (by omega)]; simp
    | succ k ih =>
      intro n h
      by_cases h9 : 9 < n
      · rw [dec_step h9]
        have := ih (n / 10) (by rw [Nat.pow_succ] at h; omega)
        simp; omega
      · rw [Lib.decDigits_one (by omega)]; simp
  exact key 19 n (by omega)

set_option maxRecDepth 20000 in
theorem dec_pos (n : Nat) (w : World) (hn : n ≤ 9223372036854775807) :
    Calls Tryz.prog 110 #[.int .i64 n] w fun e w' => e = .returned (.string ⟨(Lib.decDigits n).toArray⟩) ∧ Below w.heap.size w w' := by
  go_enter Tryz.func110, Tryz.ntmps110
  go_wp2
  go_loopw [0, 3] (fun t0 t3 w1 => ∃ (m : Nat) (out : List UInt8), m ≤ n ∧ t0 = .int .i64 m ∧ t3 = .string ⟨out.toArray⟩ ∧ Hid (Lib.decDigits n = Lib.decDigits m ++ out) ∧ out.length + m ≤ n ∧ (out.length = 0 ∨ out.length + m < n) ∧ Below w.heap.size w w1) (fun t0 _ _ => (intOf t0).toNat)
  case atStart => exact ⟨n, [], Nat.le_refl _, rfl, rfl, by show _ = _; simp, by simp, .inl rfl, Below.refl _ _⟩
  case round =>
    obtain ⟨m, out, hm, rfl, rfl, hd, hl, hl', hb⟩ := hrel
    have hl2 : 1 + out.length ≤ 9223372036854775807 := by omega
    by_cases h9 : 9 < m
    · have hcv := conv1 wr (48 + (m : Int) % 10) (by omega) (by omega)
      go_wp2
      refine ⟨⟨m / 10, UInt8.ofNat (48 + m % 10) :: out, by omega, by go_num, ?_, ?_, by simp; omega, by simp; omega, hb.alloc hb.size _⟩, by simp [intOf]; omega⟩
      · have := cat [48 + UInt8.ofNat (m % 10)] out
        rw [digit] at this ⊢
        exact congrArg Value.string this
      · show _ = _
        rw [unhide hd, dec_step h9]; simp
    · have hcv := conv1 wr (48 + (m : Int)) (by omega) (by omega)
      go_wp2
      go_ret
      refine ⟨?_, hb.alloc hb.size _⟩
      have e1 := cat [48 + UInt8.ofNat m] out
      have e2 : Lib.decDigits n = [48 + UInt8.ofNat m] ++ out := by rw [unhide hd, Lib.decDigits_one (by omega), digit]
      rw [e2, ← e1]; rfl

set_option maxRecDepth 20000 in
theorem dec_neg (n : Nat) (w : World) (h1 : 1 ≤ n) (hn : n ≤ 9223372036854775807) :
    Calls Tryz.prog 110 #[.int .i64 (-(n : Int))] w fun e w' => e = .returned (.string ⟨(45 :: Lib.decDigits n).toArray⟩) ∧ Below w.heap.size w w' := by
  go_enter Tryz.func110, Tryz.ntmps110
  go_wp2_with fail
  refine (dec_pos n w hn).mono ?_
  rintro e w1 ⟨rfl, hb⟩
  have hl : 1 + (Lib.decDigits n).length ≤ 9223372036854775807 := by have := nDig n hn; omega
  go_wp2
  go_ret
  exact ⟨congrArg (fun x => Ending.returned (.string x)) (cat [45] (Lib.decDigits n)), hb⟩

set_option maxRecDepth 20000 in
theorem dec_min (w : World) :
    Calls Tryz.prog 110 #[.int .i64 (-9223372036854775808)] w fun e w' => e = .returned (.string ⟨(45 :: Lib.decDigits 9223372036854775808).toArray⟩) ∧ Below w.heap.size w w' := by
  have e : (⟨(45 :: Lib.decDigits 9223372036854775808).toArray⟩ : ByteArray) = ⟨#[45, 57, 50, 50, 51, 51, 55, 50, 48, 51, 54, 56, 53, 52, 55, 55, 53, 56, 48, 56]⟩ := by
    rw [Lib.decDigits_eq]; decide +kernel
  rw [e]
  go_enter Tryz.func110, Tryz.ntmps110
  go_wp2
  go_ret
  exact ⟨rfl, Below.refl _ _⟩

/-- l18Dec: strconv.Itoa's text, at every int -/
theorem dec (n : Int) (w : World) (h0 : -9223372036854775808 ≤ n) (h1 : n ≤ 9223372036854775807) :
    Calls Tryz.prog 110 #[.int .i64 n] w fun e w' => e = .returned (.string ⟨(Lib.itoa n).toArray⟩) ∧ Below w.heap.size w w' := by
  by_cases hn : 0 ≤ n
  · obtain ⟨m, rfl⟩ := Int.eq_ofNat_of_zero_le hn
    rw [Lib.itoa_nonneg]; exact dec_pos m w (by omega)
  · obtain ⟨m, hm⟩ := Int.eq_ofNat_of_zero_le (show 0 ≤ -n by omega)
    obtain rfl : n = -(m : Int) := by omega
    rw [Lib.itoa_neg m (by omega)]
    by_cases hb : m ≤ 9223372036854775807
    · exact dec_neg m w (by omega) hb
    · obtain rfl : m = 9223372036854775808 := by omega
      exact dec_min w
end Go.Proofs.YtnchgeiinkaefaaGreatDoor.Dec
end

section
/-
  DERIVED: THE SHELF's CONTRACTS AT THIS DUMP, IN PLAIN WORDS (tools/lay-plain.mjs out of 'YtnchgeiinkaefaaGreatDoorShelfI.lean', which tools/lay-shelf.mjs wrote): THE SAME DECLARATIONS UNDER THE SAME NAMES: 'import', 'namespace', 'open', 'def', 'theorem' AND NOTHING ELSE: no command of the shelf's: FOR A HAND-IN. Each laying: the table of numbers ('.._ren') and one theorem, a field a fact of the dump's own or the kernel's comparison; each contract: ONE APPLICATION.
-/
namespace Go.Proofs
open Go.Shelf
def Tryz.laysM171_ren : Go.Shelf.Ren := ⟨fun | 171 => 209 | 243 => 217 | 246 => 218 | 283 => 219 | 284 => 220 | 285 => 221 | 286 => 222 | 129 => 157 | 317 => 223 | 318 => 224 | 319 => 225 | 320 => 226 | 337 => 227 | 338 => 228 | n => n, fun | 3 => 3 | 9 => 9 | 2 => 2 | 4 => 4 | 171 => 315 | 0 => 0 | 53 => 245 | 37 => 97 | 5 => 5 | 173 => 317 | 212 => 320 | 51 => 243 | 20 => 20 | 213 => 321 | 46 => 214 | 232 => 322 | 233 => 323 | n => n, fun | 17 => 6 | 18 => 7 | 19 => 8 | n => n⟩
theorem Tryz.laysM171 : Go.Proofs.LaysM.n171 Tryz.prog Tryz.laysM171_ren := {
  mixed := by kernel_rfl
  f129 := Tryz.func157.trans (congrArg some (by kernel_rfl))
  f171 := Tryz.func209.trans (congrArg some (by kernel_rfl))
  f243 := Tryz.func217.trans (congrArg some (by kernel_rfl))
  f246 := Tryz.func218.trans (congrArg some (by kernel_rfl))
  f283 := Tryz.func219.trans (congrArg some (by kernel_rfl))
  f284 := Tryz.func220.trans (congrArg some (by kernel_rfl))
  f285 := Tryz.func221.trans (congrArg some (by kernel_rfl))
  f286 := Tryz.func222.trans (congrArg some (by kernel_rfl))
  f317 := Tryz.func223.trans (congrArg some (by kernel_rfl))
  f318 := Tryz.func224.trans (congrArg some (by kernel_rfl))
  f319 := Tryz.func225.trans (congrArg some (by kernel_rfl))
  f320 := Tryz.func226.trans (congrArg some (by kernel_rfl))
  f337 := Tryz.func227.trans (congrArg some (by kernel_rfl))
  f338 := Tryz.func228.trans (congrArg some (by kernel_rfl))
  t0 := Tryz.underlying0
  a0 := Tryz.isAgg0
  z0 := Tryz.sizeOf0
  v0 := Tryz.zeroValue0
  t2 := Tryz.underlying2
  a2 := Tryz.isAgg2
  z2 := Tryz.sizeOf2
  v2 := Tryz.zeroValue2
  t3 := Tryz.underlying3
  a3 := Tryz.isAgg3
  z3 := Tryz.sizeOf3
  v3 := Tryz.zeroValue3
  t4 := Tryz.underlying4
  a4 := Tryz.isAgg4
  z4 := Tryz.sizeOf4
  v4 := Tryz.zeroValue4
  t5 := Tryz.underlying5
  a5 := Tryz.isAgg5
  z5 := Tryz.sizeOf5
  v5 := Tryz.zeroValue5
  t9 := Tryz.underlying9
  a9 := Tryz.isAgg9
  z9 := Tryz.sizeOf9
  v9 := Tryz.zeroValue9
  t20 := Tryz.underlying20
  a20 := Tryz.isAgg20
  z20 := Tryz.sizeOf20
  v20 := Tryz.zeroValue20
  t37 := Tryz.underlying97
  a37 := Tryz.isAgg97
  z37 := Tryz.sizeOf97
  v37 := Tryz.zeroValue97
  t46 := Tryz.underlying214
  a46 := Tryz.isAgg214
  z46 := Tryz.sizeOf214
  v46 := Tryz.zeroValue214
  t51 := Tryz.underlying243
  a51 := Tryz.isAgg243
  z51 := Tryz.sizeOf243
  v51 := Tryz.zeroValue243
  t53 := Tryz.underlying245
  a53 := Tryz.isAgg245
  z53 := Tryz.sizeOf245
  v53 := Tryz.zeroValue245
  t171 := Tryz.underlying315
  a171 := Tryz.isAgg315
  z171 := Tryz.sizeOf315
  v171 := Tryz.zeroValue315
  t173 := Tryz.underlying317
  a173 := Tryz.isAgg317
  z173 := Tryz.sizeOf317
  v173 := Tryz.zeroValue317
  t212 := Tryz.underlying320
  a212 := Tryz.isAgg320
  z212 := Tryz.sizeOf320
  v212 := Tryz.zeroValue320
  t213 := Tryz.underlying321
  a213 := Tryz.isAgg321
  z213 := Tryz.sizeOf321
  t232 := Tryz.underlying322
  a232 := Tryz.isAgg322
  z232 := Tryz.sizeOf322
  v232 := Tryz.zeroValue322
  t233 := Tryz.underlying323
  a233 := Tryz.isAgg323
  z233 := Tryz.sizeOf323
  v233 := Tryz.zeroValue323
  g17 := by kernel_rfl
  g18 := by kernel_rfl
  g19 := by kernel_rfl
  i0 := by kernel_rfl
  i2 := by kernel_rfl
  i3 := by kernel_rfl
  i4 := by kernel_rfl
  i5 := by kernel_rfl
  i9 := by kernel_rfl
  i20 := by kernel_rfl
  i37 := by kernel_rfl
  i46 := by kernel_rfl
  i51 := by kernel_rfl
  i53 := by kernel_rfl
  i171 := by kernel_rfl
  i173 := by kernel_rfl
  i212 := by kernel_rfl
  i232 := by kernel_rfl
  i233 := by kernel_rfl
  m17 := by kernel_rfl
  m18 := by kernel_rfl
  m19 := by kernel_rfl }
open Go.RowKit Go.Sort Go.Lib in
/-- strconv.Itoa: "Itoa is equivalent to FormatInt(int64(i), 10).": i's DECIMAL NUMERAL ('Lib.itoa': a '-' where i is negative, then the digits), FOR EVERY int. The world behind the call: the world before it, new blocks behind the heap (the library's 'var a [24]byte'), draws. (LAID: no walk: one application.) -/
theorem Tryz.strconv_Itoa (n : Int) (h0 : -9223372036854775808 ≤ n) (h1 : n ≤ 9223372036854775807) (w : World) (htab : Lib.TabIs Tryz.prog w "internal/strconv.uint64pow10" .u64 Lib.pow10Tab) :
    Calls Tryz.prog 209 #[.int .i64 n] w fun e w' => e = .returned (.string ⟨(Lib.itoa n).toArray⟩) ∧ ∃ k os, w' = grow (w.drewN k) os := Any.strconv_Itoa Tryz.laysM171 n h0 h1 w htab
end Go.Proofs
end

section
/-
  CoinText, the program's and the document's: both write one and the same text.
-/
namespace Go.Proofs.YtnchgeiinkaefaaGreatDoor.Text
set_option linter.unusedVariables false
open Go.RowKit Coin
open Dec (cat digit dec_step nDig dec dec_pos)

/-- a variable of the program reads as before where only new memory came -/
theorem var_kept {P : Program} {w w' : World} {n : String} {cs : Array Value} (h : w.var? P n = some cs) (hb : Below w.heap.size w w') : w'.var? P n = some cs := by
  unfold World.var? at h ⊢
  cases hg : P.globalNamed n with
  | none => simp [hg] at h
  | some g =>
    simp only [hg, Option.bind_some] at h ⊢
    have hlt : g < w.heap.size := by
      rcases Nat.lt_or_ge g w.heap.size with h' | h'
      · exact h'
      · rw [Array.getElem?_eq_none h'] at h; simp at h
    rw [hb.block g hlt]
    exact h

/-- the table of tens that strconv reads -/
def Tens (w : World) : Prop := Lib.TabIs Tryz.prog w "internal/strconv.uint64pow10" .u64 Lib.pow10Tab
theorem Tens.kept {w w' : World} (h : Tens w) (hb : Below w.heap.size w w') : Tens w' := var_kept h hb

theorem itoaI (n : Int) (w : World) (h0 : -9223372036854775808 ≤ n) (h1 : n ≤ 9223372036854775807) (ht : Tens w) :
    Calls Tryz.prog 209 #[.int .i64 n] w fun e w' => e = .returned (.string ⟨(Lib.itoa n).toArray⟩) ∧ Below w.heap.size w w' := by
  refine (Tryz.strconv_Itoa n h0 h1 w ht).mono ?_
  rintro e w' ⟨rfl, k, os, rfl⟩
  exact ⟨rfl, Lib.below_grow w.heap.size w (Nat.le_refl _) k os⟩

/-- the text of an amount without its sign -/
def textP (n : Nat) : List UInt8 := Lib.decDigits (n / 100) ++ [46, UInt8.ofNat (48 + n / 10 % 10), UInt8.ofNat (48 + n % 10)]
/-- the text of a number: empty, if it is no amount -/
def textL (n : Int) : List UInt8 := if okB n = true then (if n < 0 then 45 :: textP n.natAbs else textP n.natAbs) else []

theorem dig_len (n : Int) (h : 0 ≤ n) (h' : n ≤ 9223372036854775807) : ∃ L : List UInt8, Lib.itoa n = L ∧ L.length ≤ 20 := by
  obtain ⟨m, rfl⟩ := Int.eq_ofNat_of_zero_le h
  exact ⟨_, rfl, by rw [Lib.itoa_nonneg]; exact nDig m (by omega)⟩

theorem itoa_cast (k : Nat) (x : Int) (h : x = (k : Int)) : Lib.itoa x = Lib.decDigits k := by rw [h, Lib.itoa_nonneg]
theorem textP_of {n : Nat} {L1 L2 L3 : List UInt8} (h1 : Lib.itoa ((n : Int) / 100) = L1) (h2 : Lib.itoa ((n : Int) / 10 % 10) = L2) (h3 : Lib.itoa ((n : Int) % 10) = L3) : (((⟨L1.toArray⟩ : ByteArray) ++ ⟨#[46]⟩) ++ ⟨L2.toArray⟩) ++ ⟨L3.toArray⟩ = ⟨(textP n).toArray⟩ := by
  show (((⟨L1.toArray⟩ : ByteArray) ++ ⟨[46].toArray⟩) ++ ⟨L2.toArray⟩) ++ ⟨L3.toArray⟩ = _
  rw [cat, cat, cat]
  rw [itoa_cast (n / 100) _ (by omega)] at h1
  rw [itoa_cast (n / 10 % 10) _ (by omega), Lib.decDigits_one (by omega)] at h2
  rw [itoa_cast (n % 10) _ (by omega), Lib.decDigits_one (by omega)] at h3
  rw [← h1, ← h2, ← h3]
  simp [textP]
theorem below3 {a b c d : World} (h1 : Below a.heap.size a b) (h2 : Below b.heap.size b c) (h3 : Below c.heap.size c d) : Below a.heap.size a d :=
  h1.trans ((h2.mono h1.size).trans (h3.mono (Nat.le_trans h1.size h2.size)))

theorem textP_len (n : Nat) (hn : n ≤ 1000000000000000) : (textP n).length ≤ 23 := by
  unfold textP
  have := nDig (n / 100) (by omega)
  simp; omega

/-- two decimals -/
theorem cents_of (x : Int) (h : 0 ≤ x) : ∃ c1 c2 : UInt8, Lib.itoa (100 + x % 100) = [49, c1, c2] ∧ (c1 = UInt8.ofNat (48 + x.toNat / 10 % 10) ∧ c2 = UInt8.ofNat (48 + x.toNat % 10)) := by
  obtain ⟨m, rfl⟩ := Int.eq_ofNat_of_zero_le h
  have hr : m % 100 < 100 := by omega
  refine ⟨_, _, ?_, rfl, rfl⟩
  rw [itoa_cast (100 + m % 100) _ (by omega), dec_step (by omega), dec_step (m := (100 + m % 100) / 10) (by omega), Lib.decDigits_one (by omega)]
  have e1 : (100 + m % 100) / 10 % 10 = m / 10 % 10 := by omega
  have e2 : (100 + m % 100) % 10 = m % 10 := by omega
  have e3 : (100 + m % 100) / 10 / 10 = 1 := by omega
  rw [e1, e2, e3]; simp

theorem natAbs_sz (n : Int) : n.natAbs = (sz n).toNat := by unfold sz; split <;> omega
theorem text_sign (pre : List UInt8) (x : Int) (h : 0 ≤ x) {L1 : List UInt8} {c1 c2 : UInt8} (h1 : Lib.itoa (x / 100) = L1) (hc : c1 = UInt8.ofNat (48 + x.toNat / 10 % 10) ∧ c2 = UInt8.ofNat (48 + x.toNat % 10)) : (((⟨pre.toArray⟩ : ByteArray) ++ ⟨L1.toArray⟩) ++ ⟨#[46]⟩) ++ (⟨#[49, c1, c2]⟩ : ByteArray).extract 1 3 = ⟨(pre ++ textP x.toNat).toArray⟩ := by
  have e : (⟨#[49, c1, c2]⟩ : ByteArray).extract 1 3 = ⟨[c1, c2].toArray⟩ := by apply ByteArray.ext; simp
  rw [e]
  show (((⟨pre.toArray⟩ : ByteArray) ++ ⟨L1.toArray⟩) ++ ⟨[46].toArray⟩) ++ ⟨[c1, c2].toArray⟩ = _
  rw [cat, cat, cat]
  obtain ⟨m, rfl⟩ := Int.eq_ofNat_of_zero_le h
  rw [itoa_cast (m / 100) _ (by omega)] at h1
  obtain ⟨rfl, rfl⟩ := hc
  rw [← h1]
  simp [textP]

end Go.Proofs.YtnchgeiinkaefaaGreatDoor.Text
end

section
/-
  What the listed package variables give: the table of tens that strconv reads; the two errors of strconv.
-/
namespace Go.Proofs.YtnchgeiinkaefaaGreatDoor.Laid
open Go.RowKit

theorem gTab : Tryz.prog.globalNamed "internal/strconv.uint64pow10" = some 6 := by kernel_rfl
theorem tTab : (Tryz.prog.globals[6]?).map (·.type) = some 320 := by kernel_rfl
theorem cTab : Tryz.prog.cellsOf 320 = 20 := by kernel_rfl
theorem cU : Tryz.prog.cellsOf 245 = 1 := by kernel_rfl

/-- the table, where it is the third on the list -/
theorem tens3 {W : World} {x y : String × DataW Unit} {rest : List (String × DataW Unit)} (h : laidMet Tryz.prog (x :: y :: ("internal/strconv.uint64pow10", Rows.laid_internal_strconv_uint64pow10) :: rest) W) : Text.Tens W :=
  Lib.tabIs_of_head (k := .u64) (zs := Lib.pow10Tab) gTab tTab Tryz.underlying320 Tryz.underlying245 cU cTab h.tail.tail
end Go.Proofs.YtnchgeiinkaefaaGreatDoor.Laid
end

section
/-
  Texts of amounts, read back: plain facts on lists of bytes.
-/
namespace Go.Proofs.YtnchgeiinkaefaaGreatDoor.Text
set_option linter.unusedVariables false
open Coin
open Dec (dec_step nDig)

theorem decFrom_append (r : List UInt8) : ∀ (l : List UInt8) (acc : Nat), Lib.decFrom acc (l ++ r) = (Lib.decFrom acc l).bind fun m => Lib.decFrom m r
  | [], acc => by simp [Lib.decFrom]
  | b :: l, acc => by
    simp only [List.cons_append, Lib.decFrom]
    cases h : Lib.digitVal b with
    | none => simp
    | some d => simp [decFrom_append r l]

theorem digitVal_of {k : Nat} (h : k < 10) : Lib.digitVal (UInt8.ofNat (48 + k)) = some k := by
  unfold Lib.digitVal
  have e : (UInt8.ofNat (48 + k)).toNat = 48 + k := by simp; omega
  rw [e]
  simp; omega

theorem decFrom_one (acc k : Nat) (h : k < 10) : Lib.decFrom acc [UInt8.ofNat (48 + k)] = some (acc * 10 + k) := by
  simp only [Lib.decFrom]
  rw [digitVal_of h]

theorem decFrom_digits (f : Nat) : ∀ m, m ≤ f → Lib.decFrom 0 (Lib.decDigits m) = some m := by
  induction f with
  | zero => intro m h; obtain rfl : m = 0 := by omega
            rw [Lib.decDigits_one (by omega), decFrom_one 0 0 (by omega)]
  | succ f ih =>
    intro m h
    by_cases h9 : 9 < m
    · rw [dec_step h9, decFrom_append, ih (m / 10) (by omega)]
      simp only [Option.bind_some]
      rw [decFrom_one _ _ (by omega)]
      congr 1; omega
    · rw [Lib.decDigits_one (by omega), decFrom_one 0 m (by omega)]; simp

/-- the digits of an amount's text spell it -/
theorem text_value (m : Nat) : Lib.decFrom 0 (Lib.decDigits (m / 100) ++ [UInt8.ofNat (48 + m / 10 % 10), UInt8.ofNat (48 + m % 10)]) = some m := by
  rw [decFrom_append, decFrom_digits _ _ (Nat.le_refl _)]
  simp only [Option.bind_some]
  have e : [UInt8.ofNat (48 + m / 10 % 10), UInt8.ofNat (48 + m % 10)] = [UInt8.ofNat (48 + m / 10 % 10)] ++ [UInt8.ofNat (48 + m % 10)] := rfl
  rw [e, decFrom_append, decFrom_one _ _ (by omega)]
  simp only [Option.bind_some]
  rw [decFrom_one _ _ (by omega)]
  congr 1; omega

theorem digits_are (f : Nat) : ∀ m, m ≤ f → ∀ b ∈ Lib.decDigits m, 48 ≤ b.toNat ∧ b.toNat ≤ 57 := by
  have one : ∀ k, k < 10 → 48 ≤ (UInt8.ofNat (48 + k)).toNat ∧ (UInt8.ofNat (48 + k)).toNat ≤ 57 := by
    intro k hk
    have e : (UInt8.ofNat (48 + k)).toNat = 48 + k := by simp; omega
    omega
  induction f with
  | zero => intro m h b hb; obtain rfl : m = 0 := by omega
            rw [Lib.decDigits_one (by omega)] at hb
            obtain rfl := List.mem_singleton.1 hb
            exact one 0 (by omega)
  | succ f ih =>
    intro m h b hb
    by_cases h9 : 9 < m
    · rw [dec_step h9] at hb
      rcases List.mem_append.1 hb with h' | h'
      · exact ih (m / 10) (by omega) b h'
      · obtain rfl := List.mem_singleton.1 h'
        exact one _ (by omega)
    · rw [Lib.decDigits_one (by omega)] at hb
      obtain rfl := List.mem_singleton.1 hb
      exact one m (by omega)

theorem index_split (r : List UInt8) : ∀ (l : List UInt8), (∀ b ∈ l, b ≠ 46) → Lib.index (l ++ 46 :: r) [46] = l.length
  | [], _ => by simp [Lib.index]
  | b :: l, h => by
    have hb : b ≠ 46 := h b (List.mem_cons_self ..)
    have ih := index_split r l (fun x hx => h x (List.mem_cons_of_mem _ hx))
    simp only [List.cons_append, Lib.index]
    have e : [46].isPrefixOf (b :: (l ++ 46 :: r)) = false := by simp [List.isPrefixOf]; exact fun e => hb e.symm
    rw [e, ih]
    have e2 : (((l.length : Int)) == -1) = false := beq_eq_false_iff_ne.2 (by omega)
    rw [e2]; simp

theorem cut_split (l r : List UInt8) (h : ∀ b ∈ l, b ≠ 46) : Lib.cut (l ++ 46 :: r) [46] = (l, r, true) := by
  unfold Lib.cut
  rw [index_split r l h, if_pos (by omega)]
  simp

/-- the sign ahead -/
def sgn (v : Int) : List UInt8 := if v < 0 then [45] else []
theorem textL_eq {v : Int} (h : okB v = true) : textL v = sgn v ++ Lib.decDigits (v.natAbs / 100) ++ 46 :: [UInt8.ofNat (48 + v.natAbs / 10 % 10), UInt8.ofNat (48 + v.natAbs % 10)] := by
  unfold textL sgn textP
  rw [if_pos h]
  split <;> simp

theorem digits_cons (m : Nat) : ∃ c r, Lib.decDigits m = c :: r ∧ 48 ≤ c.toNat ∧ c.toNat ≤ 57 := by
  have hd := digits_are m m (Nat.le_refl _)
  cases h : Lib.decDigits m with
  | nil =>
    have hl : (Lib.decDigits m).length = 0 := by rw [h]; rfl
    by_cases h9 : 9 < m
    · rw [dec_step h9] at hl; simp at hl
    · rw [Lib.decDigits_one (by omega)] at hl; simp at hl
  | cons c r => rw [h] at hd; exact ⟨c, r, rfl, hd c (List.mem_cons_self ..)⟩

theorem digLen (k : Nat) : ∀ m, m < 10 ^ (k + 1) → (Lib.decDigits m).length ≤ k + 1 := by
  induction k with
  | zero => intro n h; rw [Lib.decDigits_one (by omega)]; simp
  | succ k ih =>
    intro n h
    by_cases h9 : 9 < n
    · rw [dec_step h9]
      have := ih (n / 10) (by rw [Nat.pow_succ] at h; omega)
      simp; omega
    · rw [Lib.decDigits_one (by omega)]; simp

theorem atoi_text {v : Int} (h : okB v = true) : Lib.atoiAll (sgn v ++ Lib.decDigits (v.natAbs / 100) ++ [UInt8.ofNat (48 + v.natAbs / 10 % 10), UInt8.ofNat (48 + v.natAbs % 10)]) = .ok v := by
  have hb := okB_iff.1 h
  have hl := digLen 13 (v.natAbs / 100) (by omega)
  have hv := text_value v.natAbs
  obtain ⟨c, r, hc, c1, c2⟩ := digits_cons (v.natAbs / 100)
  have hne : Lib.decNat (Lib.decDigits (v.natAbs / 100) ++ [UInt8.ofNat (48 + v.natAbs / 10 % 10), UInt8.ofNat (48 + v.natAbs % 10)]) = some v.natAbs := by
    rw [hc] at hv ⊢
    simpa [Lib.decNat] using hv
  have hlen : (sgn v ++ Lib.decDigits (v.natAbs / 100) ++ [UInt8.ofNat (48 + v.natAbs / 10 % 10), UInt8.ofNat (48 + v.natAbs % 10)]).length ≤ 18 := by
    unfold sgn; split <;> simp <;> omega
  rw [Lib.atoiAll_short _ hlen]
  have e : Lib.atoi (sgn v ++ Lib.decDigits (v.natAbs / 100) ++ [UInt8.ofNat (48 + v.natAbs / 10 % 10), UInt8.ofNat (48 + v.natAbs % 10)]) = some v := by
    unfold sgn
    by_cases hs : v < 0
    · rw [if_pos hs]
      simp only [List.cons_append, List.nil_append, Lib.atoi]
      rw [if_pos (by decide), hne]
      simp; omega
    · rw [if_neg hs, List.nil_append, hc]
      rw [hc] at hne
      simp only [List.cons_append, Lib.atoi]
      have n45 : (c == 45) = false := by simp; intro e; rw [e] at c1; exact absurd c1 (by decide)
      have n43 : (c == 43) = false := by simp; intro e; rw [e] at c1; exact absurd c1 (by decide)
      rw [n45, n43]
      simp only [Bool.false_eq_true, if_false]
      rw [show c :: (r ++ [UInt8.ofNat (48 + v.natAbs / 10 % 10), UInt8.ofNat (48 + v.natAbs % 10)]) = c :: r ++ [UInt8.ofNat (48 + v.natAbs / 10 % 10), UInt8.ofNat (48 + v.natAbs % 10)] from rfl, hne]
      simp; omega
  rw [e]; rfl

/-- v is the amount whose text this is -/
def IsText (t : List UInt8) (v : Int) : Prop := okB v = true ∧ textL v = t

/-- the amount whose text this is, if there is one -/
def readOf (t : List UInt8) : Option Int :=
  match Lib.atoiAll ((Lib.cut t [46]).1 ++ (Lib.cut t [46]).2.1) with
  | .ok v => if textL v = t then some v else none
  | _ => none

theorem sgn_ne {v : Int} : ∀ b ∈ sgn v ++ Lib.decDigits (v.natAbs / 100), b ≠ 46 := by
  intro b hb
  rcases List.mem_append.1 hb with h | h
  · unfold sgn at h
    split at h
    · obtain rfl := List.mem_singleton.1 h; decide
    · cases h
  · have := digits_are _ _ (Nat.le_refl _) b h
    intro e; rw [e] at this; exact absurd this.1 (by decide)

theorem read_of_text {t : List UInt8} {v : Int} (h : IsText t v) : readOf t = some v := by
  obtain ⟨ho, rfl⟩ := h
  unfold readOf
  have e := textL_eq ho
  have ec : Lib.cut (textL v) [46] = (sgn v ++ Lib.decDigits (v.natAbs / 100), [UInt8.ofNat (48 + v.natAbs / 10 % 10), UInt8.ofNat (48 + v.natAbs % 10)], true) := by
    rw [e]; exact cut_split _ _ sgn_ne
  rw [ec]
  simp only
  rw [atoi_text ho]
  simp

theorem text_of_read {t : List UInt8} {v : Int} (h : readOf t = some v) : IsText t v := by
  unfold readOf at h
  split at h
  · next u hu =>
    split at h
    · next ht =>
      obtain rfl := Option.some.inj h
      refine ⟨?_, ht⟩
      cases ho : okB u
      · have e0 : textL u = [] := by simp [textL, ho]
        rw [e0] at ht
        rw [← ht] at hu
        have : Lib.cut [] [46] = ([], [], false) := by decide
        rw [this] at hu
        cases hu
      · rfl
    · cases h
  · cases h
end Go.Proofs.YtnchgeiinkaefaaGreatDoor.Text
end
