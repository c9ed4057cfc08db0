/-
  CoinShare, the document's.
-/
import Derived.Test.YthhkjbhkginecaaWgt
import Derived.Test.YthhkjbhkginecaaApp
import Derived.Deep.QuietTactic
import Derived.BigQuiet
namespace Go.Proofs.Ythhkjbhkginecaa.Share
set_option linter.unusedVariables false
open Go.RowKit Ints

/-- what the division by weights gives: the part of one weight, and its rest -/
def ptV (T S x : Int) : Int := T / S * x + T % S * x / S
def rsV (T S x : Int) : Int := T % S * x % S

theorem ptBd {T S x : Int} (h0 : 0 ≤ T) (h1 : T ≤ 1000000000000000) (hx : 0 ≤ x) (hx' : x ≤ 1000000) (hxs : x ≤ S) (hs : 1 ≤ S) (hs' : S ≤ 16000000) :
    0 ≤ T / S ∧ T / S ≤ 1000000000000000 ∧ 0 ≤ T % S ∧ T % S < S ∧ 0 ≤ T % S * x ∧ T % S * x ≤ 16000000000000 ∧ 0 ≤ T % S * x / S ∧ T % S * x / S ≤ T % S ∧ 0 ≤ T / S * x ∧ T / S * x + T % S ≤ T ∧ 0 ≤ T % S * x % S ∧ T % S * x % S < S := by
  have d1 : 0 ≤ T / S := Int.ediv_nonneg h0 (by omega)
  have d2 : T / S ≤ T := Int.ediv_le_self _ h0
  have m1 : 0 ≤ T % S := Int.emod_nonneg _ (by omega)
  have m2 : T % S < S := Int.emod_lt_of_pos _ (by omega)
  have p1 : 0 ≤ T % S * x := Int.mul_nonneg m1 hx
  have p2 : T % S * x ≤ 16000000 * 1000000 := Int.mul_le_mul (by omega) hx' hx (by omega)
  have q1 : 0 ≤ T % S * x / S := Int.ediv_nonneg p1 (by omega)
  have q2 : T % S * x / S ≤ T % S := by
    have : T % S * x ≤ T % S * S := Int.mul_le_mul_of_nonneg_left hxs m1
    have h3 := Int.ediv_le_ediv (c := S) (by omega) this
    rwa [Int.mul_ediv_cancel _ (by omega)] at h3
  have e1 : T / S * x ≤ T / S * S := Int.mul_le_mul_of_nonneg_left hxs d1
  have e2 := Int.mul_ediv_add_emod T S
  have e3 : T / S * S = S * (T / S) := Int.mul_comm _ _
  refine ⟨d1, by omega, m1, m2, p1, by omega, q1, q2, Int.mul_nonneg d1 hx, by omega, Int.emod_nonneg _ (by omega), Int.emod_lt_of_pos _ (by omega)⟩

theorem moreS (v : Value) (l : List Int) (i j : Nat) (w : World) (h : IR w v l) (hi : i < l.length) (hj : j < l.length) :
    Calls Try.prog 34 #[v, .int .i64 i, .int .i64 j] w fun e w' => e = .returned (.bool (decide (l.getD j 0 < l.getD i 0) || (l.getD i 0 == l.getD j 0) && decide (i < j))) ∧ ∃ k, w' = w.drewN k := by
  have hl := h.len
  rcases h with ⟨_, rfl⟩ | ⟨b, o, cap, rfl, _, hc⟩
  · simp at hi
  have c1 := (hc.2 i hi).1
  have c2 := (hc.2 j hj).1
  have i1 : (0 : Int) ≤ (i : Int) := by omega
  have i2 : (i : Int) < (l.length : Int) := by omega
  have j1 : (0 : Int) ≤ (j : Int) := by omega
  have j2 : (j : Int) < (l.length : Int) := by omega
  clear hc
  generalize l.getD j 0 = y at *
  generalize l.getD i 0 = x at *
  by_cases h1 : y < x
  · have e : (decide (y < x) || (x == y) && decide (i < j)) = true := by simp [h1]
    rw [e]
    clear e
    go_enter Try.func34, Try.ntmps34
    go_wp2
    go_quiet (fail)
    go_wp2
    go_ret
    exact ⟨rfl, _, rfl⟩
  · by_cases h2 : x = y
    · have h2' : (x == y) = true := by simpa using h2
      have e : (decide (y < x) || (x == y) && decide (i < j)) = decide ((i : Int) < j) := by simp [h2]
      rw [e]
      clear e h2
      go_enter Try.func34, Try.ntmps34
      go_wp2
      go_quiet (fail)
      go_wp2
      go_ret
      exact ⟨congrArg (fun b => Ending.returned (Value.bool b)) (by simp <;> omega), _, rfl⟩
    · have h2' : (x == y) = false := by simpa using h2
      have e : (decide (y < x) || (x == y) && decide (i < j)) = false := by simp [h1, h2]
      rw [e]
      clear e h2
      go_enter Try.func34, Try.ntmps34
      go_wp2
      go_quiet (fail)
      go_wp2
      go_ret
      exact ⟨congrArg (fun b => Ending.returned (Value.bool b)) (by simp [h1] <;> omega), _, rfl⟩
theorem no_of {ws : List Int} {T : Int} (h : wgtB ws = false ∨ T < 0 ∨ 1000000000000000 < T) : wgtB ws = false ∨ (wgtB ws = true ∧ T < 0) ∨ (wgtB ws = true ∧ ¬ T < 0 ∧ 1000000000000000 < T) := by
  cases hb : wgtB ws
  · exact .inl rfl
  · right
    rw [hb] at h
    rcases h with h | h | h
    · cases h
    · exact .inl ⟨rfl, h⟩
    · exact .inr ⟨rfl, by omega, h⟩

theorem shareS_no (v : Value) (ws : List Int) (T : Int) (w : World) (h : IR w v ws) (hn : wgtB ws = false ∨ T < 0 ∨ 1000000000000000 < T) :
    Calls Try.prog 10 #[.int .i64 T, v] w fun e w' => e = .returned (.tuple #[.slice none 0 0, .bool false]) ∧ w' = w := by
  have hw := wgtS v ws w h
  obtain ⟨a, c, rfl⟩ := slice_form h
  have hl := h.len
  clear h
  rcases no_of hn with h1 | ⟨h1, h2⟩ | ⟨h1, h2, h3⟩
  · rw [h1] at hw
    generalize wgtV ws = V at *
    go_enter Try.func10, Try.ntmps10
    go_wp2_with (first | (go_at_call 33; refine hw.mono ?_; rintro e w' ⟨rfl, rfl⟩))
    go_ret2
    exact ⟨rfl, rfl⟩
  · rw [h1] at hw
    generalize wgtV ws = V at *
    go_enter Try.func10, Try.ntmps10
    go_wp2_with (first | (go_at_call 33; refine hw.mono ?_; rintro e w' ⟨rfl, rfl⟩))
    go_ret2
    exact ⟨rfl, rfl⟩
  · rw [h1] at hw
    generalize wgtV ws = V at *
    go_enter Try.func10, Try.ntmps10
    go_wp2_with (first | (go_at_call 33; refine hw.mono ?_; rintro e w' ⟨rfl, rfl⟩))
    go_ret2
    exact ⟨rfl, rfl⟩

def moreB (rs : List Int) (j i : Nat) : Bool := decide (rs.getD i 0 < rs.getD j 0) || (rs.getD j 0 == rs.getD i 0) && decide (j < i)
def cnt (rs : List Int) (i k : Nat) : Nat := (List.range k).countP fun j => moreB rs j i
theorem cnt_step (rs : List Int) (i k : Nat) : cnt rs i (k + 1) = cnt rs i k + if moreB rs k i = true then 1 else 0 := by
  unfold cnt
  rw [List.range_succ, List.countP_append]; simp
theorem cnt_le (rs : List Int) (i k : Nat) : cnt rs i k ≤ k := by
  unfold cnt
  exact Nat.le_trans List.countP_le_length (by simp)
theorem more_irr (rs : List Int) (i : Nat) : moreB rs i i = false := by simp [moreB]
def pts (T : Int) (ws : List Int) : List Int := ws.map (ptV T ws.sum)
def rss (T : Int) (ws : List Int) : List Int := ws.map (rsV T ws.sum)
def leftV (T : Int) (ws : List Int) : Int := T - (pts T ws).sum
def finV (T : Int) (ws : List Int) (i : Nat) : Int := (pts T ws).getD i 0 + if (cnt (rss T ws) i ws.length : Int) < leftV T ws then 1 else 0
def shareV (T : Int) (ws : List Int) : List Int := (List.range ws.length).map (finV T ws)

theorem wgt_good {ws : List Int} (h : wgtB ws = true) : ws.length ≤ 16 ∧ (∀ j, j < ws.length → 0 ≤ ws.getD j 0 ∧ ws.getD j 0 ≤ 1000000 ∧ ws.getD j 0 ≤ ws.sum) ∧ 1 ≤ ws.sum ∧ ws.sum ≤ 16000000 ∧ wgtV ws = ws.sum ∧ 0 < ws.length := by
  unfold wgtB at h
  simp only [Bool.and_eq_true, decide_eq_true_eq] at h
  obtain ⟨⟨h1, h2⟩, h3⟩ := h
  have hall : ∀ j, j < ws.length → okW (ws.getD j 0) = true := fun j hj => by
    cases e : okW (ws.getD j 0)
    · rw [allW_not hj e] at h2; cases h2
    · rfl
  have hb := sum_bd ws ws.length hall (Nat.le_refl _)
  rw [List.take_length] at hb
  have hle : ∀ (l : List Int), (∀ x ∈ l, 0 ≤ x) → ∀ x ∈ l, x ≤ l.sum := by
    intro l
    have hnn : ∀ (l : List Int), (∀ x ∈ l, 0 ≤ x) → 0 ≤ l.sum := by
      intro l
      induction l with
      | nil => intro _; simp
      | cons a l ih => intro h; have := ih (fun x hx => h x (by simp [hx])); have := h a (by simp); rw [List.sum_cons]; omega
    induction l with
    | nil => intro _ x hx; simp at hx
    | cons a l ih =>
      intro h x hx
      rw [List.sum_cons]
      have ha := h a (by simp)
      have hl := hnn l (fun x hx => h x (by simp [hx]))
      rcases List.mem_cons.1 hx with rfl | hx
      · omega
      · have := ih (fun x hx => h x (by simp [hx])) x hx; omega
  have hr : ∀ j, j < ws.length → 0 ≤ ws.getD j 0 ∧ ws.getD j 0 ≤ 1000000 := fun j hj => by
    have := hall j hj; unfold okW at this; simpa using this
  refine ⟨h1, fun j hj => ⟨(hr j hj).1, (hr j hj).2, ?_⟩, by omega, by omega, ?_, ?_⟩
  · refine hle ws ?_ _ (by simp [List.getD, hj])
    intro x hx
    obtain ⟨k, hk, rfl⟩ := List.getElem_of_mem hx
    have := (hr k hk).1
    simpa [List.getD, hk] using this
  · unfold wgtV; rw [if_pos ⟨h1, h2⟩]
  · cases ws with
    | nil => simp at h3
    | cons a l => simp

end Go.Proofs.Ythhkjbhkginecaa.Share
