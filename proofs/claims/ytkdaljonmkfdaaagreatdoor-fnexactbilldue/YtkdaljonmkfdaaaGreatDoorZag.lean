/-
  Texts of this proof laid together, in build order; each says of itself what it holds.
-/
import Derived.Test.YtkdaljonmkfdaaaGreatDoorZac
import Derived.Test.YtkdaljonmkfdaaaGreatDoorZad
import Derived.WideLaws
import Derived.Deep.RegionWith
section
/-
  Steps that are right (impl.stepsRight).
-/
namespace Go.Proofs.YtkdaljonmkfdaaaGreatDoor.Tiers
set_option linter.unusedVariables false
open Go.RowKit

theorem numI (x : Int) (w : World) : Calls Tryz.prog 214 #[.int .i64 x] w fun e w' => e = .returned (.bool (numB x)) ∧ w' = w := by
  by_cases h1 : 0 ≤ x
  · by_cases h2 : x ≤ 1000000000
    · have e : numB x = true := decide_eq_true ⟨h1, h2⟩
      rw [e]; clear e
      go_enter Tryz.func214, Tryz.ntmps214
      go_wp2
      go_ret
      exact ⟨rfl, rfl⟩
    · have e : numB x = false := decide_eq_false (by omega)
      rw [e]; clear e
      go_enter Tryz.func214, Tryz.ntmps214
      go_wp2
      go_ret
      exact ⟨rfl, rfl⟩
  · have e : numB x = false := decide_eq_false (by omega)
    rw [e]; clear e
    go_enter Tryz.func214, Tryz.ntmps214
    go_wp2
    go_ret
    exact ⟨rfl, rfl⟩

set_option maxHeartbeats 2000000 in
/-- impl.stepsRight -/
theorem rightI (v : Value) (l : List T) (w : World) (h : TR w v l) (hl : l.length ≤ 1048576) :
    Calls Tryz.prog 213 #[v] w fun e w' => e = .returned (.bool (rightB l)) ∧ Below w.heap.size w w' := by
  by_cases hsz : 1 ≤ l.length ∧ l.length ≤ 6
  · rcases h with ⟨rfl, a, c, rfl⟩ | ⟨b, o, cap, rfl, hc⟩
    · simp at hsz
    obtain ⟨z1, z2⟩ := hsz
    have y1 : (1 : Int) ≤ (l.length : Int) := by omega
    have y2 : (l.length : Int) ≤ 6 := by omega
    generalize hr : rightB l = r
    have HR := hide hr
    have HC := hide hc
    clear hr hc
    go_enter Tryz.func213, Tryz.ntmps213
    go_wp2
    go_loopw [16] (fun i wr => ∃ k : Nat, k ≤ l.length ∧ i = .int .i64 k ∧ Hid (∀ j, j < k → okT l.length j (l.getD j T0) = true) ∧ Hid (Below w.heap.size w wr)) (fun i _ => l.length - (intOf i).toNat)
    case atStart => exact ⟨0, Nat.zero_le _, rfl, hide (fun j hj => by omega), hide (Below.refl _ _)⟩
    case round =>
      obtain ⟨k, hk, rfl, hd, hb⟩ := hrel
      by_cases hlt : k < l.length
      · obtain ⟨c0, c1⟩ := ((unhide HC).kept (unhide hb)).2 k hlt
        have i1 : (0 : Int) ≤ (k : Int) := by omega
        have i2 : (k : Int) < (l.length : Int) := by omega
        have HB : Hid (∀ o, Below w.heap.size w (wr.alloc o)) := hide (fun o => (unhide hb).alloc (unhide hb).size o)
        cases ho : okT l.length k (l.getD k T0)
        · have hr : r = false := (unhide HR).symm.trans (rightB_bad hlt ho)
          subst hr
          have hno := mt okT_mk (by rw [ho]; simp)
          clear ho hd
          generalize (l.getD k T0).1 = x at *
          generalize (l.getD k T0).2 = y at *
          by_cases a1 : k + 1 = l.length
          all_goals by_cases a2 : x = 0
          all_goals by_cases x1 : 0 ≤ x ∧ x ≤ 1000000000
          all_goals by_cases q1 : 0 ≤ y ∧ y ≤ 1000000000
          all_goals first | (exfalso; omega) | skip
          all_goals clear hno
          all_goals first | (have b1 : ((k : Int) == (l.length : Int) - 1) = true := beq_iff_eq.2 (by omega)) | (have b1 : ((k : Int) == (l.length : Int) - 1) = false := beq_eq_false_iff_ne.2 (by omega))
          all_goals first | (have b2 : (x == 0) = true := beq_iff_eq.2 (by omega)) | (have b2 : (x == 0) = false := beq_eq_false_iff_ne.2 (by omega))
          all_goals first | (have b3 : numB x = true := decide_eq_true x1) | (have b3 : numB x = false := decide_eq_false x1)
          all_goals first | (have b4 : numB y = true := decide_eq_true q1) | (have b4 : numB y = false := decide_eq_false q1)
          all_goals clear a1 a2 x1 q1
          all_goals go_wp2_with (go_at_call 214; refine (numI _ _).mono ?_; rintro e w1 ⟨rfl, rfl⟩)
          all_goals go_ret
          all_goals exact ⟨rfl, unhide HB _⟩
        · obtain ⟨o1, o2, o3, o4, o5⟩ := okT_of ho
          have hd' : Hid (∀ j, j < k + 1 → okT l.length j (l.getD j T0) = true) := hide (fun j hj => by
            by_cases e : j < k
            · exact unhide hd j e
            · obtain rfl : j = k := by omega
              exact ho)
          clear ho hd
          generalize (l.getD k T0).1 = x at *
          generalize (l.getD k T0).2 = y at *
          have b3 : numB x = true := decide_eq_true ⟨o2, o3⟩
          have b4 : numB y = true := decide_eq_true ⟨o4, o5⟩
          by_cases a1 : k + 1 = l.length
          · have b1 : ((k : Int) == (l.length : Int) - 1) = true := beq_iff_eq.2 (by omega)
            have b2 : (x == 0) = true := beq_iff_eq.2 (o1.1 a1)
            clear a1 o1
            go_wp2_with (go_at_call 214; refine (numI _ _).mono ?_; rintro e w1 ⟨rfl, rfl⟩)
            exact ⟨⟨k + 1, by omega, by go_num, hd', hide (unhide HB _)⟩, by simp [intOf]; omega⟩
          · have b1 : ((k : Int) == (l.length : Int) - 1) = false := beq_eq_false_iff_ne.2 (by omega)
            have b2 : (x == 0) = false := beq_eq_false_iff_ne.2 (fun e => a1 (o1.2 e))
            clear a1 o1
            go_wp2_with (go_at_call 214; refine (numI _ _).mono ?_; rintro e w1 ⟨rfl, rfl⟩)
            exact ⟨⟨k + 1, by omega, by go_num, hd', hide (unhide HB _)⟩, by simp [intOf]; omega⟩
      · have hr : r = true := (unhide HR).symm.trans (rightB_yes ⟨z1, z2⟩ (fun i hi => unhide hd i (by omega)))
        subst hr
        go_wp2
        go_ret
        exact ⟨rfl, unhide hb⟩
  · rw [rightB_size hsz]
    have e1 : ∃ a c, v = .slice a l.length c := by
      rcases h with ⟨rfl, a, c, rfl⟩ | ⟨b, o, cap, rfl, _⟩
      · exact ⟨_, _, rfl⟩
      · exact ⟨_, _, rfl⟩
    obtain ⟨a, c, rfl⟩ := e1
    clear h
    by_cases z1 : (l.length : Int) < 1
    · go_enter Tryz.func213, Tryz.ntmps213
      go_wp2
      go_ret
      exact ⟨rfl, Below.refl _ _⟩
    · have z2 : (6 : Int) < l.length := by omega
      go_enter Tryz.func213, Tryz.ntmps213
      go_wp2
      go_ret
      exact ⟨rfl, Below.refl _ _⟩
end Go.Proofs.YtkdaljonmkfdaaaGreatDoor.Tiers
end

section
/-
  The methods 'fits' of the kinds.
-/
namespace Go.Proofs.YtkdaljonmkfdaaaGreatDoor.Rule
set_option linter.unusedVariables false
open Go.RowKit Tiers
open Kinds hiding hide unhide below_trans ext_toList

theorem zero_yes {n : Nat} (h : n = 0) : ((n : Int) == 0) = true := by simp [h]
theorem zero_no {n : Nat} (h : ¬ n = 0) : ((n : Int) == 0) = false := by simp [h]
theorem below2 (w : World) (o p : Obj) : Below w.heap.size w ((w.alloc o).alloc p) := ((Below.refl _ _).alloc (Nat.le_refl _) _).alloc (by simp) _

set_option maxHeartbeats 1000000 in
theorem fitsLook (s : ByteArray) (q k n : Int) (m : ByteArray) (ka ta : Option Addr) (nk kc tn tc : Nat) (w : World) (h2 : tn ≤ maxLen) :
    Calls Tryz.prog 194 #[.agg #[.string s, .int .i64 q], .agg #[.int .i64 k, .int .i64 n, .string m, .slice ka nk kc, .slice ta tn tc]] w fun e w' => e = .returned (.bool (decide (n = 0) && decide (m.size = 0) && decide (tn = 0))) ∧ Below w.heap.size w w' := by
  unfold maxLen at h2
  by_cases n0 : n = 0
  · have b1 : (n == 0) = true := by simp [n0]
    by_cases m0 : m.size = 0
    · have b2 := isEmpty_yes m0
      by_cases t0 : tn = 0
      · have b3 := zero_yes t0
        have e : (decide (n = 0) && decide (m.size = 0) && decide (tn = 0)) = true := by simp [n0, m0, t0]
        rw [e]
        clear e
        go_enter Tryz.func194, Tryz.ntmps194
        go_wp2
        go_ret
        exact ⟨rfl, below2 _ _ _⟩
      · have b3 := zero_no t0
        have e : (decide (n = 0) && decide (m.size = 0) && decide (tn = 0)) = false := by simp [n0, m0, t0]
        rw [e]
        clear e
        go_enter Tryz.func194, Tryz.ntmps194
        go_wp2
        go_ret
        exact ⟨rfl, below2 _ _ _⟩
    · have b2 := isEmpty_no m0
      have e : (decide (n = 0) && decide (m.size = 0) && decide (tn = 0)) = false := by simp [n0, m0]
      rw [e]
      clear e
      go_enter Tryz.func194, Tryz.ntmps194
      go_wp2
      go_ret
      exact ⟨rfl, below2 _ _ _⟩
  · have b1 : (n == 0) = false := by simp [n0]
    have e : (decide (n = 0) && decide (m.size = 0) && decide (tn = 0)) = false := by simp [n0]
    rw [e]
    clear e
    go_enter Tryz.func194, Tryz.ntmps194
    go_wp2
    go_ret
    exact ⟨rfl, below2 _ _ _⟩

set_option maxHeartbeats 1000000 in
theorem fitsNum (s : ByteArray) (q k n : Int) (m : ByteArray) (ka ta : Option Addr) (nk kc tn tc : Nat) (w : World) (h2 : tn ≤ maxLen) :
    Calls Tryz.prog 198 #[.agg #[.string s, .int .i64 q], .agg #[.int .i64 k, .int .i64 n, .string m, .slice ka nk kc, .slice ta tn tc]] w fun e w' => e = .returned (.bool (decide (-1000000000 ≤ n ∧ n ≤ 1000000000) && decide (m.size = 0) && decide (tn = 0))) ∧ Below w.heap.size w w' := by
  unfold maxLen at h2
  by_cases r1 : -1000000000 ≤ n
  · have r1' : decide (-1000000000 ≤ n) = true := decide_eq_true r1
    by_cases r2 : n ≤ 1000000000
    · have r2' : decide (n ≤ 1000000000) = true := decide_eq_true r2
      by_cases m0 : m.size = 0
      · have b2 := isEmpty_yes m0
        by_cases t0 : tn = 0
        · have b3 := zero_yes t0
          have e : (decide (-1000000000 ≤ n ∧ n ≤ 1000000000) && decide (m.size = 0) && decide (tn = 0)) = true := by simp [r1, r2, m0, t0]
          rw [e]
          clear e
          go_enter Tryz.func198, Tryz.ntmps198
          go_wp2
          go_ret
          exact ⟨rfl, below2 _ _ _⟩
        · have b3 := zero_no t0
          have e : (decide (-1000000000 ≤ n ∧ n ≤ 1000000000) && decide (m.size = 0) && decide (tn = 0)) = false := by simp [r1, r2, m0, t0]
          rw [e]
          clear e
          go_enter Tryz.func198, Tryz.ntmps198
          go_wp2
          go_ret
          exact ⟨rfl, below2 _ _ _⟩
      · have b2 := isEmpty_no m0
        have e : (decide (-1000000000 ≤ n ∧ n ≤ 1000000000) && decide (m.size = 0) && decide (tn = 0)) = false := by simp [r1, r2, m0]
        rw [e]
        clear e
        go_enter Tryz.func198, Tryz.ntmps198
        go_wp2
        go_ret
        exact ⟨rfl, below2 _ _ _⟩
    · have r2' : decide (n ≤ 1000000000) = false := decide_eq_false r2
      have e : (decide (-1000000000 ≤ n ∧ n ≤ 1000000000) && decide (m.size = 0) && decide (tn = 0)) = false := by simp [r1, r2]
      rw [e]
      clear e
      go_enter Tryz.func198, Tryz.ntmps198
      go_wp2
      go_ret
      exact ⟨rfl, below2 _ _ _⟩
  · have r1' : decide (-1000000000 ≤ n) = false := decide_eq_false r1
    have e : (decide (-1000000000 ≤ n ∧ n ≤ 1000000000) && decide (m.size = 0) && decide (tn = 0)) = false := by simp [r1]
    rw [e]
    clear e
    go_enter Tryz.func198, Tryz.ntmps198
    go_wp2
    go_ret
    exact ⟨rfl, below2 _ _ _⟩

set_option maxHeartbeats 1000000 in
theorem fitsPart (s : ByteArray) (q k n : Int) (m : ByteArray) (ka ta : Option Addr) (nk kc tn tc : Nat) (w : World) (h2 : tn ≤ maxLen) :
    Calls Tryz.prog 205 #[.agg #[.string s, .int .i64 q], .agg #[.int .i64 k, .int .i64 n, .string m, .slice ka nk kc, .slice ta tn tc]] w fun e w' => e = .returned (.bool (decide (0 ≤ n ∧ n ≤ 1000000) && decide (m.size = 0) && decide (tn = 0))) ∧ Below w.heap.size w w' := by
  unfold maxLen at h2
  by_cases r1 : 0 ≤ n
  · have r1' : decide (0 ≤ n) = true := decide_eq_true r1
    by_cases r2 : n ≤ 1000000
    · have r2' : decide (n ≤ 1000000) = true := decide_eq_true r2
      by_cases m0 : m.size = 0
      · have b2 := isEmpty_yes m0
        by_cases t0 : tn = 0
        · have b3 := zero_yes t0
          have e : (decide (0 ≤ n ∧ n ≤ 1000000) && decide (m.size = 0) && decide (tn = 0)) = true := by simp [r1, r2, m0, t0]
          rw [e]
          clear e
          go_enter Tryz.func205, Tryz.ntmps205
          go_wp2
          go_ret
          exact ⟨rfl, below2 _ _ _⟩
        · have b3 := zero_no t0
          have e : (decide (0 ≤ n ∧ n ≤ 1000000) && decide (m.size = 0) && decide (tn = 0)) = false := by simp [r1, r2, m0, t0]
          rw [e]
          clear e
          go_enter Tryz.func205, Tryz.ntmps205
          go_wp2
          go_ret
          exact ⟨rfl, below2 _ _ _⟩
      · have b2 := isEmpty_no m0
        have e : (decide (0 ≤ n ∧ n ≤ 1000000) && decide (m.size = 0) && decide (tn = 0)) = false := by simp [r1, r2, m0]
        rw [e]
        clear e
        go_enter Tryz.func205, Tryz.ntmps205
        go_wp2
        go_ret
        exact ⟨rfl, below2 _ _ _⟩
    · have r2' : decide (n ≤ 1000000) = false := decide_eq_false r2
      have e : (decide (0 ≤ n ∧ n ≤ 1000000) && decide (m.size = 0) && decide (tn = 0)) = false := by simp [r1, r2]
      rw [e]
      clear e
      go_enter Tryz.func205, Tryz.ntmps205
      go_wp2
      go_ret
      exact ⟨rfl, below2 _ _ _⟩
  · have r1' : decide (0 ≤ n) = false := decide_eq_false r1
    have e : (decide (0 ≤ n ∧ n ≤ 1000000) && decide (m.size = 0) && decide (tn = 0)) = false := by simp [r1]
    rw [e]
    clear e
    go_enter Tryz.func205, Tryz.ntmps205
    go_wp2
    go_ret
    exact ⟨rfl, below2 _ _ _⟩

set_option maxHeartbeats 1000000 in
theorem fitsMeter (s : ByteArray) (q k n : Int) (m : ByteArray) (ka ta : Option Addr) (nk kc tc : Nat) (ts : List T) (w : World) (z1 : m.size ≤ maxLen) (z2 : ts.length ≤ maxLen) :
    Calls Tryz.prog 201 #[.agg #[.string s, .int .i64 q], .agg #[.int .i64 k, .int .i64 n, .string m, .slice ka nk kc, .slice ta ts.length tc]] w fun e w' => e = .returned (.bool (nameB m && decide (n = 0) && decide (ts.length = 0))) ∧ Below w.heap.size w w' := by
  unfold maxLen at z2
  generalize hr : (nameB m && decide (n = 0) && decide (ts.length = 0)) = r
  have HR := hide hr
  clear hr
  go_enter Tryz.func201, Tryz.ntmps201
  go_wp2_with (fail)
  refine (nameI m _ z1).mono ?_
  rintro e w1 ⟨rfl, hb1⟩
  have hc := (hb1.cell (p := ⟨w.heap.size + 1, 1, none⟩) (by simp))
  have hd := (hb1.cell (p := ⟨w.heap.size + 1, 2, none⟩) (by simp))
  have he := (hb1.cell (p := ⟨w.heap.size + 1, 4, none⟩) (by simp))
  have n5 := new5 (w.alloc (.cells #[.string s, .int .i64 q] 149)) (.int .i64 k) (.int .i64 n) (.string m) (.slice ka nk kc) (.slice ta ts.length tc) 25
  simp only [World.size_alloc] at n5
  rw [n5.2.1] at hc
  rw [n5.2.2.1] at hd
  rw [n5.2.2.2.2] at he
  have HB := hide ((below2 _ _ _).trans (hb1.mono (by simp; omega)))
  clear hb1 n5
  cases hkey : nameB m
  · simp only [hkey, Bool.false_and] at HR
    have := unhide HR; subst this
    go_wp2_with (fail)
    go_ret
    exact ⟨rfl, unhide HB⟩
  · simp only [hkey, Bool.true_and] at HR
    by_cases n0 : n = 0
    · have b1 : (n == 0) = true := by simp [n0]
      by_cases t0 : ts.length = 0
      · have b3 := zero_yes t0
        have hr : r = true := (unhide HR).symm.trans (by simp [n0, t0])
        subst hr
        go_wp2_with (fail)
        go_ret
        exact ⟨rfl, unhide HB⟩
      · have b3 := zero_no t0
        have hr : r = false := (unhide HR).symm.trans (by simp [t0])
        subst hr
        go_wp2_with (fail)
        go_ret
        exact ⟨rfl, unhide HB⟩
    · have b1 : (n == 0) = false := by simp [n0]
      have hr : r = false := (unhide HR).symm.trans (by simp [n0])
      subst hr
      go_wp2_with (fail)
      go_ret
      exact ⟨rfl, unhide HB⟩

set_option maxHeartbeats 1000000 in
theorem fitsSteps (s : ByteArray) (q k n : Int) (m : ByteArray) (ka ta : Option Addr) (nk kc tc : Nat) (ts : List T) (w : World) (z2 : ts.length ≤ 1048576) (hT : TR w (.slice ta ts.length tc) ts) :
    Calls Tryz.prog 210 #[.agg #[.string s, .int .i64 q], .agg #[.int .i64 k, .int .i64 n, .string m, .slice ka nk kc, .slice ta ts.length tc]] w fun e w' => e = .returned (.bool (rightB ts && decide (n = 0) && decide (m.size = 0))) ∧ Below w.heap.size w w' := by
  have HT := hide hT
  clear hT
  generalize hr : (rightB ts && decide (n = 0) && decide (m.size = 0)) = r
  have HR := hide hr
  clear hr
  go_enter Tryz.func210, Tryz.ntmps210
  go_wp2_with (fail)
  refine (rightI _ ts _ ((unhide HT).kept (below2 _ _ _)) z2).mono ?_
  rintro e w1 ⟨rfl, hb1⟩
  have hc := (hb1.cell (p := ⟨w.heap.size + 1, 1, none⟩) (by simp))
  have hd := (hb1.cell (p := ⟨w.heap.size + 1, 2, none⟩) (by simp))
  have he := (hb1.cell (p := ⟨w.heap.size + 1, 4, none⟩) (by simp))
  have n5 := new5 (w.alloc (.cells #[.string s, .int .i64 q] 155)) (.int .i64 k) (.int .i64 n) (.string m) (.slice ka nk kc) (.slice ta ts.length tc) 25
  simp only [World.size_alloc] at n5
  rw [n5.2.1] at hc
  rw [n5.2.2.1] at hd
  rw [n5.2.2.2.2] at he
  have HB := hide ((below2 _ _ _).trans (hb1.mono (by simp; omega)))
  clear hb1 n5
  cases hkey : rightB ts
  · simp only [hkey, Bool.false_and] at HR
    have := unhide HR; subst this
    go_wp2_with (fail)
    go_ret
    exact ⟨rfl, unhide HB⟩
  · simp only [hkey, Bool.true_and] at HR
    by_cases n0 : n = 0
    · have b1 : (n == 0) = true := by simp [n0]
      by_cases m0 : m.size = 0
      · have b2 := isEmpty_yes m0
        have hr : r = true := (unhide HR).symm.trans (by simp [n0, m0])
        subst hr
        go_wp2_with (fail)
        go_ret
        exact ⟨rfl, unhide HB⟩
      · have b2 := isEmpty_no m0
        have hr : r = false := (unhide HR).symm.trans (by simp [m0])
        subst hr
        go_wp2_with (fail)
        go_ret
        exact ⟨rfl, unhide HB⟩
    · have b1 : (n == 0) = false := by simp [n0]
      have hr : r = false := (unhide HR).symm.trans (by simp [n0])
      subst hr
      go_wp2_with (fail)
      go_ret
      exact ⟨rfl, unhide HB⟩
end Go.Proofs.YtkdaljonmkfdaaaGreatDoor.Rule
end

section
/-
  impl.okWithin, impl.RuleOk.
-/
namespace Go.Proofs.YtkdaljonmkfdaaaGreatDoor.Rule
set_option linter.unusedVariables false
open Go.RowKit Tiers
open Kinds hiding hide unhide below_trans ext_toList

/-- which function 'fits' is -/
def fitsF (k : Int) : Nat := if k = 1 then 198 else if k = 2 then 201 else if k = 6 then 205 else if k = 10 then 210 else 194
theorem mFitsPair (s : ByteArray) (n : Int) (f : Value) (w : World) : (method 366 152 (.agg #[.string s, .int .i64 n, f]) "loop.example/scot/impl.fits").run Tryz.prog w = .ok (194, .agg #[.string s, .int .i64 n]) w := by kernel_rfl
theorem mFitsPart (s : ByteArray) (n : Int) (w : World) : (method 366 153 (.agg #[.string s, .int .i64 n]) "loop.example/scot/impl.fits").run Tryz.prog w = .ok (205, .agg #[.string s, .int .i64 n]) w := by kernel_rfl
theorem mFitsIf (s : ByteArray) (n : Int) (w : World) : (method 366 154 (.agg #[.string s, .int .i64 n]) "loop.example/scot/impl.fits").run Tryz.prog w = .ok (194, .agg #[.string s, .int .i64 n]) w := by kernel_rfl
theorem mFitsSteps (s : ByteArray) (n : Int) (w : World) : (method 366 155 (.agg #[.string s, .int .i64 n]) "loop.example/scot/impl.fits").run Tryz.prog w = .ok (210, .agg #[.string s, .int .i64 n]) w := by kernel_rfl
theorem mFitsNum (s : ByteArray) (n : Int) (w : World) : (method 366 148 (.agg #[.string s, .int .i64 n]) "loop.example/scot/impl.fits").run Tryz.prog w = .ok (198, .agg #[.string s, .int .i64 n]) w := by kernel_rfl
theorem mFitsMeter (s : ByteArray) (n : Int) (w : World) : (method 366 149 (.agg #[.string s, .int .i64 n]) "loop.example/scot/impl.fits").run Tryz.prog w = .ok (201, .agg #[.string s, .int .i64 n]) w := by kernel_rfl
theorem mFits {k : Int} (h : 1 ≤ k ∧ k ≤ 10) (w : World) : (method 366 (typeK k) (recK k) "loop.example/scot/impl.fits").run Tryz.prog w = .ok (fitsF k, lookV k) w := by
  rcases cases10 h with rfl | rfl | rfl | rfl | rfl | rfl | rfl | rfl | rfl | rfl
  · exact mFitsNum _ _ w
  · exact mFitsMeter _ _ w
  · exact mFitsPair _ _ _ w
  · exact mFitsPair _ _ _ w
  · exact mFitsPair _ _ _ w
  · exact mFitsPart _ _ w
  · exact mFitsPair _ _ _ w
  · exact mFitsPair _ _ _ w
  · exact mFitsIf _ _ w
  · exact mFitsSteps _ _ w
theorem eFits {k : Int} (h : 1 ≤ k ∧ k ≤ 10) (args : Array Value) (w : World) : (callFunc (fitsF k) args).run Tryz.prog w = .ok (.enter (fitsF k) args) w := by
  rcases cases10 h with rfl | rfl | rfl | rfl | rfl | rfl | rfl | rfl | rfl | rfl
  all_goals kernel_rfl
/-- the methods 'fits' -/
theorem fitsI {k : Int} (h : 1 ≤ k ∧ k ≤ 10) (n : Int) (m : ByteArray) (ka ta : Option Addr) (nk kc tc : Nat) (ts : List T) (w : World) (z1 : m.size ≤ maxLen) (z2 : ts.length ≤ 1048576) (hT : TR w (.slice ta ts.length tc) ts) :
    Calls Tryz.prog (fitsF k) #[lookV k, .agg #[.int .i64 k, .int .i64 n, .string m, .slice ka nk kc, .slice ta ts.length tc]] w fun e w' => e = .returned (.bool (fitsB k n m ts)) ∧ Below w.heap.size w w' := by
  have z3 : ts.length ≤ maxLen := by unfold maxLen; omega
  rcases cases10 h with rfl | rfl | rfl | rfl | rfl | rfl | rfl | rfl | rfl | rfl
  · exact fitsNum _ _ _ n m ka ta nk kc _ tc w z3
  · exact fitsMeter _ _ _ n m ka ta nk kc tc ts w z1 z3
  · exact fitsLook _ _ _ n m ka ta nk kc _ tc w z3
  · exact fitsLook _ _ _ n m ka ta nk kc _ tc w z3
  · exact fitsLook _ _ _ n m ka ta nk kc _ tc w z3
  · exact fitsPart _ _ _ n m ka ta nk kc _ tc w z3
  · exact fitsLook _ _ _ n m ka ta nk kc _ tc w z3
  · exact fitsLook _ _ _ n m ka ta nk kc _ tc w z3
  · exact fitsLook _ _ _ n m ka ta nk kc _ tc w z3
  · exact fitsSteps _ _ _ n m ka ta nk kc tc ts w z2 hT

/-- what okWithin tells: r, and what is left of m -/
def WOk (e : Ex) (depth m : Int) (r : Bool) (m' : Int) : Prop := (r = true → m' = m - cnt e ∧ 0 ≤ m' ∧ allB e = true ∧ (dep e : Int) ≤ depth) ∧ (r = false → ¬ (allB e = true ∧ (dep e : Int) ≤ depth ∧ (cnt e : Int) ≤ m))
def OkW (d : Nat) : Prop := ∀ (lo hi pb : Nat) (v : Value) (e : Ex) (depth m : Int) (w : World), EV lo hi w d v e → hi ≤ pb → pb < w.heap.size → wt e ≤ 1048576 → 0 ≤ depth → depth ≤ 8 → 0 ≤ m → m ≤ 40 → w.cell? ⟨pb, 0, none⟩ = some (.int .i64 m) → w.frozen? ⟨pb, 0, none⟩ = false →
  Calls Tryz.prog 109 #[v, .int .i64 depth, .pointer (some ⟨pb, 0, none⟩)] w fun x w' => ∃ (r : Bool) (m' : Int), x = .returned (.bool r) ∧ WOk e depth m r m' ∧ w'.cell? ⟨pb, 0, none⟩ = some (.int .i64 m') ∧ w'.frozen? ⟨pb, 0, none⟩ = false ∧ w.grownBy w' (some pb)

theorem cnt_pos (e : Ex) : 1 ≤ cnt e := by rw [cnt_eq]; omega
theorem dep_pos (e : Ex) : 1 ≤ dep e := by rw [dep_eq]; omega
theorem nodeE_in {e : Ex} (h : nodeE e = true) : 1 ≤ e.kind ∧ e.kind ≤ 10 ∧ (e.kids.length : Int) = kidsK e.kind ∧ fitsB e.kind e.num e.meter e.tiers = true := by
  unfold nodeE nodeB at h
  simp only [Bool.and_eq_true, decide_eq_true_eq] at h
  exact ⟨h.1.1, h.1.2.1, h.1.2.2, h.2⟩
theorem allB_node {e : Ex} (h : allB e = true) : nodeE e = true := by
  rw [allB_eq] at h; simp only [Bool.and_eq_true] at h; exact h.1
theorem after_set (w : World) (o : Obj) (pb : Nat) (u v : Value) (hpb : pb < w.heap.size) (hc : w.cell? ⟨pb, 0, none⟩ = some u) (hf : w.frozen? ⟨pb, 0, none⟩ = false) :
    ((w.setCell ⟨pb, 0, none⟩ v).alloc o).cell? ⟨pb, 0, none⟩ = some v ∧ ((w.setCell ⟨pb, 0, none⟩ v).alloc o).frozen? ⟨pb, 0, none⟩ = false ∧ w.grownBy ((w.setCell ⟨pb, 0, none⟩ v).alloc o) (some pb) := by
  refine ⟨?_, ?_, ⟨rfl, rfl, rfl, by simp, fun j hj hne => ?_⟩⟩
  · rw [(below_alloc _ o).cell (p := ⟨pb, 0, none⟩) (by simpa using hpb)]
    exact World.cell?_setCell_same _ _ _ hc
  · rw [(below_alloc _ o).frozen (p := ⟨pb, 0, none⟩) (by simpa using hpb), World.frozen?_setCell]
    exact hf
  · rw [Below.heap_alloc _ _ _ (by simpa using hj)]
    exact Below.heap_setCell _ ⟨pb, 0, none⟩ v j (by intro e; exact hne (by rw [e]))

set_option maxHeartbeats 1600000 in
theorem okW_head (pb : Nat) (kv tv : Value) (e : Ex) (depth m : Int) (w : World) (hpb : pb < w.heap.size) (d1 : 0 ≤ depth) (d2 : depth ≤ 8) (m1 : 0 ≤ m) (m2 : m ≤ 40) (hc : w.cell? ⟨pb, 0, none⟩ = some (.int .i64 m)) (hf : w.frozen? ⟨pb, 0, none⟩ = false)
    (h : ¬ (1 ≤ e.kind ∧ e.kind ≤ 10) ∨ depth < 1 ∨ m < 1) :
    Calls Tryz.prog 109 #[.agg #[.int .i64 e.kind, .int .i64 e.num, .string e.meter, kv, tv], .int .i64 depth, .pointer (some ⟨pb, 0, none⟩)] w fun x w' => ∃ (r : Bool) (m' : Int), x = .returned (.bool r) ∧ WOk e depth m r m' ∧ w'.cell? ⟨pb, 0, none⟩ = some (.int .i64 m') ∧ w'.frozen? ⟨pb, 0, none⟩ = false ∧ w.grownBy w' (some pb) := by
  have HW : Hid (WOk e depth m false (m - 1)) := hide ⟨fun h => (by cases h), fun _ ⟨a, b, c⟩ => by
    have := nodeE_in (allB_node a)
    have := cnt_pos e
    have := dep_pos e
    omega⟩
  have hne : ¬ w.heap.size = pb := by omega
  have hne' : ¬ pb = w.heap.size := by omega
  obtain ⟨x1, x2, x3⟩ := after_set w (.cells #[.int .i64 e.kind, .int .i64 e.num, .string e.meter, kv, tv] 25) pb _ (.int .i64 (m - 1)) hpb hc hf
  have HX1 := hide x1
  have HX2 := hide x2
  have HX3 := hide x3
  clear x1 x2 x3
  by_cases hk : 1 ≤ e.kind ∧ e.kind ≤ 10
  · have hkv := kindV_in hk
    by_cases hd : depth < 1
    · clear h
      go_enter Tryz.func109, Tryz.ntmps109
      go_wp2_with (fail)
      refine (kindOf _ _).mono ?_
      rintro x w1 ⟨rfl, rfl⟩
      rw [hkv]
      clear hkv
      go_wp2_with (fail)
      go_ret
      exact ⟨_, _, rfl, unhide HW, unhide HX1, unhide HX2, unhide HX3⟩
    · have hm : m - 1 < 0 := by omega
      clear h
      go_enter Tryz.func109, Tryz.ntmps109
      go_wp2_with (fail)
      refine (kindOf _ _).mono ?_
      rintro x w1 ⟨rfl, rfl⟩
      rw [hkv]
      clear hkv
      go_wp2_with (fail)
      go_ret
      exact ⟨_, _, rfl, unhide HW, unhide HX1, unhide HX2, unhide HX3⟩
  · have hkv := kindV_out hk
    clear h
    go_enter Tryz.func109, Tryz.ntmps109
    go_wp2_with (fail)
    refine (kindOf _ _).mono ?_
    rintro x w1 ⟨rfl, rfl⟩
    rw [hkv]
    clear hkv
    go_wp2_with (fail)
    go_ret
    exact ⟨_, _, rfl, unhide HW, unhide HX1, unhide HX2, unhide HX3⟩
end Go.Proofs.YtkdaljonmkfdaaaGreatDoor.Rule
end

section
/-
  impl.okWithin, behind its head.
-/
namespace Go.Proofs.YtkdaljonmkfdaaaGreatDoor.Rule
set_option linter.unusedVariables false
open Go.RowKit Tiers
open Kinds hiding hide unhide below_trans ext_toList

/-- what is there behind the head of okWithin: the expression in its box, and one less in the pointer's cell -/
structure Head (w W : World) (pb : Nat) (e : Ex) (kv tv : Value) (m : Int) : Prop where
  box : W.cell? ⟨w.heap.size, 0, none⟩ = some (.int .i64 e.kind) ∧ W.cell? ⟨w.heap.size, 1, none⟩ = some (.int .i64 e.num) ∧ W.cell? ⟨w.heap.size, 2, none⟩ = some (.string e.meter) ∧ W.cell? ⟨w.heap.size, 3, none⟩ = some kv ∧ W.cell? ⟨w.heap.size, 4, none⟩ = some tv
  cell : W.cell? ⟨pb, 0, none⟩ = some (.int .i64 m)
  frozen : W.frozen? ⟨pb, 0, none⟩ = false
  grown : w.grownBy W (some pb)
  size : w.heap.size < W.heap.size
theorem Head.kept {w W W' : World} {pb : Nat} {e : Ex} {kv tv : Value} {m : Int} (h : Head w W pb e kv tv m) (hb : Below W.heap.size W W') (hpb : pb < w.heap.size) : Head w W' pb e kv tv m := by
  obtain ⟨⟨b0, b1, b2, b3, b4⟩, hc, hf, hg, hs⟩ := h
  refine ⟨⟨(hb.cell (p := ⟨w.heap.size, 0, none⟩) hs).trans b0, (hb.cell (p := ⟨w.heap.size, 1, none⟩) hs).trans b1, (hb.cell (p := ⟨w.heap.size, 2, none⟩) hs).trans b2, (hb.cell (p := ⟨w.heap.size, 3, none⟩) hs).trans b3, (hb.cell (p := ⟨w.heap.size, 4, none⟩) hs).trans b4⟩,
    (hb.cell (p := ⟨pb, 0, none⟩) (by simp; omega)).trans hc, (hb.frozen (p := ⟨pb, 0, none⟩) (by simp; omega)).trans hf, ?_, Nat.lt_of_lt_of_le hs hb.size⟩
  exact ⟨hb.os.trans hg.os, hb.tape.trans hg.tape, hb.output.trans hg.output, Nat.le_trans hg.size hb.size, fun j hj hne => (hb.block j (by omega)).trans (hg.block j hj hne)⟩
theorem Head.drew {w W : World} {pb : Nat} {e : Ex} {kv tv : Value} {m : Int} (h : Head w W pb e kv tv m) : Head w W.drew pb e kv tv m := ⟨h.box, h.cell, h.frozen, ⟨h.grown.os, h.grown.tape, h.grown.output, h.grown.size, h.grown.block⟩, h.size⟩
theorem Head.new (w : World) (pb : Nat) (e : Ex) (kv tv : Value) (m : Int) (t : TypeId) (hpb : pb < w.heap.size) (hc : w.cell? ⟨pb, 0, none⟩ = some (.int .i64 m)) (hf : w.frozen? ⟨pb, 0, none⟩ = false) :
    Head w ((w.setCell ⟨pb, 0, none⟩ (.int .i64 (m - 1))).alloc (.cells #[.int .i64 e.kind, .int .i64 e.num, .string e.meter, kv, tv] t)) pb e kv tv (m - 1) := by
  obtain ⟨x1, x2, x3⟩ := after_set w (.cells #[.int .i64 e.kind, .int .i64 e.num, .string e.meter, kv, tv] t) pb _ (.int .i64 (m - 1)) hpb hc hf
  have n := new5 (w.setCell ⟨pb, 0, none⟩ (.int .i64 (m - 1))) (.int .i64 e.kind) (.int .i64 e.num) (.string e.meter) kv tv t
  have hs : (w.setCell ⟨pb, 0, none⟩ (.int .i64 (m - 1))).heap.size = w.heap.size := by simp
  rw [hs] at n
  exact ⟨n, x1, x2, x3, by simp⟩

set_option maxHeartbeats 1600000 in
theorem okW_kids (pb : Nat) (ka : Option Addr) (kc : Nat) (tv : Value) (e : Ex) (depth m : Int) (w : World) (hpb : pb < w.heap.size) (d1 : 1 ≤ depth) (d2 : depth ≤ 8) (m1 : 1 ≤ m) (m2 : m ≤ 40) (hc : w.cell? ⟨pb, 0, none⟩ = some (.int .i64 m)) (hf : w.frozen? ⟨pb, 0, none⟩ = false)
    (hk : 1 ≤ e.kind ∧ e.kind ≤ 10) (hkl : e.kids.length ≤ 1048576) (h : (e.kids.length : Int) ≠ kidsK e.kind) :
    Calls Tryz.prog 109 #[.agg #[.int .i64 e.kind, .int .i64 e.num, .string e.meter, .slice ka e.kids.length kc, tv], .int .i64 depth, .pointer (some ⟨pb, 0, none⟩)] w fun x w' => ∃ (r : Bool) (m' : Int), x = .returned (.bool r) ∧ WOk e depth m r m' ∧ w'.cell? ⟨pb, 0, none⟩ = some (.int .i64 m') ∧ w'.frozen? ⟨pb, 0, none⟩ = false ∧ w.grownBy w' (some pb) := by
  have HW : Hid (WOk e depth m false (m - 1)) := hide ⟨fun h => (by cases h), fun _ ⟨a, _, _⟩ => h (nodeE_in (allB_node a)).2.2.1⟩
  have b1 : ((e.kids.length : Int) != kidsK e.kind) = true := bne_iff_ne.2 h
  have hne : ¬ w.heap.size = pb := by omega
  have hne' : ¬ pb = w.heap.size := by omega
  have hH := Head.new w pb e (.slice ka e.kids.length kc) tv m 25 hpb hc hf
  obtain ⟨W5, hW5⟩ : ∃ W5, (w.setCell ⟨pb, 0, none⟩ (.int .i64 (m - 1))).alloc (.cells #[.int .i64 e.kind, .int .i64 e.num, .string e.meter, .slice ka e.kids.length kc, tv] 25) = W5 := ⟨_, rfl⟩
  rw [hW5] at hH
  have HW5 := hide hW5
  have HH := hide hH
  obtain ⟨⟨g0, g1, g2, g3, g4⟩, _, _, _, hs5⟩ := hH
  clear hW5 h
  have hkv := kindV_in hk
  have mm1 := mLook hk
  have fl : ∀ (w : World), (Instr.field 93 (.agg #[.string (wordK e.kind), .int .i64 (kidsK e.kind)]) 1).run Tryz.prog w = .ok (.int .i64 (kidsK e.kind)) w := fun w => by kernel_rfl
  go_enter Tryz.func109, Tryz.ntmps109
  go_wp2_with (fail)
  refine (kindOf _ _).mono ?_
  rintro x w1 ⟨rfl, rfl⟩
  rw [hkv]
  clear hkv
  go_wp2_with (fail)
  rw [unhide HW5]
  clear HW5
  first | (go_region_with (go_at_call 195; refine (Kinds.look (wordK e.kind) (kidsK e.kind) _).mono ?_; rintro x w6 ⟨rfl, hb6⟩; have hB6 : Below W5.heap.size W5 w6 := ⟨hb6.os, hb6.tape, hb6.output, hb6.size, hb6.block⟩; clear hb6; have q3 := (hB6.cell (p := ⟨w.heap.size, 3, none⟩) hs5).trans g3)) | fail
  all_goals
    have HH6 := hide ((unhide HH).kept hB6 hpb)
    clear hB6 q3 g0 g1 g2 g3 g4 HH
    go_wp2_with (fail)
    go_ret
    exact ⟨_, _, rfl, unhide HW, (unhide HH6).cell, (unhide HH6).frozen, (unhide HH6).grown⟩

end Go.Proofs.YtkdaljonmkfdaaaGreatDoor.Rule
end

section
/-
  impl.okWithin, kid by kid; impl.RuleOk.
-/
namespace Go.Proofs.YtkdaljonmkfdaaaGreatDoor.Rule
set_option linter.unusedVariables false
open Go.RowKit Tiers
open Kinds hiding hide unhide below_trans ext_toList

/-- a row of kids -/
def KidsAt (lo hi : Nat) (w : World) (d : Nat) (b o : Nat) (l : List Ex) : Prop := lo ≤ b ∧ b < hi ∧ ∀ i, i < l.length →
  ∃ kv tv, (w.cell? ⟨b, o + i * 5, none⟩ = some (.int .i64 (l.getD i E0).kind) ∧ w.cell? ⟨b, o + i * 5 + 1, none⟩ = some (.int .i64 (l.getD i E0).num) ∧ w.cell? ⟨b, o + i * 5 + 2, none⟩ = some (.string (l.getD i E0).meter) ∧
    w.cell? ⟨b, o + i * 5 + 3, none⟩ = some kv ∧ w.cell? ⟨b, o + i * 5 + 4, none⟩ = some tv) ∧
    ((l.getD i E0).meter.size ≤ maxLen ∧ (l.getD i E0).tiers.length ≤ maxLen) ∧ ES lo hi w d kv (l.getD i E0).kids ∧ TL lo hi w tv (l.getD i E0).tiers

theorem allB_at {e : Ex} (h : allB e = true) {k : Nat} (hk : k < e.kids.length) : allB (e.kids.getD k E0) = true := by
  rw [allB_eq] at h
  simp only [Bool.and_eq_true] at h
  cases h' : allB (e.kids.getD k E0)
  · have := allL_take hk
    rw [h', Bool.and_false] at this
    rw [allL_false this] at h
    cases h.2
  · rfl
theorem dep_at {e : Ex} {k : Nat} (hk : k < e.kids.length) : dep (e.kids.getD k E0) + 1 ≤ dep e := by
  have h1 := depL_take hk
  have h2 := depL_le e.kids (k + 1)
  rw [dep_eq e]; omega
theorem cnt_at {e : Ex} {k : Nat} (hk : k < e.kids.length) : 1 + cntL (e.kids.take k) + cnt (e.kids.getD k E0) ≤ cnt e := by
  have h1 := cntL_take hk
  have h2 := cntL_le e.kids (k + 1)
  rw [cnt_eq e]; omega
/-- k kids are done -/
def KidsOk (e : Ex) (depth m : Int) (k : Nat) (mk : Int) : Prop := mk = m - 1 - cntL (e.kids.take k) ∧ 0 ≤ mk ∧ allL (e.kids.take k) = true ∧ (depL (e.kids.take k) : Int) + 1 ≤ depth
theorem KidsOk.no {e : Ex} {depth m : Int} {k : Nat} {mk m' : Int} (h : KidsOk e depth m k mk) (hk : k < e.kids.length) (hw : WOk (e.kids.getD k E0) (depth - 1) mk false m') : WOk e depth m false m' := by
  refine ⟨fun h => (by cases h), fun _ ⟨a, b, c⟩ => hw.2 rfl ⟨allB_at a hk, ?_, ?_⟩⟩
  · have := dep_at hk; omega
  · have := cnt_at hk; have := h.1; omega
theorem KidsOk.step {e : Ex} {depth m : Int} {k : Nat} {mk m' : Int} (h : KidsOk e depth m k mk) (hk : k < e.kids.length) (hw : WOk (e.kids.getD k E0) (depth - 1) mk true m') : KidsOk e depth m (k + 1) m' := by
  obtain ⟨w1, w2, w3, w4⟩ := hw.1 rfl
  obtain ⟨h1, h2, h3, h4⟩ := h
  refine ⟨by rw [cntL_take hk]; omega, w2, by rw [allL_take hk, h3, w3]; rfl, by rw [depL_take hk]; omega⟩
theorem KidsOk.done {e : Ex} {depth m : Int} {mk : Int} (h : KidsOk e depth m e.kids.length mk) (hn : nodeE e = true) : WOk e depth m true mk := by
  obtain ⟨h1, h2, h3, h4⟩ := h
  rw [List.take_length] at h1 h3 h4
  refine ⟨fun _ => ⟨by rw [cnt_eq]; omega, h2, by rw [allB_eq, hn, h3]; rfl, by rw [dep_eq]; omega⟩, fun h => (by cases h)⟩

set_option maxHeartbeats 3000000 in
/-- behind the kids' number: does it fit? then kid by kid -/
theorem okW_rest {d : Nat} (lo hi pb : Nat) (ka : Option Addr) (kc : Nat) (ta : Option Addr) (tc : Nat) (e : Ex) (depth m : Int) (w : World) (hhi : hi ≤ pb) (hpb : pb < w.heap.size) (d1 : 1 ≤ depth) (d2 : depth ≤ 8) (m1 : 1 ≤ m) (m2 : m ≤ 40) (hc : w.cell? ⟨pb, 0, none⟩ = some (.int .i64 m)) (hf : w.frozen? ⟨pb, 0, none⟩ = false)
    (hk : 1 ≤ e.kind ∧ e.kind ≤ 10) (hw : wt e ≤ 1048576) (h : (e.kids.length : Int) = kidsK e.kind) (hz : e.meter.size ≤ maxLen ∧ e.tiers.length ≤ maxLen) (hT : TL lo hi w (.slice ta e.tiers.length tc) e.tiers)
    (H : e.kids ≠ [] → OkW d) (hK : e.kids = [] ∨ ∃ b o, ka = some ⟨b, o, none⟩ ∧ KidsAt lo hi w d b o e.kids) :
    Calls Tryz.prog 109 #[.agg #[.int .i64 e.kind, .int .i64 e.num, .string e.meter, .slice ka e.kids.length kc, .slice ta e.tiers.length tc], .int .i64 depth, .pointer (some ⟨pb, 0, none⟩)] w fun x w' => ∃ (r : Bool) (m' : Int), x = .returned (.bool r) ∧ WOk e depth m r m' ∧ w'.cell? ⟨pb, 0, none⟩ = some (.int .i64 m') ∧ w'.frozen? ⟨pb, 0, none⟩ = false ∧ w.grownBy w' (some pb) := by
  have hww := wt_eq e
  have hkl := wtL_len e.kids
  have hkl2 : e.kids.length ≤ 1048576 := by omega
  have htl2 : e.tiers.length ≤ 1048576 := by omega
  have HQ : Hid ((e.kids.length : Int) = kidsK e.kind) := hide h
  have b1 : ((e.kids.length : Int) != kidsK e.kind) = false := by simp [h]
  have HNO : Hid (fitsB e.kind e.num e.meter e.tiers = false → WOk e depth m false (m - 1)) := hide (fun hf => ⟨fun h => (by cases h), fun _ ⟨a, _, _⟩ => by have := (nodeE_in (allB_node a)).2.2.2; rw [hf] at this; cases this⟩)
  have hne : ¬ w.heap.size = pb := by omega
  have hne' : ¬ pb = w.heap.size := by omega
  have hH := Head.new w pb e (.slice ka e.kids.length kc) (.slice ta e.tiers.length tc) m 25 hpb hc hf
  obtain ⟨W5, hW5⟩ : ∃ W5, (w.setCell ⟨pb, 0, none⟩ (.int .i64 (m - 1))).alloc (.cells #[.int .i64 e.kind, .int .i64 e.num, .string e.meter, .slice ka e.kids.length kc, .slice ta e.tiers.length tc] 25) = W5 := ⟨_, rfl⟩
  rw [hW5] at hH
  have HW5 := hide hW5
  have HH := hide hH
  have hsame : Same lo hi w W5 := fun b h1 h2 => hH.grown.block b (by omega) (by simp; omega)
  have HT5 := hide (hT.kept hsame)
  have HK := hide hK
  have HZ := hide hz
  have HO := hide H
  obtain ⟨⟨g0, g1, g2, g3, g4⟩, _, _, _, hs5⟩ := hH
  clear hW5 h hsame hT hK hz H
  have hkv := kindV_in hk
  have mm1 := mLook hk
  have mm2 := mFits hk
  have mm3 := eFits hk
  have fl : ∀ (w : World), (Instr.field 93 (.agg #[.string (wordK e.kind), .int .i64 (kidsK e.kind)]) 1).run Tryz.prog w = .ok (.int .i64 (kidsK e.kind)) w := fun w => by kernel_rfl
  go_enter Tryz.func109, Tryz.ntmps109
  go_wp2_with (fail)
  refine (kindOf _ _).mono ?_
  rintro x w1 ⟨rfl, rfl⟩
  rw [hkv]
  clear hkv
  go_wp2_with (fail)
  rw [unhide HW5]
  clear HW5
  go_region_held3 (fun w2 => w2.cell? ⟨w.heap.size, 0, none⟩ = some (.int .i64 e.kind) ∧ w2.cell? ⟨w.heap.size, 1, none⟩ = some (.int .i64 e.num) ∧ w2.cell? ⟨w.heap.size, 2, none⟩ = some (.string e.meter) ∧ w2.cell? ⟨w.heap.size, 3, none⟩ = some (.slice ka e.kids.length kc) ∧ w2.cell? ⟨w.heap.size, 4, none⟩ = some (.slice ta e.tiers.length tc)) (go_keep)
    (first | (go_at_call 195; refine (Kinds.look (wordK e.kind) (kidsK e.kind) _).mono ?_; rintro x w6 ⟨rfl, hb6⟩; have hB6 : Below W5.heap.size W5 w6 := ⟨hb6.os, hb6.tape, hb6.output, hb6.size, hb6.block⟩; clear hb6; have q0 := (hB6.cell (p := ⟨w.heap.size, 0, none⟩) hs5).trans g0; have q1 := (hB6.cell (p := ⟨w.heap.size, 1, none⟩) hs5).trans g1; have q2 := (hB6.cell (p := ⟨w.heap.size, 2, none⟩) hs5).trans g2; have q3 := (hB6.cell (p := ⟨w.heap.size, 3, none⟩) hs5).trans g3; have q4 := (hB6.cell (p := ⟨w.heap.size, 4, none⟩) hs5).trans g4) | (refine (fitsI hk e.num e.meter ka ta e.kids.length kc tc e.tiers _ (unhide HZ).1 htl2 (((unhide HT5).kept (same_below hB6 (by omega))).toTR)).mono ?_; rintro x w7 ⟨rfl, hb7⟩; have hB7 : Below W5.heap.size W5 w7 := below_trans hB6 hb7; clear hb7; have r0 := (hB7.cell (p := ⟨w.heap.size, 0, none⟩) hs5).trans g0; have r1 := (hB7.cell (p := ⟨w.heap.size, 1, none⟩) hs5).trans g1; have r2 := (hB7.cell (p := ⟨w.heap.size, 2, none⟩) hs5).trans g2; have r3 := (hB7.cell (p := ⟨w.heap.size, 3, none⟩) hs5).trans g3; have r4 := (hB7.cell (p := ⟨w.heap.size, 4, none⟩) hs5).trans g4))
  have HH7 := hide ((unhide HH).kept hB7 hpb)
  have r3' := r3
  clear hB7 hB6 q0 q1 q2 q3 q4 r0 r1 r2 r4 r3 g0 g1 g2 g3 g4 HH mm1 mm2 mm3 fl HT5
  have r3 := r3'
  clear r3'
  cases hfit : fitsB e.kind e.num e.meter e.tiers
  · have HW := hide (unhide HNO hfit)
    go_wp2_with (fail)
    go_ret
    exact ⟨_, _, rfl, unhide HW, (unhide HH7).cell, (unhide HH7).frozen, (unhide HH7).grown⟩
  · have HND : Hid (nodeE e = true) := hide (by unfold nodeE; rw [nodeB_fits (unhide HQ), hfit])
    have HK0 : Hid (KidsOk e depth m 0 (m - 1)) := hide ⟨by simp [cntL], by omega, rfl, by simp [depL]; omega⟩
    have HWK : Hid (∀ k, k < e.kids.length → wt (e.kids.getD k E0) ≤ 1048576) := hide (fun k hk => by have := wt_at hk; omega)
    clear HNO hfit
    go_wp2_with (fail)
    go_loopw [46] (fun i wr => ∃ (k : Nat) (mk : Int), k ≤ e.kids.length ∧ i = .int .i64 k ∧ Hid (KidsOk e depth m k mk) ∧ Hid (wr.cell? ⟨pb, 0, none⟩ = some (.int .i64 mk)) ∧ Hid (wr.frozen? ⟨pb, 0, none⟩ = false) ∧ Hid (w.grownBy wr (some pb))) (fun i _ => e.kids.length - (intOf i).toNat)
    case atStart => exact ⟨0, m - 1, Nat.zero_le _, rfl, HK0, hide (unhide HH7).cell, hide (unhide HH7).frozen, hide (unhide HH7).grown⟩
    case round =>
      obtain ⟨k, mk, hkk, rfl, hKO, hcp, hfp, hg⟩ := hrel
      clear r3 HH7
      by_cases hlt : k < e.kids.length
      · obtain ⟨b, o, rfl, k1, k2, hKA⟩ : ∃ b o, ka = some ⟨b, o, none⟩ ∧ KidsAt lo hi w d b o e.kids := by
          rcases unhide HK with h | h
          · rw [h] at hlt; simp at hlt
          · exact h
        obtain ⟨kv, tv, ⟨e0', e1', e2', e3', e4'⟩, hz, hes, htt⟩ := hKA k hlt
        obtain ⟨fa, fc, hfv, _⟩ := hes.form
        obtain ⟨xa, xc, hxv⟩ : ∃ a c, tv = .slice a (e.kids.getD k E0).tiers.length c := by
          rcases htt with ⟨h, a, c, rfl⟩ | ⟨b, o, cap, rfl, _⟩
          · rw [h]; exact ⟨_, _, rfl⟩
          · exact ⟨_, _, rfl⟩
        subst hfv hxv
        have hblk : ∀ j, lo ≤ j → j < hi → wr.heap[j]? = w.heap[j]? := fun j h1 h2 => (unhide hg).block j (by omega) (by simp; omega)
        have hbb := hblk b k1 k2
        have e0 := (World.cell?_of_block (w := w) (a := ⟨b, o + k * 5, none⟩) hbb).trans e0'
        have e1 := (World.cell?_of_block (w := w) (a := ⟨b, o + k * 5 + 1, none⟩) hbb).trans e1'
        have e2 := (World.cell?_of_block (w := w) (a := ⟨b, o + k * 5 + 2, none⟩) hbb).trans e2'
        have e3 := (World.cell?_of_block (w := w) (a := ⟨b, o + k * 5 + 3, none⟩) hbb).trans e3'
        have e4 := (World.cell?_of_block (w := w) (a := ⟨b, o + k * 5 + 4, none⟩) hbb).trans e4'
        have hsz := (unhide hg).size
        have HE : Hid (∀ ob, EV lo hi (wr.alloc ob) d (.agg #[.int .i64 (e.kids.getD k E0).kind, .int .i64 (e.kids.getD k E0).num, .string (e.kids.getD k E0).meter, .slice fa (e.kids.getD k E0).kids.length fc, .slice xa (e.kids.getD k E0).tiers.length xc]) (e.kids.getD k E0)) := hide (fun ob => by
          have hs : Same lo hi w (wr.alloc ob) := same_trans hblk (same_below (below_alloc _ _) (by omega))
          exact ⟨_, _, rfl, hz, hes.kept hs, htt.kept hs⟩)
        have HCP : Hid (∀ ob, (wr.alloc ob).cell? ⟨pb, 0, none⟩ = some (.int .i64 mk)) := hide (fun ob => ((below_alloc wr ob).cell (p := ⟨pb, 0, none⟩) (by simp; omega)).trans (unhide hcp))
        have HFP : Hid (∀ ob, (wr.alloc ob).frozen? ⟨pb, 0, none⟩ = false) := hide (fun ob => ((below_alloc wr ob).frozen (p := ⟨pb, 0, none⟩) (by simp; omega)).trans (unhide hfp))
        have HG : Hid (∀ ob w', (wr.alloc ob).grownBy w' (some pb) → w.grownBy w' (some pb)) := hide (fun ob w' h => by
          have h1 := unhide hg
          exact ⟨h.os.trans h1.os, h.tape.trans h1.tape, h.output.trans h1.output, Nat.le_trans h1.size (Nat.le_trans (by simp) h.size), fun j hj hne => ((h.block j (by simp; omega) hne).trans (Below.heap_alloc wr ob j (by omega))).trans (h1.block j hj hne)⟩)
        have HW' := hide (unhide HWK k hlt)
        have HNO := hide (fun m' hh => (unhide hKO).no (m' := m') hlt hh)
        have HYES := hide (fun m' hh => (unhide hKO).step (m' := m') hlt hh)
        have mk0 : 0 ≤ mk := (unhide hKO).2.1
        have mk1 : mk ≤ 40 := by have := (unhide hKO).1; omega
        clear e0' e1' e2' e3' e4' hz hes htt hblk hbb hcp hfp hg hKO hKA
        generalize e.kids.getD k E0 = f at *
        generalize f.kind = fk at *
        generalize f.num = fn at *
        generalize f.meter = fm at *
        generalize f.kids.length = fkn at *
        generalize f.tiers.length = ftn at *
        go_wp2_with (fail)
        refine (unhide HO (fun h => by rw [h] at hlt; simp at hlt) lo hi pb _ f (depth - 1) mk _ (unhide HE _) hhi (by simp; omega) (unhide HW') (by omega) (by omega) mk0 mk1 (unhide HCP _) (unhide HFP _)).mono ?_
        rintro x w8 ⟨r, m', rfl, hwk, hc8, hf8, hg8⟩
        have HC8 := hide hc8
        have HF8 := hide hf8
        have HG8 := hide (unhide HG _ _ hg8)
        clear hc8 hf8 hg8 e0 e1 e2 e3 e4 HE HCP HFP HG
        cases r
        · have HW := hide (unhide HNO m' hwk)
          go_wp2_with (fail)
          go_ret
          exact ⟨_, _, rfl, unhide HW, unhide HC8, unhide HF8, unhide HG8⟩
        · have HS := hide (unhide HYES m' hwk)
          go_wp2_with (fail)
          refine ⟨⟨_, _, _, _, _, _, _, _, _, _, _, _, _, ⟨k + 1, m', by omega, ?_, HS, HC8, HF8, HG8⟩, rfl⟩, ?_⟩
          · go_num
          · simp [intOf]; omega
      · obtain rfl : k = e.kids.length := by omega
        have HW := hide ((unhide hKO).done (unhide HND))
        go_wp2_with (fail)
        go_ret
        exact ⟨_, _, rfl, unhide HW, unhide hcp, unhide hfp, unhide hg⟩

theorem TL.form {lo hi : Nat} {W : World} {v : Value} {l : List T} (h : TL lo hi W v l) : ∃ a c, v = .slice a l.length c := by
  rcases h with ⟨rfl, a, c, rfl⟩ | ⟨b, o, cap, rfl, _⟩
  · exact ⟨_, _, rfl⟩
  · exact ⟨_, _, rfl⟩

theorem okW_step {d : Nat} (H : ∀ d', d = d' + 1 → OkW d') : OkW d := by
  rintro lo hi pb v e depth m w ⟨kv, tv, rfl, hz, hk, ht⟩ hhi hpb hw d1 d2 m1 m2 hc hf
  obtain ⟨ta, tc, rfl⟩ := ht.form
  obtain ⟨ka, kc, hkf, hkl⟩ := hk.form
  by_cases hh : ¬ (1 ≤ e.kind ∧ e.kind ≤ 10) ∨ depth < 1 ∨ m < 1
  · exact okW_head pb kv _ e depth m w hpb d1 d2 m1 m2 hc hf hh
  have hk10 : 1 ≤ e.kind ∧ e.kind ≤ 10 := by omega
  have hkl2 : e.kids.length ≤ 1048576 := by have := wt_eq e; have := wtL_len e.kids; omega
  by_cases hn : (e.kids.length : Int) = kidsK e.kind
  · cases d with
    | zero =>
      obtain ⟨h0, a, c, rfl⟩ := hk
      simp only [Value.slice.injEq] at hkf
      obtain ⟨rfl, hl0, rfl⟩ := hkf
      have := okW_rest (d := 0) lo hi pb a c ta tc e depth m w hhi hpb (by omega) d2 (by omega) m2 hc hf hk10 hw hn hz ht (fun h => absurd h0 h) (.inl h0)
      rw [← hl0] at this
      exact this
    | succ d =>
      rcases hk with ⟨h0, a, c, rfl⟩ | ⟨b, o, cap, rfl, _, k1, k2, hcs⟩
      · simp only [Value.slice.injEq] at hkf
        obtain ⟨rfl, hl0, rfl⟩ := hkf
        have := okW_rest (d := d) lo hi pb a c ta tc e depth m w hhi hpb (by omega) d2 (by omega) m2 hc hf hk10 hw hn hz ht (fun _ => H d rfl) (.inl h0)
        rw [← hl0] at this
        exact this
      · exact okW_rest (d := d) lo hi pb (some ⟨b, o, none⟩) cap ta tc e depth m w hhi hpb (by omega) d2 (by omega) m2 hc hf hk10 hw hn hz ht (fun _ => H d rfl) (.inr ⟨b, o, rfl, k1, k2, hcs⟩)
  · subst hkf
    exact okW_kids pb ka kc _ e depth m w hpb (by omega) d2 (by omega) m2 hc hf hk10 hkl2 hn

theorem okW_all : ∀ d, OkW d
  | 0 => okW_step (fun d' h => by omega)
  | d + 1 => okW_step (fun d' h => by
    have e : d' = d := by omega
    rw [e]; exact okW_all d)

theorem okE_W {e : Ex} {r : Bool} {m' : Int} (h : WOk e 8 40 r m') : okE e = r := by
  unfold okE
  cases r
  · have := h.2 rfl
    cases ha : allB e
    · rfl
    · by_cases h1 : cnt e ≤ 40
      · have h2 : ¬ dep e ≤ 8 := fun h2 => this ⟨ha, by omega, by omega⟩
        rw [decide_eq_false h2]; simp
      · rw [decide_eq_false h1]; simp
  · obtain ⟨h1, h2, h3, h4⟩ := h.1 rfl
    rw [h3, decide_eq_true (show cnt e ≤ 40 by omega), decide_eq_true (show dep e ≤ 8 by omega)]; rfl

set_option maxHeartbeats 800000 in
/-- impl.RuleOk -/
theorem okI (d lo hi : Nat) (v : Value) (e : Ex) (w : World) (h : EV lo hi w d v e) (hhi : hi ≤ w.heap.size) (hw : wt e ≤ 1048576) :
    Calls Tryz.prog 68 #[v] w fun x w' => x = .returned (.bool (okE e)) ∧ Below w.heap.size w w' := by
  have h' := h
  obtain ⟨kv, tv, rfl, hz, hk, ht⟩ := h
  obtain ⟨ta, tc, rfl⟩ := ht.form
  obtain ⟨ka, kc, rfl, _⟩ := hk.form
  have HE : Hid (∀ ob op, EV lo hi ((w.alloc ob).alloc op) d (.agg #[.int .i64 e.kind, .int .i64 e.num, .string e.meter, .slice ka e.kids.length kc, .slice ta e.tiers.length tc]) e) := hide (fun ob op => h'.kept (same_below (below2 w ob op) hhi))
  have HO : Hid (∀ r m', WOk e 8 40 r m' → okE e = r) := hide (fun r m' h => okE_W h)
  have HN : Hid (∀ ob, ((w.alloc ob).alloc (.cells #[.int .i64 40] 3)).cell? ⟨w.heap.size + 1, 0, none⟩ = some (.int .i64 40) ∧ ((w.alloc ob).alloc (.cells #[.int .i64 40] 3)).frozen? ⟨w.heap.size + 1, 0, none⟩ = false) := hide (fun ob => by
    have e1 := (MapKept.heap_alloc (w.alloc ob) (.cells #[.int .i64 40] 3)).1
    simp only [World.size_alloc] at e1
    simp only [World.cell?, World.frozen?]
    rw [e1]; simp)
  clear hz hk ht h'
  generalize okE e = r at *
  generalize e.kind = ek at *
  generalize e.num = en at *
  generalize e.meter = em at *
  generalize e.kids.length = kn at *
  generalize e.tiers.length = tn at *
  go_enter Tryz.func68, Tryz.ntmps68
  go_wp2_with (fail)
  refine (okW_all d lo hi (w.heap.size + 1) _ e 8 40 _ (unhide HE _ _) (by omega) (by simp) hw (by omega) (by omega) (by omega) (by omega) (unhide HN _).1 (unhide HN _).2).mono ?_
  rintro x w1 ⟨b, m', rfl, hwk, _, _, hg⟩
  have hr := unhide HO b m' hwk
  subst hr
  have HB : Hid (Below w.heap.size w w1) := hide ((below2 w _ _).grown hg (by simp; omega) (fun k e => by cases e; simp))
  clear hg hwk HE HN HO
  go_wp2_with (fail)
  go_ret
  exact ⟨rfl, unhide HB⟩
end Go.Proofs.YtkdaljonmkfdaaaGreatDoor.Rule
end

section
/-
  eqRuleExpr, eqRuleExprS, of one and the same expression in two places.
-/
namespace Go.Proofs.YtkdaljonmkfdaaaGreatDoor.Rule
set_option linter.unusedVariables false
open Go.RowKit Tiers

def EqE (d : Nat) : Prop := ∀ (lo hi lo' hi' d' : Nat) (v v' : Value) (e : Ex) (w : World), EV lo hi w d v e → EV lo' hi' w d' v' e → hi ≤ w.heap.size → hi' ≤ w.heap.size → wt e ≤ 1048576 →
  Calls Tryz.prog 8 #[v, v'] w fun x w' => x = .returned (.bool true) ∧ Below w.heap.size w w'
def EqS (d : Nat) : Prop := ∀ (lo hi lo' hi' d' : Nat) (v v' : Value) (l : List Ex) (w : World), ES lo hi w d v l → ES lo' hi' w d' v' l → hi ≤ w.heap.size → hi' ≤ w.heap.size → wtL l ≤ 1048576 →
  Calls Tryz.prog 22 #[v, v'] w fun x w' => x = .returned (.bool true) ∧ Below w.heap.size w w'

theorem eqS_none (a a' : Option Addr) (c c' : Nat) (w : World) :
    Calls Tryz.prog 22 #[.slice a 0 c, .slice a' 0 c'] w fun x w' => x = .returned (.bool true) ∧ Below w.heap.size w w' := by
  go_enter Tryz.func22, Tryz.ntmps22
  go_wp2
  refine wp_loop_rounds 1 ?_
  rw [rounds_succ]
  go_wp2
  go_ret
  exact ⟨rfl, Below.refl _ _⟩

set_option maxHeartbeats 1600000 in
theorem eqE_of {d : Nat} (H : EqS d) : EqE d := by
  rintro lo hi lo' hi' d' v v' e w ⟨kv, tv, rfl, hz, hk, ht⟩ ⟨kv', tv', rfl, _, hk', ht'⟩ hhi hhi' hw
  have HS := hide H
  have HK := hide hk
  have HT := hide ht
  have HK' := hide hk'
  have HT' := hide ht'
  have HW := hide (wt_eq e)
  clear hk ht hk' ht' H hz
  obtain ⟨k, q, m, ks, ts⟩ := e
  simp only [Ex.kind, Ex.num, Ex.meter, Ex.kids, Ex.tiers] at *
  generalize wt (.mk k q m ks ts) = W at *
  have b1 : (k != k) = false := by simp
  have b2 : (q != q) = false := by simp
  have b3 : (!m.toList == m.toList) = false := by simp
  have n1 := At5.new w (.int .i64 k) (.int .i64 q) (.string m) kv tv 25
  have n2 := At5.new (w.alloc (.cells #[.int .i64 k, .int .i64 q, .string m, kv, tv] 25)) (.int .i64 k) (.int .i64 q) (.string m) kv' tv' 25
  simp only [World.size_alloc] at n2
  have B0 : Below w.heap.size w ((w.alloc (.cells #[.int .i64 k, .int .i64 q, .string m, kv, tv] 25)).alloc (.cells #[.int .i64 k, .int .i64 q, .string m, kv', tv'] 25)) := ((Below.refl _ w).alloc (Nat.le_refl _) _).alloc (by simp) _
  have N : Hid (∀ w1, Below ((w.alloc (.cells #[.int .i64 k, .int .i64 q, .string m, kv, tv] 25)).alloc (.cells #[.int .i64 k, .int .i64 q, .string m, kv', tv'] 25)).heap.size ((w.alloc (.cells #[.int .i64 k, .int .i64 q, .string m, kv, tv] 25)).alloc (.cells #[.int .i64 k, .int .i64 q, .string m, kv', tv'] 25)) w1 →
      At5 w1 w.heap.size (.int .i64 k) (.int .i64 q) (.string m) kv tv ∧ At5 w1 (w.heap.size + 1) (.int .i64 k) (.int .i64 q) (.string m) kv' tv' ∧ Below w.heap.size w w1) := hide (fun w1 hb => by
    refine ⟨n1.kept ?_, n2.kept (hb.block _ (by simp)), ?_⟩
    · rw [hb.block _ (by simp; omega), Below.heap_alloc _ _ _ (by simp)]
    · exact B0.trans (hb.mono (by simp; omega)))
  have K0 := hide ((unhide HK).kept (same_below B0 hhi))
  have K0' := hide ((unhide HK').kept (same_below B0 hhi'))
  clear n1 n2 B0 HK HK'
  go_enter Tryz.func8, Tryz.ntmps8
  go_wp2_with (fail)
  refine (unhide HS lo hi lo' hi' d' kv kv' ks _ (unhide K0) (unhide K0') (by simp; omega) (by simp; omega) (by have := unhide HW; omega)).mono ?_
  rintro x w1 ⟨rfl, hb1⟩
  obtain ⟨⟨⟨_, _, _, _, a4⟩, _⟩, ⟨⟨_, _, _, _, a4'⟩, _⟩, hB⟩ := unhide N w1 hb1
  have HB := hide hB
  have T1 := hide ((unhide HT).kept (same_below hB hhi)).toTR
  have T1' := hide ((unhide HT').kept (same_below hB hhi')).toTR
  clear hb1 hB N K0 K0' HT HT'
  go_wp2_with (fail)
  refine (eqTiers tv tv' ts _ (unhide T1) (unhide T1') (by have := unhide HW; omega)).mono ?_
  rintro x w2 ⟨rfl, hb2⟩
  have HB2 := hide (below_trans (unhide HB) hb2)
  clear hb2 HB
  go_wp2_with (fail)
  go_ret
  exact ⟨rfl, unhide HB2⟩

set_option maxHeartbeats 1600000 in
theorem eqS_succ {d : Nat} (H : EqE d) : EqS (d + 1) := by
  rintro lo hi lo' hi' d' v v' l w h h' hhi hhi' hw
  have HS := hide H
  clear H
  rcases h with ⟨rfl, a, c, rfl⟩ | ⟨b, o, cap, rfl, hl, k1, k2, hc⟩
  · obtain ⟨a', c', rfl, _⟩ := h'.form
    exact eqS_none _ _ _ _ _
  cases d' with
  | zero => obtain ⟨rfl, a', c', rfl⟩ := h'; exact eqS_none _ _ _ _ _
  | succ d' =>
    rcases h' with ⟨rfl, a', c', rfl⟩ | ⟨b', o', cap', rfl, _, k1', k2', hc'⟩
    · exact eqS_none _ _ _ _ _
    have hll := wtL_len l
    have HC := hide hc
    have HC' := hide hc'
    have hbw : b < w.heap.size := by omega
    have hbw' : b' < w.heap.size := by omega
    have HW : Hid (∀ k, k < l.length → wt (l.getD k E0) ≤ 1048576) := hide (fun k hk => by have := wt_at hk; omega)
    unfold maxLen at hl
    have hn : (((l.length : Int)) != (l.length : Int)) = false := by simp
    clear hc hc'
    go_enter Tryz.func22, Tryz.ntmps22
    go_wp2
    go_loopw [5] (fun i wr => ∃ k : Nat, k ≤ l.length ∧ i = .int .i64 k ∧ Hid (Below w.heap.size w wr)) (fun i _ => l.length - (intOf i).toNat)
    case atStart => exact ⟨0, Nat.zero_le _, rfl, hide (Below.refl _ _)⟩
    case round =>
      obtain ⟨k, hk, rfl, hb⟩ := hrel
      by_cases hlt : k < l.length
      · obtain ⟨kv, tv, ⟨c0', c1', c2', c3', c4'⟩, hz, hkk, htt⟩ := unhide HC k hlt
        obtain ⟨kv', tv', ⟨d0', d1', d2', d3', d4'⟩, hz', hkk', htt'⟩ := unhide HC' k hlt
        have c0 := ((unhide hb).cell (p := ⟨b, o + k * 5, none⟩) hbw).trans c0'
        have c1 := ((unhide hb).cell (p := ⟨b, o + k * 5 + 1, none⟩) hbw).trans c1'
        have c2 := ((unhide hb).cell (p := ⟨b, o + k * 5 + 2, none⟩) hbw).trans c2'
        have c3 := ((unhide hb).cell (p := ⟨b, o + k * 5 + 3, none⟩) hbw).trans c3'
        have c4 := ((unhide hb).cell (p := ⟨b, o + k * 5 + 4, none⟩) hbw).trans c4'
        have d0 := ((unhide hb).cell (p := ⟨b', o' + k * 5, none⟩) hbw').trans d0'
        have d1 := ((unhide hb).cell (p := ⟨b', o' + k * 5 + 1, none⟩) hbw').trans d1'
        have d2 := ((unhide hb).cell (p := ⟨b', o' + k * 5 + 2, none⟩) hbw').trans d2'
        have d3 := ((unhide hb).cell (p := ⟨b', o' + k * 5 + 3, none⟩) hbw').trans d3'
        have d4 := ((unhide hb).cell (p := ⟨b', o' + k * 5 + 4, none⟩) hbw').trans d4'
        have HE : Hid (EV lo hi wr d (.agg #[.int .i64 (l.getD k E0).kind, .int .i64 (l.getD k E0).num, .string (l.getD k E0).meter, kv, tv]) (l.getD k E0)) := hide ⟨kv, tv, rfl, hz, hkk.kept (same_below (unhide hb) hhi), htt.kept (same_below (unhide hb) hhi)⟩
        have HE' : Hid (EV lo' hi' wr d' (.agg #[.int .i64 (l.getD k E0).kind, .int .i64 (l.getD k E0).num, .string (l.getD k E0).meter, kv', tv']) (l.getD k E0)) := hide ⟨kv', tv', rfl, hz, hkk'.kept (same_below (unhide hb) hhi'), htt'.kept (same_below (unhide hb) hhi')⟩
        have HW' := hide (unhide HW k hlt)
        have z1 : b < wr.heap.size := Nat.lt_of_lt_of_le hbw (unhide hb).size
        have z2 : b' < wr.heap.size := Nat.lt_of_lt_of_le hbw' (unhide hb).size
        have z3 : hi ≤ wr.heap.size := Nat.le_trans hhi (unhide hb).size
        have z4 : hi' ≤ wr.heap.size := Nat.le_trans hhi' (unhide hb).size
        have i1 : (0 : Int) ≤ (k : Int) := by omega
        have i2 : (k : Int) < (l.length : Int) := by omega
        clear c0' c1' c2' c3' c4' hz hkk htt d0' d1' d2' d3' d4' hz' hkk' htt'
        generalize l.getD k E0 = e at *
        generalize hek : e.kind = ek at *
        generalize hen : e.num = en at *
        generalize hem : e.meter = em at *
        clear hek hen hem
        go_wp2
        go_region_held3 (fun w2 => w2.cell? ⟨b, o + k * 5, none⟩ = some (.int .i64 ek) ∧ w2.cell? ⟨b, o + k * 5 + 1, none⟩ = some (.int .i64 en) ∧ w2.cell? ⟨b, o + k * 5 + 2, none⟩ = some (.string em) ∧ w2.cell? ⟨b, o + k * 5 + 3, none⟩ = some kv ∧ w2.cell? ⟨b, o + k * 5 + 4, none⟩ = some tv ∧ w2.cell? ⟨b', o' + k * 5, none⟩ = some (.int .i64 ek) ∧ w2.cell? ⟨b', o' + k * 5 + 1, none⟩ = some (.int .i64 en) ∧ w2.cell? ⟨b', o' + k * 5 + 2, none⟩ = some (.string em) ∧ w2.cell? ⟨b', o' + k * 5 + 3, none⟩ = some kv' ∧ w2.cell? ⟨b', o' + k * 5 + 4, none⟩ = some tv') (go_keep)
          (first | (go_at_call 8; refine (unhide HS lo hi lo' hi' d' _ _ e wr.drew ((unhide HE).kept (fun _ _ _ => rfl)) ((unhide HE').kept (fun _ _ _ => rfl)) z3 z4 (unhide HW')).mono ?_; rintro x w1 ⟨rfl, hb1⟩; have q0 := hb1.cell (p := ⟨b, o + k * 5, none⟩) z1; have q1 := hb1.cell (p := ⟨b, o + k * 5 + 1, none⟩) z1; have q2 := hb1.cell (p := ⟨b, o + k * 5 + 2, none⟩) z1; have q3 := hb1.cell (p := ⟨b, o + k * 5 + 3, none⟩) z1; have q4 := hb1.cell (p := ⟨b, o + k * 5 + 4, none⟩) z1; have r0 := hb1.cell (p := ⟨b', o' + k * 5, none⟩) z2; have r1 := hb1.cell (p := ⟨b', o' + k * 5 + 1, none⟩) z2; have r2 := hb1.cell (p := ⟨b', o' + k * 5 + 2, none⟩) z2; have r3 := hb1.cell (p := ⟨b', o' + k * 5 + 3, none⟩) z2; have r4 := hb1.cell (p := ⟨b', o' + k * 5 + 4, none⟩) z2))
        have HB : Hid (Below w.heap.size w w1) := hide (below_trans (unhide hb) (below_of_drew hb1))
        clear hb1 hb q0 q1 q2 q3 q4 r0 r1 r2 r3 r4
        go_wp2
        exact ⟨⟨k + 1, by omega, by go_num, HB⟩, by simp [intOf]; omega⟩
      · go_wp2
        go_ret
        exact ⟨rfl, unhide hb⟩

/-- (of 22) -/
theorem eqS_all : ∀ d, EqS d
  | 0 => by
    rintro lo hi lo' hi' d' v v' l w ⟨rfl, a, c, rfl⟩ h' hhi hhi' hw
    obtain ⟨a', c', rfl, _⟩ := h'.form
    exact eqS_none _ _ _ _ _
  | d + 1 => eqS_succ (eqE_of (eqS_all d))
theorem eqE_all (d : Nat) : EqE d := eqE_of (eqS_all d)
end Go.Proofs.YtkdaljonmkfdaaaGreatDoor.Rule
end
