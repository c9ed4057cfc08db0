/-
  FnSealOther.
-/
import Derived.Test.YtlmdpfhabiakmaaDoorDrawChk
import Derived.Test.YtlmdpfhabiakmaaDoorLawTok
namespace Go.Proofs.YtlmdpfhabiakmaaDoor.Tok
set_option linter.unusedVariables false
open Go.RowKit
open Num (bytesOf)
open Mac (hide unhide below_trans macL macL_bd)
open Strs hiding hide unhide below_trans
open Boxes (At box1 box2)
open Draw (Bytes)
open _root_.Go.Proofs.YtlmdpfhabiakmaaDoor.Text (Tens)

/-- what a token that is good is -/
theorem code_good {k t r u e m now ep : Int} (h : codeT k t r u e m now ep = 0) : formB r u e m = true ∧ tenB t = true ∧ e = ep ∧ ¬ u < now := by
  unfold codeT at h
  split at h
  · next hc =>
    rw [Bool.and_eq_true] at hc
    split at h
    · cases h
    · split at h
      · cases h
      · split at h
        · cases h
        · next h1 h2 h3 => exact ⟨hc.1, hc.2, by simpa using h2, h3⟩
  · cases h
theorem code_form {k t r u e m now : Int} (hF : formB r u e m = true) (hT : tenB t = true) (hn : now ≤ u) : codeT k t r u e m now e = if m = macL k (ptL t r u e) then 0 else 1 := by
  unfold codeT
  have hn' : ¬ u < now := by omega
  rw [hF, hT]
  simp only [Bool.and_self, if_true, ne_eq, not_true_eq_false, if_false, if_neg hn', ite_not]
theorem form_zero {r u e m : Int} (hF : formB r u e m = true) : formB r u e 0 = true := by
  have := form_iff.1 hF
  exact form_iff.2 (by omega)
theorem form_role {r r' u e m : Int} (hF : formB r u e m = true) (h1 : 1 ≤ r') (h2 : r' ≤ 3) : formB r' u e m = true := by
  have := form_iff.1 hF
  exact form_iff.2 (by omega)
theorem make_good {k t r u e : Int} (hF : formB r u e 0 = true) (hT : tenB t = true) : tokP (makeT k t r u e) = tokV r u e (macL k (ptL t r u e)) := by
  unfold makeT makeB
  rw [hF, hT]; rfl

set_option maxHeartbeats 4000000 in
set_option maxRecDepth 20000 in
theorem lawOther (a : Option Addr) (len cap : Nat) (a' : Option Addr) (len' cap' : Nat) (w : World) (h : Bytes w a len cap) (hT : Tens w) :
    Calls Tryd.prog 3 #[.slice a len cap, .slice a' len' cap'] w fun x w' => x = .returned (.bool true) ∧ Below w.heap.size w w' := by
  by_cases hbig : 1048576 < len
  · clear h
    go_enter Tryd.func3, Tryd.ntmps3
    go_wp2_with fail
    go_ret
    exact ⟨rfl, Below.refl _ _⟩
  by_cases hbig' : 1048576 < len'
  · clear h
    go_enter Tryd.func3, Tryd.ntmps3
    go_wp2_with fail
    go_ret
    exact ⟨rfl, Below.refl _ _⟩
  have HBy := hide h
  have HT := hide hT
  clear h hT
  go_enter Tryd.func3, Tryd.ntmps3
  go_wp2_with fail
  refine (drawCheck a len cap w (unhide HBy)).mono ?_
  rintro x w1 ⟨k, t, r, u, e, m, now, ep, rfl, ⟨ht, ⟨hr, hu, he, hm⟩, hep⟩, hb1⟩
  have HI := hide (And.intro (show i64 t by unfold i64; omega) (And.intro hr.i (And.intro hu.i he.i)))
  have HTB := hide ht
  have HA1 := hide (At.new w1 #[.int .i64 r, .int .i64 u, .int .i64 e, .int .i64 m] 24)
  have HB1 := hide (below_trans hb1 (below_alloc w1 (.cells #[.int .i64 r, .int .i64 u, .int .i64 e, .int .i64 m] 24)))
  have hz1 : (w1.alloc (.cells #[.int .i64 r, .int .i64 u, .int .i64 e, .int .i64 m] 24)).heap.size = w1.heap.size + 1 := by simp
  clear hb1 ht hr hu he hm hep HBy
  go_wp2_with fail
  generalize w1.alloc (.cells #[.int .i64 r, .int .i64 u, .int .i64 e, .int .i64 m] 24) = W1 at *
  refine (checkI k t r u e m now ep _ (unhide HI).1 (unhide HI).2.1 (unhide HI).2.2.1 (unhide HI).2.2.2 ((unhide HT).kept (unhide HB1))).mono ?_
  rintro x w2 ⟨rfl, hb2⟩
  have HA2 := hide ((unhide HA1).below hb2 (by omega))
  have HB2 := hide (below_trans (unhide HB1) hb2)
  have hz2 := hb2.size
  obtain ⟨⟨c0, c1, c2, c3⟩, _⟩ := at4 (unhide HA2)
  clear hb2 HA1 HB1
  go_wp2_with fail
  refine (checkS k t r u e m now ep _ (unhide HI).1 (unhide HI).2.1 (unhide HI).2.2.1 (unhide HI).2.2.2).mono ?_
  rintro x w3 ⟨rfl, hb3⟩
  have HA3 := hide ((unhide HA2).below hb3 (by omega))
  have HB3 := hide (below_trans (unhide HB2) hb3)
  have hz3 := hb3.size
  clear hb3 HA2 HB2 c0 c1 c2 c3
  by_cases hc : codeT k t r u e m now ep = 0
  case neg =>
    generalize codeT k t r u e m now ep = c at *
    have hc' : (c == 0) = false := by simpa using hc
    clear hc
    go_wp2_with fail
    go_ret
    exact ⟨rfl, unhide HB3⟩
  rw [hc]
  obtain ⟨hF, hTn, rfl, hn⟩ := code_good hc
  have HF := hide hF
  have HN := hide (show now ≤ u by omega)
  have HTN := hide hTn
  obtain ⟨t0, t1⟩ := ten_iff.1 hTn
  obtain ⟨⟨r1, r3⟩, _⟩ := form_iff.1 hF
  obtain ⟨⟨c0, c1, c2, c3⟩, _⟩ := at4 (unhide HA3)
  clear hc hF hTn hn
  have v0 : 0 ≤ (t + 1 + (len' : Int)) % 10 := by omega
  have v1 : (t + 1 + (len' : Int)) % 10 ≤ 9 := by omega
  go_wp2_with fail
  generalize hv : (t + 1 + (len' : Int)) % 10 = v at *
  clear hv
  have HTV := hide (ten_iff.2 ⟨v0, v1⟩)
  refine (makeI k v r u e _ (by unfold i64; omega) (unhide HI).2.1 (unhide HI).2.2.1 (unhide HI).2.2.2 ((unhide HT).kept (unhide HB3))).mono ?_
  rintro x w4 ⟨rfl, hb4⟩
  rw [make_good (form_zero (unhide HF)) (unhide HTV)]
  have HC1 := hide (fun (W : World) hW => (code_form (k := k) (t := v) (unhide HF) (unhide HTV) (unhide HN)) ▸ checkI k v r u e m now e W (by unfold i64; omega) (unhide HI).2.1 (unhide HI).2.2.1 (unhide HI).2.2.2 hW)
  generalize macL k (ptL v r u e) = M1 at *
  have HA4 := hide (((unhide HA3).below hb4 (by omega)).below (below_alloc w4 (.cells #[.int .i64 r, .int .i64 u, .int .i64 e, .int .i64 M1] 24)) (by have := hb4.size; omega))
  have HX4 := hide (At.new w4 #[.int .i64 r, .int .i64 u, .int .i64 e, .int .i64 M1] 24)
  have HB4 := hide (below_trans (below_trans (unhide HB3) hb4) (below_alloc w4 (.cells #[.int .i64 r, .int .i64 u, .int .i64 e, .int .i64 M1] 24)))
  have hz4 : (w4.alloc (.cells #[.int .i64 r, .int .i64 u, .int .i64 e, .int .i64 M1] 24)).heap.size = w4.heap.size + 1 := by simp
  have hz4' := hb4.size
  clear hb4 HA3 HB3 c0 c1 c2 c3
  obtain ⟨⟨c0, c1, c2, c3⟩, _⟩ := at4 (unhide HA4)
  have p0 : 0 ≤ (r + (len' : Int)) % 3 := by omega
  have p1 : (r + (len' : Int)) % 3 ≤ 2 := by omega
  go_wp2_with fail
  have q0 : 1 ≤ 1 + (r + (len' : Int)) % 3 := by omega
  have q1 : 1 + (r + (len' : Int)) % 3 ≤ 3 := by omega
  generalize 1 + (r + (len' : Int)) % 3 = v2 at *
  clear p0 p1
  have HFR := hide (form_role (unhide HF) q0 q1)
  refine (makeI k t v2 u e _ (unhide HI).1 (by unfold i64; omega) (unhide HI).2.2.1 (unhide HI).2.2.2 ((unhide HT).kept (unhide HB4))).mono ?_
  rintro x w5 ⟨rfl, hb5⟩
  rw [make_good (form_zero (unhide HFR)) (unhide HTN)]
  have HC2 := hide (fun (W : World) hW => (code_form (k := k) (t := t) (unhide HFR) (unhide HTN) (unhide HN)) ▸ checkI k t v2 u e m now e W (unhide HI).1 (by unfold i64; omega) (unhide HI).2.2.1 (unhide HI).2.2.2 hW)
  generalize macL k (ptL t v2 u e) = M2 at *
  have hz5 := hb5.size
  have BY := below_alloc w5 (.cells #[.int .i64 v2, .int .i64 u, .int .i64 e, .int .i64 M2] 24)
  have hz5' : (w5.alloc (.cells #[.int .i64 v2, .int .i64 u, .int .i64 e, .int .i64 M2] 24)).heap.size = w5.heap.size + 1 := by simp
  have BZ := below_alloc (w5.alloc (.cells #[.int .i64 v2, .int .i64 u, .int .i64 e, .int .i64 M2] 24)) (.cells #[.int .i64 v2, .int .i64 u, .int .i64 e, .int .i64 m] 24)
  have hz5'' : ((w5.alloc (.cells #[.int .i64 v2, .int .i64 u, .int .i64 e, .int .i64 M2] 24)).alloc (.cells #[.int .i64 v2, .int .i64 u, .int .i64 e, .int .i64 m] 24)).heap.size = w5.heap.size + 1 + 1 := by simp
  have HA5 := hide ((((unhide HA4).below hb5 (by omega)).below BY (by omega)).below BZ (by omega))
  have HX5 := hide ((((unhide HX4).below hb5 (by omega)).below BY (by omega)).below BZ (by omega))
  have HY5 := hide ((At.new w5 #[.int .i64 v2, .int .i64 u, .int .i64 e, .int .i64 M2] 24).below BZ (by omega))
  have HZ5 := hide (At.new (w5.alloc (.cells #[.int .i64 v2, .int .i64 u, .int .i64 e, .int .i64 M2] 24)) #[.int .i64 v2, .int .i64 u, .int .i64 e, .int .i64 m] 24)
  have HB5 := hide (below_trans (below_trans (below_trans (unhide HB4) hb5) BY) BZ)
  have hA5 := (((unhide HA4).below hb5 (by omega)).below BY (by omega))
  clear hb5 BY BZ HA4 HX4 HB4 c0 c1 c2 c3
  obtain ⟨⟨c0, c1, c2, c3⟩, _⟩ := at4 hA5
  clear hA5
  go_wp2_with fail
  have hZ := unhide HZ5
  rw [World.size_alloc] at hZ
  have HZ6 := hide hZ
  clear hZ HZ5
  clear c0 c1 c2 c3
  generalize (w5.alloc (.cells #[.int .i64 v2, .int .i64 u, .int .i64 e, .int .i64 M2] 24)).alloc (.cells #[.int .i64 v2, .int .i64 u, .int .i64 e, .int .i64 m] 24) = W6 at *
  have HT6 : Hid (Tens W6.drew) := hide (show Tens W6 from (unhide HT).kept (unhide HB5))
  obtain ⟨⟨a0, a1, a2, a3⟩, _⟩ := at4 (unhide HA5)
  obtain ⟨⟨_, _, _, x3⟩, _⟩ := at4 (unhide HX5)
  obtain ⟨⟨_, _, _, y3⟩, _⟩ := at4 (unhide HY5)
  obtain ⟨⟨z0, z1, z2, z3⟩, _⟩ := at4 (unhide HZ6)
  have fin : ∀ (d1 d2 : Int) (b1 b2 : Bool), (d1 == 0) = b1 → (M1 == m) = b1 → (d2 == 0) = b2 → (M2 == m) = b2 → True := fun _ _ _ _ _ _ _ _ => trivial
  clear fin
  by_cases h1 : m = M1
  · have e1 : (if m = M1 then (0 : Int) else 1) = 0 := if_pos h1
    rw [e1] at HC1
    clear e1
    subst h1
    by_cases h2 : m = M2
    · have e2 : (if m = M2 then (0 : Int) else 1) = 0 := if_pos h2
      rw [e2] at HC2
      clear e2
      subst h2
      go_wp2_with fail
      go_region_held3 (fun w2 => w2.cell? ⟨w1.heap.size, 0, none⟩ = some (.int .i64 r) ∧ w2.cell? ⟨w1.heap.size, 1, none⟩ = some (.int .i64 u) ∧ w2.cell? ⟨w1.heap.size, 2, none⟩ = some (.int .i64 e) ∧ w2.cell? ⟨w1.heap.size, 3, none⟩ = some (.int .i64 m) ∧ w2.cell? ⟨w4.heap.size, 3, none⟩ = some (.int .i64 m) ∧ w2.cell? ⟨w5.heap.size, 3, none⟩ = some (.int .i64 m) ∧ w2.cell? ⟨w5.heap.size + 1, 0, none⟩ = some (.int .i64 v2) ∧ w2.cell? ⟨w5.heap.size + 1, 1, none⟩ = some (.int .i64 u) ∧ w2.cell? ⟨w5.heap.size + 1, 2, none⟩ = some (.int .i64 e) ∧ w2.cell? ⟨w5.heap.size + 1, 3, none⟩ = some (.int .i64 m)) (go_keep)
        (first | (go_at_call_of 5 (Value.int .i64 v); refine (unhide HC1 _ (unhide HT6)).mono ?_; rintro x w7 ⟨rfl, hb7⟩; have hB7 : Below W6.heap.size W6 w7 := ⟨hb7.os, hb7.tape, hb7.output, hb7.size, hb7.block⟩; clear hb7; obtain ⟨⟨a0', a1', a2', a3'⟩, _⟩ := at4 ((unhide HA5).below hB7 (by omega)); obtain ⟨⟨_, _, _, x3'⟩, _⟩ := at4 ((unhide HX5).below hB7 (by omega)); obtain ⟨⟨_, _, _, y3'⟩, _⟩ := at4 ((unhide HY5).below hB7 (by omega)); obtain ⟨⟨z0', z1', z2', z3'⟩, _⟩ := at4 ((unhide HZ6).below hB7 (by omega))) | (go_at_call_of 5 (Value.int .i64 t); refine (unhide HC2 _ ((unhide HT).kept (below_trans (unhide HB5) hB7))).mono ?_; rintro x w8 ⟨rfl, hb8⟩; have hB8 : Below W6.heap.size W6 w8 := below_trans hB7 hb8; clear hb8; obtain ⟨⟨a0'', a1'', a2'', a3''⟩, _⟩ := at4 ((unhide HA5).below hB8 (by omega)); obtain ⟨⟨_, _, _, x3''⟩, _⟩ := at4 ((unhide HX5).below hB8 (by omega)); obtain ⟨⟨_, _, _, y3''⟩, _⟩ := at4 ((unhide HY5).below hB8 (by omega)); obtain ⟨⟨z0'', z1'', z2'', z3''⟩, _⟩ := at4 ((unhide HZ6).below hB8 (by omega))))
      go_wp2
      go_ret
      exact ⟨rfl, below_trans (unhide HB5) hB8⟩
    · have e2 : (if m = M2 then (0 : Int) else 1) = 1 := if_neg h2
      rw [e2] at HC2
      clear e2
      have g2 : (M2 == m) = false := by simpa using fun e => h2 e.symm
      go_wp2_with fail
      go_region_held3 (fun w2 => w2.cell? ⟨w1.heap.size, 0, none⟩ = some (.int .i64 r) ∧ w2.cell? ⟨w1.heap.size, 1, none⟩ = some (.int .i64 u) ∧ w2.cell? ⟨w1.heap.size, 2, none⟩ = some (.int .i64 e) ∧ w2.cell? ⟨w1.heap.size, 3, none⟩ = some (.int .i64 m) ∧ w2.cell? ⟨w4.heap.size, 3, none⟩ = some (.int .i64 m) ∧ w2.cell? ⟨w5.heap.size, 3, none⟩ = some (.int .i64 M2) ∧ w2.cell? ⟨w5.heap.size + 1, 0, none⟩ = some (.int .i64 v2) ∧ w2.cell? ⟨w5.heap.size + 1, 1, none⟩ = some (.int .i64 u) ∧ w2.cell? ⟨w5.heap.size + 1, 2, none⟩ = some (.int .i64 e) ∧ w2.cell? ⟨w5.heap.size + 1, 3, none⟩ = some (.int .i64 m)) (go_keep)
        (first | (go_at_call_of 5 (Value.int .i64 v); refine (unhide HC1 _ (unhide HT6)).mono ?_; rintro x w7 ⟨rfl, hb7⟩; have hB7 : Below W6.heap.size W6 w7 := ⟨hb7.os, hb7.tape, hb7.output, hb7.size, hb7.block⟩; clear hb7; obtain ⟨⟨a0', a1', a2', a3'⟩, _⟩ := at4 ((unhide HA5).below hB7 (by omega)); obtain ⟨⟨_, _, _, x3'⟩, _⟩ := at4 ((unhide HX5).below hB7 (by omega)); obtain ⟨⟨_, _, _, y3'⟩, _⟩ := at4 ((unhide HY5).below hB7 (by omega)); obtain ⟨⟨z0', z1', z2', z3'⟩, _⟩ := at4 ((unhide HZ6).below hB7 (by omega))) | (go_at_call_of 5 (Value.int .i64 t); refine (unhide HC2 _ ((unhide HT).kept (below_trans (unhide HB5) hB7))).mono ?_; rintro x w8 ⟨rfl, hb8⟩; have hB8 : Below W6.heap.size W6 w8 := below_trans hB7 hb8; clear hb8; obtain ⟨⟨a0'', a1'', a2'', a3''⟩, _⟩ := at4 ((unhide HA5).below hB8 (by omega)); obtain ⟨⟨_, _, _, x3''⟩, _⟩ := at4 ((unhide HX5).below hB8 (by omega)); obtain ⟨⟨_, _, _, y3''⟩, _⟩ := at4 ((unhide HY5).below hB8 (by omega)); obtain ⟨⟨z0'', z1'', z2'', z3''⟩, _⟩ := at4 ((unhide HZ6).below hB8 (by omega))))
      go_wp2
      go_ret
      exact ⟨rfl, below_trans (unhide HB5) hB8⟩
  · have e1 : (if m = M1 then (0 : Int) else 1) = 1 := if_neg h1
    rw [e1] at HC1
    clear e1
    have g1 : (M1 == m) = false := by simpa using fun e => h1 e.symm
    by_cases h2 : m = M2
    · have e2 : (if m = M2 then (0 : Int) else 1) = 0 := if_pos h2
      rw [e2] at HC2
      clear e2
      subst h2
      go_wp2_with fail
      go_region_held3 (fun w2 => w2.cell? ⟨w1.heap.size, 0, none⟩ = some (.int .i64 r) ∧ w2.cell? ⟨w1.heap.size, 1, none⟩ = some (.int .i64 u) ∧ w2.cell? ⟨w1.heap.size, 2, none⟩ = some (.int .i64 e) ∧ w2.cell? ⟨w1.heap.size, 3, none⟩ = some (.int .i64 m) ∧ w2.cell? ⟨w4.heap.size, 3, none⟩ = some (.int .i64 M1) ∧ w2.cell? ⟨w5.heap.size, 3, none⟩ = some (.int .i64 m) ∧ w2.cell? ⟨w5.heap.size + 1, 0, none⟩ = some (.int .i64 v2) ∧ w2.cell? ⟨w5.heap.size + 1, 1, none⟩ = some (.int .i64 u) ∧ w2.cell? ⟨w5.heap.size + 1, 2, none⟩ = some (.int .i64 e) ∧ w2.cell? ⟨w5.heap.size + 1, 3, none⟩ = some (.int .i64 m)) (go_keep)
        (first | (go_at_call_of 5 (Value.int .i64 v); refine (unhide HC1 _ (unhide HT6)).mono ?_; rintro x w7 ⟨rfl, hb7⟩; have hB7 : Below W6.heap.size W6 w7 := ⟨hb7.os, hb7.tape, hb7.output, hb7.size, hb7.block⟩; clear hb7; obtain ⟨⟨a0', a1', a2', a3'⟩, _⟩ := at4 ((unhide HA5).below hB7 (by omega)); obtain ⟨⟨_, _, _, x3'⟩, _⟩ := at4 ((unhide HX5).below hB7 (by omega)); obtain ⟨⟨_, _, _, y3'⟩, _⟩ := at4 ((unhide HY5).below hB7 (by omega)); obtain ⟨⟨z0', z1', z2', z3'⟩, _⟩ := at4 ((unhide HZ6).below hB7 (by omega))) | (go_at_call_of 5 (Value.int .i64 t); refine (unhide HC2 _ ((unhide HT).kept (below_trans (unhide HB5) hB7))).mono ?_; rintro x w8 ⟨rfl, hb8⟩; have hB8 : Below W6.heap.size W6 w8 := below_trans hB7 hb8; clear hb8; obtain ⟨⟨a0'', a1'', a2'', a3''⟩, _⟩ := at4 ((unhide HA5).below hB8 (by omega)); obtain ⟨⟨_, _, _, x3''⟩, _⟩ := at4 ((unhide HX5).below hB8 (by omega)); obtain ⟨⟨_, _, _, y3''⟩, _⟩ := at4 ((unhide HY5).below hB8 (by omega)); obtain ⟨⟨z0'', z1'', z2'', z3''⟩, _⟩ := at4 ((unhide HZ6).below hB8 (by omega))))
      go_wp2
      go_ret
      exact ⟨rfl, below_trans (unhide HB5) hB8⟩
    · have e2 : (if m = M2 then (0 : Int) else 1) = 1 := if_neg h2
      rw [e2] at HC2
      clear e2
      have g2 : (M2 == m) = false := by simpa using fun e => h2 e.symm
      go_wp2_with fail
      go_region_held3 (fun w2 => w2.cell? ⟨w1.heap.size, 0, none⟩ = some (.int .i64 r) ∧ w2.cell? ⟨w1.heap.size, 1, none⟩ = some (.int .i64 u) ∧ w2.cell? ⟨w1.heap.size, 2, none⟩ = some (.int .i64 e) ∧ w2.cell? ⟨w1.heap.size, 3, none⟩ = some (.int .i64 m) ∧ w2.cell? ⟨w4.heap.size, 3, none⟩ = some (.int .i64 M1) ∧ w2.cell? ⟨w5.heap.size, 3, none⟩ = some (.int .i64 M2) ∧ w2.cell? ⟨w5.heap.size + 1, 0, none⟩ = some (.int .i64 v2) ∧ w2.cell? ⟨w5.heap.size + 1, 1, none⟩ = some (.int .i64 u) ∧ w2.cell? ⟨w5.heap.size + 1, 2, none⟩ = some (.int .i64 e) ∧ w2.cell? ⟨w5.heap.size + 1, 3, none⟩ = some (.int .i64 m)) (go_keep)
        (first | (go_at_call_of 5 (Value.int .i64 v); refine (unhide HC1 _ (unhide HT6)).mono ?_; rintro x w7 ⟨rfl, hb7⟩; have hB7 : Below W6.heap.size W6 w7 := ⟨hb7.os, hb7.tape, hb7.output, hb7.size, hb7.block⟩; clear hb7; obtain ⟨⟨a0', a1', a2', a3'⟩, _⟩ := at4 ((unhide HA5).below hB7 (by omega)); obtain ⟨⟨_, _, _, x3'⟩, _⟩ := at4 ((unhide HX5).below hB7 (by omega)); obtain ⟨⟨_, _, _, y3'⟩, _⟩ := at4 ((unhide HY5).below hB7 (by omega)); obtain ⟨⟨z0', z1', z2', z3'⟩, _⟩ := at4 ((unhide HZ6).below hB7 (by omega))) | (go_at_call_of 5 (Value.int .i64 t); refine (unhide HC2 _ ((unhide HT).kept (below_trans (unhide HB5) hB7))).mono ?_; rintro x w8 ⟨rfl, hb8⟩; have hB8 : Below W6.heap.size W6 w8 := below_trans hB7 hb8; clear hb8; obtain ⟨⟨a0'', a1'', a2'', a3''⟩, _⟩ := at4 ((unhide HA5).below hB8 (by omega)); obtain ⟨⟨_, _, _, x3''⟩, _⟩ := at4 ((unhide HX5).below hB8 (by omega)); obtain ⟨⟨_, _, _, y3''⟩, _⟩ := at4 ((unhide HY5).below hB8 (by omega)); obtain ⟨⟨z0'', z1'', z2'', z3''⟩, _⟩ := at4 ((unhide HZ6).below hB8 (by omega))))
      go_wp2
      go_ret
      exact ⟨rfl, below_trans (unhide HB5) hB8⟩
end Go.Proofs.YtlmdpfhabiakmaaDoor.Tok
