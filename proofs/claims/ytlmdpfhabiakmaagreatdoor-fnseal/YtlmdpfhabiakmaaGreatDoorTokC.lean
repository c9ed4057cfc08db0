/-
  The program's SealCheck: a chain of method values.
-/
import Derived.Test.YtlmdpfhabiakmaaGreatDoorTokI
import Derived.Laws.EntriesVeiled
namespace Go.Proofs.YtlmdpfhabiakmaaGreatDoor.Tok
set_option linter.unusedVariables false
open Go.RowKit
open Num (bytesOf)
open Strs hiding hide unhide below_trans
open Mac (hide unhide below_trans macL macL_bd macI macS)
open Boxes (At box1 box2)
open _root_.Go.Proofs.YtlmdpfhabiakmaaGreatDoor.Text (Tens itoaI)

abbrev shV (k t r u e m now ep : Int) : Value := .agg #[.int .i64 r, .int .i64 u, .int .i64 e, .int .i64 m, .int .i64 k, .int .i64 t, .int .i64 now, .int .i64 ep]

set_option maxHeartbeats 1000000 in
theorem f0I (k t r u e m now ep : Int) (w : World) : Calls Tryz.prog 40 #[shV k t r u e m now ep] w fun x w' => x = .returned (.bool (!(formB r u e m && tenB t))) ∧ Below w.heap.size w w' := by
  cases h1 : formB r u e m <;> cases h2 : tenB t
  all_goals
    have H1 := hide h1
    have H2 := hide h2
    clear h1 h2
    go_enter Tryz.func40, Tryz.ntmps40
    go_wp2_with fail
    refine (formedI r u e m _).mono ?_
    rintro x w1 ⟨rfl, hb1⟩
    rw [unhide H1]
    obtain ⟨A0, hB, hz⟩ := box1 hb1
    have c5 := (A0 5 _ rfl).1
    clear hb1
    go_wp2_with (first | (go_at_call 17; refine (tenI _ _).mono ?_; rintro x w' ⟨rfl, rfl⟩; rw [unhide H2]))
    go_ret
    exact ⟨rfl, hB⟩
set_option maxHeartbeats 1000000 in
theorem f1I (k t r u e m now ep : Int) (w : World) (ht : i64 t) (hr : i64 r) (hu : i64 u) (he : i64 e) (hT : Tens w) : Calls Tryz.prog 41 #[shV k t r u e m now ep] w fun x w' => x = .returned (.bool (decide (m ≠ macL k (ptL t r u e)))) ∧ Below w.heap.size w w' := by
  have HM := hide (fun W hW => markI k t r u e m W ht hr hu he hW)
  have hA := At.new w #[.int .i64 r, .int .i64 u, .int .i64 e, .int .i64 m, .int .i64 k, .int .i64 t, .int .i64 now, .int .i64 ep] 58
  obtain ⟨W5, hW5⟩ : ∃ W5, w.alloc (.cells #[.int .i64 r, .int .i64 u, .int .i64 e, .int .i64 m, .int .i64 k, .int .i64 t, .int .i64 now, .int .i64 ep] 58) = W5 := ⟨_, rfl⟩
  have B5 : Below w.heap.size w W5 := by rw [← hW5]; exact below_alloc _ _
  have hz5 : w.heap.size < W5.heap.size := by rw [← hW5]; simp
  rw [hW5] at hA
  have HW5 := hide hW5
  have HT5 := hide (hT.kept B5)
  have c0 := (hA 0 _ rfl).1
  have c1 := (hA 1 _ rfl).1
  have c2 := (hA 2 _ rfl).1
  have c3 := (hA 3 _ rfl).1
  have c4 := (hA 4 _ rfl).1
  have c5 := (hA 5 _ rfl).1
  clear ht hr hu he hT hW5
  generalize macL k (ptL t r u e) = M at *
  go_enter Tryz.func41, Tryz.ntmps41
  go_wp2_with fail
  rw [unhide HW5]
  go_region_held3 (fun w2 => w2.cell? ⟨w.heap.size, 0, none⟩ = some (.int .i64 r) ∧ w2.cell? ⟨w.heap.size, 1, none⟩ = some (.int .i64 u) ∧ w2.cell? ⟨w.heap.size, 2, none⟩ = some (.int .i64 e) ∧ w2.cell? ⟨w.heap.size, 3, none⟩ = some (.int .i64 m) ∧ w2.cell? ⟨w.heap.size, 4, none⟩ = some (.int .i64 k) ∧ w2.cell? ⟨w.heap.size, 5, none⟩ = some (.int .i64 t)) (go_keep)
    (first | (go_at_call 15; refine (unhide HM _ (show Tens W5.drew from unhide HT5)).mono ?_; rintro x w2 ⟨rfl, hb2⟩; have hB1 : Below W5.heap.size W5 w2 := ⟨hb2.os, hb2.tape, hb2.output, hb2.size, hb2.block⟩; clear hb2; have A1 := hA.below hB1 hz5; have r0 := (A1 0 _ rfl).1; have r1 := (A1 1 _ rfl).1; have r2 := (A1 2 _ rfl).1; have r3 := (A1 3 _ rfl).1; have r4 := (A1 4 _ rfl).1; have r5 := (A1 5 _ rfl).1))
  go_wp2
  go_ret
  exact ⟨ret_bool (by rw [Bool.eq_iff_iff]; simp), below_trans B5 hB1⟩
set_option maxHeartbeats 1000000 in
theorem f2I (k t r u e m now ep : Int) (w : World) : Calls Tryz.prog 42 #[shV k t r u e m now ep] w fun x w' => x = .returned (.bool (decide (e ≠ ep))) ∧ Below w.heap.size w w' := by
  go_enter Tryz.func42, Tryz.ntmps42
  go_wp2_with fail
  go_ret
  exact ⟨ret_bool (by rw [Bool.eq_iff_iff]; simp), below_alloc _ _⟩
set_option maxHeartbeats 1000000 in
theorem f3I (k t r u e m now ep : Int) (w : World) : Calls Tryz.prog 43 #[shV k t r u e m now ep] w fun x w' => x = .returned (.bool (decide (u < now))) ∧ Below w.heap.size w w' := by
  go_enter Tryz.func43, Tryz.ntmps43
  go_wp2_with fail
  go_ret
  exact ⟨rfl, below_alloc _ _⟩
theorem faultsI (k t r u e m now ep : Int) (w : World) : Calls Tryz.prog 29 #[shV k t r u e m now ep] w fun x w' => x = .returned (.slice (some ⟨w.heap.size + 1, 0, none⟩) 4 4) ∧
    At w' (w.heap.size + 1) [.int .i64 4, Value.func (.func 40) #[shV k t r u e m now ep] #[], .int .i64 1, Value.func (.func 41) #[shV k t r u e m now ep] #[], .int .i64 3, Value.func (.func 42) #[shV k t r u e m now ep] #[], .int .i64 2, Value.func (.func 43) #[shV k t r u e m now ep] #[]] ∧ w'.heap.size = w.heap.size + 2 ∧ Below w.heap.size w w' := by
  go_enter Tryz.func29, Tryz.ntmps29
  go_wp2_with fail
  go_ret
  refine ⟨rfl, ?_, by simp, below_alloc2 _ _ _⟩
  have h := At.new (w.alloc (.cells #[.int .i64 r, .int .i64 u, .int .i64 e, .int .i64 m, .int .i64 k, .int .i64 t, .int .i64 now, .int .i64 ep] 58)) #[.int .i64 4, Value.func (.func 40) #[shV k t r u e m now ep] #[], .int .i64 1, Value.func (.func 41) #[shV k t r u e m now ep] #[], .int .i64 3, Value.func (.func 42) #[shV k t r u e m now ep] #[], .int .i64 2, Value.func (.func 43) #[shV k t r u e m now ep] #[]] 63
  rw [World.size_alloc] at h
  exact h

/-- the first fault that is found -/
def firstB (b0 b1 b2 b3 : Bool) : Int := if b0 = true then 4 else if b1 = true then 1 else if b2 = true then 3 else if b3 = true then 2 else 0
theorem code_first (k t r u e m now ep : Int) : codeT k t r u e m now ep = firstB (!(formB r u e m && tenB t)) (decide (m ≠ macL k (ptL t r u e))) (decide (e ≠ ep)) (decide (u < now)) := by
  have key : ∀ z a b c : Bool, ∀ y x v : Prop, ∀ [Decidable y] [Decidable x] [Decidable v], (if z = true then (if y then (1 : Int) else if x then 3 else if v then 2 else 0) else 4) = firstB (!z) (decide y) (decide x) (decide v) := by
    intro z _ _ _ y x v _ _ _
    unfold firstB
    cases z <;> simp
  unfold codeT
  exact key (formB r u e m && tenB t) true true true (m ≠ macL k (ptL t r u e)) (e ≠ ep) (u < now)

set_option maxHeartbeats 1000000 in
set_option maxRecDepth 20000 in
/-- impl.SealCheck -/
theorem checkI (k t r u e m now ep : Int) (w : World) (ht : i64 t) (hr : i64 r) (hu : i64 u) (he : i64 e) (hT : Tens w) : Calls Tryz.prog 11 #[.int .i64 k, .int .i64 t, tokV r u e m, .int .i64 now, .int .i64 ep] w fun x w' => x = .returned (.int .i64 (codeT k t r u e m now ep)) ∧ Below w.heap.size w w' := by
  rw [code_first]
  have C0 := hide (f0I k t r u e m now ep)
  have C1 := hide (fun W hW => f1I k t r u e m now ep W ht hr hu he hW)
  have C2 := hide (f2I k t r u e m now ep)
  have C3 := hide (f3I k t r u e m now ep)
  have HT := hide hT
  clear ht hr hu he hT
  generalize (!(formB r u e m && tenB t)) = b0 at *
  generalize decide (m ≠ macL k (ptL t r u e)) = b1 at *
  generalize decide (e ≠ ep) = b2 at *
  generalize decide (u < now) = b3 at *
  go_enter Tryz.func11, Tryz.ntmps11
  go_wp2_with fail
  refine (faultsI k t r u e m now ep _).mono ?_
  rintro x w1 ⟨rfl, hA, hz, hb⟩
  have B1 := hide (below_trans (below_alloc2 _ _ _) hb)
  have hz1 : w1.heap.size = w.heap.size + 4 := by rw [hz]; simp
  simp only [World.size_alloc] at hA
  have HA := hide hA
  have HT1 := hide ((unhide HT).kept (unhide B1))
  clear hz hb hA HT
  go_wp2_with fail
  go_loopw [23] (fun i wr => ∃ j : Nat, j ≤ 4 ∧ i = .int .i64 j ∧ Hid ((0 < j → b0 = false) ∧ (1 < j → b1 = false) ∧ (2 < j → b2 = false) ∧ (3 < j → b3 = false)) ∧ Hid (Below w1.heap.size w1 wr)) (fun i _ => 4 - (intOf i).toNat)
  case atStart => exact ⟨0, by omega, rfl, hide ⟨fun h => by omega, fun h => by omega, fun h => by omega, fun h => by omega⟩, hide (Below.refl _ _)⟩
  case round =>
    obtain ⟨j, hj, rfl, hF, hB⟩ := hrel
    rcases (by omega : j = 0 ∨ j = 1 ∨ j = 2 ∨ j = 3 ∨ j = 4) with rfl | rfl | rfl | rfl | rfl
    · have hA := (unhide HA).below (unhide hB) (by omega)
      have d0 := (hA 0 _ rfl).1
      have d1 := (hA 1 _ rfl).1
      have hc0 := At.new wr #[.int .i64 4, Value.func (.func 40) #[shV k t r u e m now ep] #[]] 63
      have g0 := (hc0 0 _ rfl).1
      have g1 := (hc0 1 _ rfl).1
      have BW : Hid (Below w1.heap.size w1 (wr.alloc (.cells #[.int .i64 4, Value.func (.func 40) #[shV k t r u e m now ep] #[]] 63))) := hide (below_trans (unhide hB) (below_alloc _ _))
      clear hA hc0
      go_wp2_with fail
      refine (unhide C0 _).mono ?_
      rintro x w2 ⟨rfl, hb2⟩
      obtain ⟨A0, hB2, _⟩ := box1 hb2
      have c0 := (A0 0 _ rfl).1
      have HB2 := hide (below_trans (unhide hB) hB2)
      have hF' := hF
      clear hb2 A0 hB2 d0 d1 g0 g1 hF
      cases hb : b0 with
      | true =>
        have HE : Hid (firstB b0 b1 b2 b3 = 4) := hide (by obtain ⟨q0, q1, q2, q3⟩ := unhide hF'; unfold firstB; simp [hb])
        go_wp2_with fail
        go_ret
        exact ⟨ret_int (unhide HE).symm, below_trans (unhide B1) (unhide HB2)⟩
      | false =>
        go_wp2_with fail
        exact ⟨⟨1, by omega, by go_num, hide ⟨fun _ => hb, fun h => by omega, fun h => by omega, fun h => by omega⟩, HB2⟩, by simp [intOf]⟩
    · have hA := (unhide HA).below (unhide hB) (by omega)
      have d0 := (hA 2 _ rfl).1
      have d1 := (hA 3 _ rfl).1
      have hc0 := At.new wr #[.int .i64 1, Value.func (.func 41) #[shV k t r u e m now ep] #[]] 63
      have g0 := (hc0 0 _ rfl).1
      have g1 := (hc0 1 _ rfl).1
      have BW : Hid (Below w1.heap.size w1 (wr.alloc (.cells #[.int .i64 1, Value.func (.func 41) #[shV k t r u e m now ep] #[]] 63))) := hide (below_trans (unhide hB) (below_alloc _ _))
      clear hA hc0
      go_wp2_with fail
      refine (unhide C1 _ ((unhide HT1).kept (unhide BW))).mono ?_
      rintro x w2 ⟨rfl, hb2⟩
      obtain ⟨A0, hB2, _⟩ := box1 hb2
      have c0 := (A0 0 _ rfl).1
      have HB2 := hide (below_trans (unhide hB) hB2)
      have hF' := hF
      clear hb2 A0 hB2 d0 d1 g0 g1 hF
      cases hb : b1 with
      | true =>
        have HE : Hid (firstB b0 b1 b2 b3 = 1) := hide (by obtain ⟨q0, q1, q2, q3⟩ := unhide hF'; unfold firstB; simp [hb, q0 (by omega)])
        go_wp2_with fail
        go_ret
        exact ⟨ret_int (unhide HE).symm, below_trans (unhide B1) (unhide HB2)⟩
      | false =>
        go_wp2_with fail
        exact ⟨⟨2, by omega, by go_num, hide ⟨fun h => (unhide hF').1 (by omega), fun _ => hb, fun h => by omega, fun h => by omega⟩, HB2⟩, by simp [intOf]⟩
    · have hA := (unhide HA).below (unhide hB) (by omega)
      have d0 := (hA 4 _ rfl).1
      have d1 := (hA 5 _ rfl).1
      have hc0 := At.new wr #[.int .i64 3, Value.func (.func 42) #[shV k t r u e m now ep] #[]] 63
      have g0 := (hc0 0 _ rfl).1
      have g1 := (hc0 1 _ rfl).1
      have BW : Hid (Below w1.heap.size w1 (wr.alloc (.cells #[.int .i64 3, Value.func (.func 42) #[shV k t r u e m now ep] #[]] 63))) := hide (below_trans (unhide hB) (below_alloc _ _))
      clear hA hc0
      go_wp2_with fail
      refine (unhide C2 _).mono ?_
      rintro x w2 ⟨rfl, hb2⟩
      obtain ⟨A0, hB2, _⟩ := box1 hb2
      have c0 := (A0 0 _ rfl).1
      have HB2 := hide (below_trans (unhide hB) hB2)
      have hF' := hF
      clear hb2 A0 hB2 d0 d1 g0 g1 hF
      cases hb : b2 with
      | true =>
        have HE : Hid (firstB b0 b1 b2 b3 = 3) := hide (by obtain ⟨q0, q1, q2, q3⟩ := unhide hF'; unfold firstB; simp [hb, q0 (by omega), q1 (by omega)])
        go_wp2_with fail
        go_ret
        exact ⟨ret_int (unhide HE).symm, below_trans (unhide B1) (unhide HB2)⟩
      | false =>
        go_wp2_with fail
        exact ⟨⟨3, by omega, by go_num, hide ⟨fun h => (unhide hF').1 (by omega), fun h => (unhide hF').2.1 (by omega), fun _ => hb, fun h => by omega⟩, HB2⟩, by simp [intOf]⟩
    · have hA := (unhide HA).below (unhide hB) (by omega)
      have d0 := (hA 6 _ rfl).1
      have d1 := (hA 7 _ rfl).1
      have hc0 := At.new wr #[.int .i64 2, Value.func (.func 43) #[shV k t r u e m now ep] #[]] 63
      have g0 := (hc0 0 _ rfl).1
      have g1 := (hc0 1 _ rfl).1
      have BW : Hid (Below w1.heap.size w1 (wr.alloc (.cells #[.int .i64 2, Value.func (.func 43) #[shV k t r u e m now ep] #[]] 63))) := hide (below_trans (unhide hB) (below_alloc _ _))
      clear hA hc0
      go_wp2_with fail
      refine (unhide C3 _).mono ?_
      rintro x w2 ⟨rfl, hb2⟩
      obtain ⟨A0, hB2, _⟩ := box1 hb2
      have c0 := (A0 0 _ rfl).1
      have HB2 := hide (below_trans (unhide hB) hB2)
      have hF' := hF
      clear hb2 A0 hB2 d0 d1 g0 g1 hF
      cases hb : b3 with
      | true =>
        have HE : Hid (firstB b0 b1 b2 b3 = 2) := hide (by obtain ⟨q0, q1, q2, q3⟩ := unhide hF'; unfold firstB; simp [hb, q0 (by omega), q1 (by omega), q2 (by omega)])
        go_wp2_with fail
        go_ret
        exact ⟨ret_int (unhide HE).symm, below_trans (unhide B1) (unhide HB2)⟩
      | false =>
        go_wp2_with fail
        exact ⟨⟨4, by omega, by go_num, hide ⟨fun h => (unhide hF').1 (by omega), fun h => (unhide hF').2.1 (by omega), fun h => (unhide hF').2.2.1 (by omega), fun _ => hb⟩, HB2⟩, by simp [intOf]⟩
    · have HE : Hid (firstB b0 b1 b2 b3 = 0) := hide (by obtain ⟨q0, q1, q2, q3⟩ := unhide hF; unfold firstB; simp [q0 (by omega), q1 (by omega), q2 (by omega), q3 (by omega)])
      go_wp2_with fail
      go_ret
      exact ⟨ret_int (unhide HE).symm, below_trans (unhide B1) (unhide hB)⟩
end Go.Proofs.YtlmdpfhabiakmaaGreatDoor.Tok
