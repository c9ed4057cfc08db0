/-
  The laws' own helper heldStringS: the row still holds the texts that mark.
-/
import Derived.Test.YtpamdnkngedmaaaDoorMarkTx
import Derived.Test.YtpamdnkngedmaaaDoorRegIn
namespace Go.Proofs.YtpamdnkngedmaaaDoor.Txt
set_option linter.unusedVariables false
open Go.RowKit
open _root_.Go.Proofs.YtpamdnkngedmaaaDoor.RegIn
open Evs (mt)

theorem below_drewN' {B : Nat} {a w : World} (h : Below B a w) (k : Nat) : Below B a (w.drewN k) := ⟨h.os, h.tape, h.output, h.size, h.block⟩
theorem marksT_at {k n j : Nat} (h : j < n) : (marksT k n).getD j S0 = mt (k + j) := by simp [marksT, List.getD, h]

set_option maxHeartbeats 800000 in
theorem heldStr (v : Value) (n k : Nat) (w : World) (h : TR w v (marksT k n)) (hl : n ≤ 1048576) (h0 : 1 ≤ k) (h1 : k ≤ 100000000) :
    Calls Tryd.prog 17 #[v, .int .i64 (k : Int)] w fun e w' => e = .returned (.int .i64 ((k + n : Nat) : Int)) ∧ Below w.heap.size w w' := by
  rcases h with ⟨hn, a, c, rfl⟩ | ⟨b, o, cap, rfl, hc⟩
  · have : n = 0 := by have := congrArg List.length hn; rw [marksT_len] at this; exact this
    subst this
    clear hn
    go_enter Tryd.func17, Tryd.ntmps17
    go_wp2
    refine wp_loop_rounds 1 ?_
    rw [rounds_succ]
    go_wp2
    go_ret
    exact ⟨by simp, Below.refl _ _⟩
  · rw [marksT_len]
    have HC := hide hc
    have hbs := hc.1
    clear hc
    go_enter Tryd.func17, Tryd.ntmps17
    go_wp2
    go_loopw [1, 5] (fun t i wr => ∃ j : Nat, j ≤ n ∧ i = .int .i64 j ∧ t = .int .i64 ((k + j : Nat) : Int) ∧ Hid (Below w.heap.size w wr)) (fun _ i _ => n - (intOf i).toNat)
    case atStart => exact ⟨0, Nat.zero_le _, rfl, by simp, hide (Below.refl _ _)⟩
    case round =>
      obtain ⟨j, hj, rfl, rfl, hb⟩ := hrel
      by_cases hlt : j < n
      · have HCW : Hid (∀ w2 : World, Below w.heap.size w w2 → w2.cell? ⟨b, o + j, none⟩ = some (.string (mt (k + j)))) := hide (fun w2 h2 => by
          have := ((unhide HC).kept h2).2 j (by rw [marksT_len]; exact hlt)
          rwa [marksT_at hlt] at this)
        have g0 : ∀ g : In (Below w.heap.size w), g.x.cell? ⟨b, o + j, none⟩ = some (.string (mt (k + j))) := fun g => unhide HCW g.x g.h
        have HC1 : Hid (∀ g : In (Below w.heap.size w), Calls Tryd.prog 29 #[.int .i64 ((k + j : Nat) : Int)] g.x fun x w' => x = .returned (.string (mt (k + j))) ∧ Below w.heap.size w w') := hide (fun g => (markT (k + j) g.x (by omega) (by omega)).mono (fun x w' ⟨hx, h2⟩ => ⟨hx, below_trans g.h h2⟩))
        have i1 : (0 : Int) ≤ (j : Int) := by omega
        have i2 : (j : Int) < (n : Int) := by omega
        have q1 : (!(mt (k + j)).toList == (mt (k + j)).toList) = false := by simp
        generalize mt (k + j) = m1 at *
        have e1 : ((k + j : Nat) : Int) + 1 = ((k + (j + 1) : Nat) : Int) := by omega
        go_wp2
        refine wp_region_in (Below w.heap.size w) (by kernel_rfl) (by kernel_rfl) (below_drewN' (unhide hb) 1) ?_
        intro hne
        repeat (go_big_quiet_step (exact call_in _ (unhide HC1 _)))
        refine wpQuiet_nil ?_
        rintro _ ⟨g, rfl⟩
        have B1 := hide g.h
        clear hb
        go_wp2
        exact ⟨⟨j + 1, by omega, by go_num, by congr 1, B1⟩, by simp [intOf]; omega⟩
      · obtain rfl : j = n := by omega
        go_wp2
        go_ret
        exact ⟨rfl, unhide hb⟩
end Go.Proofs.YtpamdnkngedmaaaDoor.Txt
