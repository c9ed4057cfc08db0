/-
  spec's run of a tariff: eval, where no kid is run.
-/
import Derived.Test.YtdpefmjlmpjjbaaRunS
import Derived.Test.YtdpefmjlmpjjbaaLawOk
namespace Go.Proofs.Ytdpefmjlmpjjbaa.Rule
set_option linter.unusedVariables false
open Go.RowKit Tiers
open Kinds (kidsK)
open Coin (okB addV addB timesV fitB partV partB)
open Draw (grown_trans grown_none grown_of_below below_of)

/-- what eval leaves -/
def EvP (us : List Uses.U) (e : Ex) (l : Nat) (w : World) (P : Nat) (uv : Value) (x : Ending) (w' : World) : Prop :=
  ∃ (n n' : Int) (c l' : Nat), x = .returned (.int .i64 n) ∧ Ev us e l n' c l' ∧ (c = 0 → n' = n ∧ okB n = true) ∧ l' ≤ l ∧ c ≤ 2 ∧ w.grownBy w' (some P) ∧ RunC w' P uv l' c
def EvalS (us : List Uses.U) (d : Nat) : Prop := ∀ (w0 : World) (uv : Value) (lo hi : Nat) (v : Value) (e : Ex) (l : Nat) (w : World), Uses.UR w0 uv us → EV lo hi w0 d v e → hi ≤ w0.heap.size → allB e = true → wt e ≤ 1048576 → l ≤ 1000 → Below w0.heap.size w0 w → RunC w w0.heap.size uv l 0 →
  Calls Try.prog 15 #[.pointer (some ⟨w0.heap.size, 0, none⟩), v] w fun x w' => EvP us e l w w0.heap.size uv x w'

set_option maxHeartbeats 1600000 in
set_option maxRecDepth 100000 in
theorem eval_out (us : List Uses.U) (P : Nat) (uv : Value) (e : Ex) (ka : Option Addr) (kc : Nat) (ta : Option Addr) (tc : Nat) (w : World) (hR : RunC w P uv 0 0) :
    Calls Try.prog 15 #[.pointer (some ⟨P, 0, none⟩), exV e ka kc ta tc] w fun x w' => EvP us e 0 w P uv x w' := by
  have hP := hR.lt
  have HR1 := hide hR
  have HE : Hid (Ev us e 0 0 2 0) := hide (Ev.out e)
  obtain ⟨h0, h1, h2, f1, f2⟩ := hR
  go_enter Try.func15, Try.ntmps15
  go_wp2
  go_ret
  exact ⟨0, 0, 2, 0, rfl, unhide HE, fun h => by omega, Nat.le_refl _, by omega, grown_trans (grown_set _ _ _ _) (World.grownBy_alloc _ _ _), ((unhide HR1).code 2).kept (below_alloc _ _)⟩

set_option maxHeartbeats 1600000 in
set_option maxRecDepth 100000 in
theorem eval_num (us : List Uses.U) (P : Nat) (uv : Value) (e : Ex) (ka : Option Addr) (kc : Nat) (ta : Option Addr) (tc : Nat) (l : Nat) (w : World) (hl : l ≤ 1000) (hR : RunC w P uv (l + 1) 0) (hk : e.kind = 1) (ho : okB e.num = true) :
    Calls Try.prog 15 #[.pointer (some ⟨P, 0, none⟩), exV e ka kc ta tc] w fun x w' => EvP us e (l + 1) w P uv x w' := by
  have hP := hR.lt
  have HR1 := hide hR
  have HE : Hid (Ev us e (l + 1) e.num 0 l) := hide (by
    have hn : nextM e.kind [] = none := by rw [hk]; rfl
    have hv : valB us e [] = true := by unfold valB; rw [if_pos hk]
    have := Ev.go (Rest.val (us := us) (l := l) hn hv)
    have e1 : valV us e [] = e.num := by unfold valV; rw [if_pos hk]
    rw [e1] at this; exact this)
  have HO := hide ho
  have hc : exV e ka kc ta tc = .agg #[.int .i64 1, .int .i64 e.num, .string e.meter, .slice ka e.kids.length kc, .slice ta e.tiers.length tc] := by unfold exV; rw [hk]
  rw [hc]
  obtain ⟨h0, h1, h2, f1, f2⟩ := hR
  have e1 : ((l + 1 : Nat) : Int) = (l : Int) + 1 := by omega
  rw [e1] at h1
  have e2 : ((l : Int) + 1 == 0) = false := beq_eq_false_iff_ne.2 (by omega)
  have e3 : (l : Int) + 1 - 1 = (l : Int) := by omega
  clear hk hc ho e1
  go_enter Try.func15, Try.ntmps15
  go_wp2
  go_ret
  exact ⟨_, _, 0, l, rfl, unhide HE, fun h => ⟨rfl, unhide HO⟩, by omega, by omega, grown_trans (grown_set _ _ _ _) (World.grownBy_alloc _ _ _), ((unhide HR1).left l).kept (below_alloc _ _)⟩

set_option maxHeartbeats 1600000 in
set_option maxRecDepth 100000 in
theorem eval_meter (us : List Uses.U) (w0 : World) (uv : Value) (e : Ex) (ka : Option Addr) (kc : Nat) (ta : Option Addr) (tc : Nat) (l : Nat) (w : World) (hl : l ≤ 1000) (hU : Uses.UR w0 uv us) (hul : us.length ≤ 1048576) (hB : Below w0.heap.size w0 w) (hR : RunC w w0.heap.size uv (l + 1) 0) (hk : e.kind = 2) :
    Calls Try.prog 15 #[.pointer (some ⟨w0.heap.size, 0, none⟩), exV e ka kc ta tc] w fun x w' => EvP us e (l + 1) w w0.heap.size uv x w' := by
  have hP := hR.lt
  have HB := hide hB
  have HU := hide hU
  have HR1 := hide hR
  have HE : Hid (Ev us e (l + 1) (if okB (Uses.ofV e.meter us) = true then Uses.ofV e.meter us else 0) (overC (okB (Uses.ofV e.meter us))) l) := hide (by
    have hn : nextM e.kind [] = none := by rw [hk]; rfl
    have hv : valB us e [] = okB (Uses.ofV e.meter us) := by unfold valB; rw [if_neg (by omega), if_pos hk]
    have e1 : valV us e [] = Uses.ofV e.meter us := by unfold valV; rw [if_neg (by omega), if_pos hk]
    cases hc : okB (Uses.ofV e.meter us)
    · exact Ev.go (Rest.over hn (hv.trans hc))
    · have := Ev.go (Rest.val (us := us) (l := l) hn (hv.trans hc))
      rw [e1] at this; exact this)
  have hc : exV e ka kc ta tc = .agg #[.int .i64 2, .int .i64 e.num, .string e.meter, .slice ka e.kids.length kc, .slice ta e.tiers.length tc] := by unfold exV; rw [hk]
  rw [hc]
  obtain ⟨W1, hW1⟩ : ∃ W1, (w.setCell ⟨w0.heap.size, 1, none⟩ (.int .i64 (l : Int))).alloc (.cells #[.int .i64 2, .int .i64 e.num, .string e.meter, .slice ka e.kids.length kc, .slice ta e.tiers.length tc] 26) = W1 := ⟨_, rfl⟩
  have HW1 := hide hW1
  have HG1 : Hid (w.grownBy W1 (some w0.heap.size)) := hide (by rw [← hW1]; exact grown_trans (grown_set _ _ _ _) (World.grownBy_alloc _ _ _))
  have HRW : Hid (RunC W1 w0.heap.size uv l 0) := hide (by rw [← hW1]; exact (hR.left l).kept (below_alloc _ _))
  have HU1 : Hid (Uses.UR W1.drew uv us) := hide (hU.kept (by
    have := below_of hB (Nat.le_refl _) (unhide HG1)
    exact ⟨this.os, this.tape, this.output, this.size, this.block⟩))
  have c0 := (unhide HRW).1
  have y1 := (unhide HRW).lt
  have c2 : W1.cell? ⟨w.heap.size, 2, none⟩ = some (.string e.meter) := by
    rw [← hW1]; have := (new5 (w.setCell ⟨w0.heap.size, 1, none⟩ (.int .i64 (l : Int))) (.int .i64 2) (.int .i64 e.num) (.string e.meter) (.slice ka e.kids.length kc) (.slice ta e.tiers.length tc) 26).2.2.1
    simpa using this
  have y2 : w.heap.size < W1.heap.size := by rw [← hW1]; simp
  obtain ⟨h0, h1, h2, f1, f2⟩ := hR
  have e1 : ((l + 1 : Nat) : Int) = (l : Int) + 1 := by omega
  rw [e1] at h1
  have e2 : ((l : Int) + 1 == 0) = false := beq_eq_false_iff_ne.2 (by omega)
  have e3 : (l : Int) + 1 - 1 = (l : Int) := by omega
  clear hk hc e1 hW1 hU hB
  go_enter Try.func15, Try.ntmps15
  go_wp2_with (fail)
  rw [unhide HW1]
  clear h0 h1 h2 f1 f2 e2 e3
  go_region_held3 (fun ww => ww.cell? ⟨w0.heap.size, 0, none⟩ = some uv ∧ ww.cell? ⟨w.heap.size, 2, none⟩ = some (.string e.meter)) (go_keep)
    (first | (go_at_call 23; refine (Uses.ofS _ us _ W1.drew (unhide HU1) hul).mono ?_; rintro x w2 ⟨rfl, hb2'⟩; have hb2 : Below W1.heap.size W1 w2 := ⟨hb2'.os, hb2'.tape, hb2'.output, hb2'.size, hb2'.block⟩; clear hb2'; have p0 := (hb2.cell (p := ⟨w0.heap.size, 0, none⟩) y1).trans c0; have p2 := (hb2.cell (p := ⟨w.heap.size, 2, none⟩) y2).trans c2))
  have HR2 := hide ((unhide HRW).kept hb2)
  have HG2 := hide (grown_trans (unhide HG1) (grown_of_below hb2 _))
  clear p0 p2 c0 c2 hb2 HU1 HRW HG1
  go_wp2_with (first | (go_at_call 25; refine (Coin.okS _ _).mono ?_; rintro x w3 ⟨rfl, rfl⟩))
  refine (overS w0.heap.size uv l _ _ _ (unhide HR2)).mono ?_
  rintro x w4 ⟨rfl, rfl⟩
  go_wp2_with (fail)
  go_ret
  exact ⟨_, _, _, l, rfl, unhide HE, fun h => by
    cases hc : okB (Uses.ofV e.meter us)
    · rw [hc] at h; cases h
    · exact ⟨rfl, rfl⟩, by omega, by cases okB (Uses.ofV e.meter us) <;> decide, grown_trans (unhide HG2) (grown_over _ _ _), (unhide HR2).over _⟩
end Go.Proofs.Ytdpefmjlmpjjbaa.Rule
