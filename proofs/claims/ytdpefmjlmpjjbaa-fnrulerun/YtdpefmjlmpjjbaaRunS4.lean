/-
  spec.RuleRun.
-/
import Derived.Test.YtdpefmjlmpjjbaaRunS3
namespace Go.Proofs.Ytdpefmjlmpjjbaa.Rule
set_option linter.unusedVariables false
open Go.RowKit Tiers
open Kinds (kidsK)
open Coin (okB addV addB timesV fitB partV partB)
open Draw (grown_trans grown_none grown_of_below below_of)

theorem kids0 {k : Int} (h : kidsK k = 0) : k = 1 ∨ k = 2 := by
  unfold kidsK at h
  split at h
  · assumption
  split at h
  · omega
  split at h
  · omega
  split at h <;> omega
theorem evalS_leaf (us : List Uses.U) (hul : us.length ≤ 1048576) (w0 : World) (uv : Value) (e : Ex) (ka : Option Addr) (kc : Nat) (ta : Option Addr) (tc : Nat) (l : Nat) (w : World) (hU : Uses.UR w0 uv us) (ha : allB e = true) (hk : e.kids = []) (hl : l ≤ 1000) (hB : Below w0.heap.size w0 w) (hR : RunC w w0.heap.size uv l 0) :
    Calls Try.prog 15 #[.pointer (some ⟨w0.heap.size, 0, none⟩), exV e ka kc ta tc] w fun x w' => EvP us e l w w0.heap.size uv x w' := by
  cases l with
  | zero => exact eval_out us _ uv e ka kc ta tc w hR
  | succ l =>
    have hn := all_node ha
    have h3 := (node_parts hn).2.2.1
    rw [hk] at h3
    rcases kids0 h3.symm with h | h
    · exact eval_num us _ uv e ka kc ta tc l w (by omega) hR h (num_bd hn h)
    · exact eval_meter us w0 uv e ka kc ta tc l w (by omega) hU hul hB hR h
theorem evalS_all (us : List Uses.U) (hul : us.length ≤ 1048576) : ∀ d, EvalS us d
  | 0 => by
    intro w0 uv lo hi v e l w hU hE hhi ha hw hl hB hR
    have hk : e.kids = [] := by obtain ⟨kv, tv, _, _, h, _⟩ := hE; exact h.1
    obtain ⟨ka, kc, ta, tc, rfl⟩ := hE.form
    exact evalS_leaf us hul w0 uv e ka kc ta tc l w hU ha hk hl hB hR
  | d + 1 => by
    intro w0 uv lo hi v e l w hU hE hhi ha hw hl hB hR
    by_cases hk : e.kids = []
    · obtain ⟨ka, kc, ta, tc, rfl⟩ := hE.form
      exact evalS_leaf us hul w0 uv e ka kc ta tc l w hU ha hk hl hB hR
    cases l with
    | zero =>
      obtain ⟨ka, kc, ta, tc, rfl⟩ := hE.form
      exact eval_out us _ uv e ka kc ta tc w hR
    | succ l =>
      obtain ⟨kv, tv, rfl, hz, hE2, ht⟩ := hE
      rcases hE2 with ⟨h, _⟩ | ⟨b, o, cap, rfl, hlen, k1, k2, hc⟩
      · exact absurd h hk
      obtain ⟨ta, tc, rfl⟩ := ht.form
      have h3 := (node_parts (all_node ha)).2.2.1
      have hne : kidsK e.kind ≠ 0 := by
        rw [← h3]
        have : e.kids.length ≠ 0 := fun h => hk (List.eq_nil_of_length_eq_zero h)
        omega
      refine eval_kids us (evalS_all us hul d) w0 uv lo hi b o cap ta tc e l w (by omega) hU hhi ha hw hB hR ?_ ?_ k1 k2 ht.toTR (fun i hi => kidEV hc i hi)
      · intro h; rw [h] at hne; exact hne rfl
      · intro h; rw [h] at hne; exact hne rfl

/-- what RuleRun answers -/
def RunOf (us : List Uses.U) (e : Ex) (f v c t : Int) : Prop :=
  if okE e = true ∧ 0 ≤ f ∧ f ≤ 1000 then ∃ (n' : Int) (c' l' : Nat), Ev us e f.toNat n' c' l' ∧ c = c' ∧ (l' : Int) ≤ f ∧ v = (if c' = 0 then n' else 0) ∧ t = f - l' else v = 0 ∧ c = 3 ∧ t = 0
theorem okE_all {e : Ex} (h : okE e = true) : allB e = true := by
  unfold okE at h; simp only [Bool.and_eq_true] at h; exact h.1.1

set_option maxHeartbeats 1600000 in
theorem runS (us : List Uses.U) (hul : us.length ≤ 1048576) (d lo hi : Nat) (v uv : Value) (e : Ex) (f : Int) (w : World) (h : EV lo hi w d v e) (hhi : hi ≤ w.heap.size) (hw : wt e ≤ 1048576) (hU : Uses.UR w uv us) :
    Calls Try.prog 6 #[v, uv, .int .i64 f] w fun x w' => ∃ v c t : Int, x = .returned (.tuple #[.int .i64 v, .int .i64 c, .int .i64 t]) ∧ RunOf us e f v c t ∧ Below w.heap.size w w' := by
  obtain ⟨ka, kc, ta, tc, rfl⟩ := h.form
  obtain ⟨ua, uc, rfl⟩ : ∃ a c, uv = .slice a us.length c := by
    rcases hU with ⟨rfl, a, c, rfl⟩ | ⟨b, o, cap, rfl, _⟩
    · exact ⟨_, _, rfl⟩
    · exact ⟨_, _, rfl⟩
  obtain ⟨W1, hW1⟩ : ∃ W1, w.alloc (.cells #[.int .i64 e.kind, .int .i64 e.num, .string e.meter, .slice ka e.kids.length kc, .slice ta e.tiers.length tc] 26) = W1 := ⟨_, rfl⟩
  have HW1 := hide hW1
  have hb1 : Below w.heap.size w W1 := by rw [← hW1]; exact below_alloc _ _
  have HB1 := hide hb1
  have HX : Hid (Box W1 w.heap.size e ka kc ta tc) := hide (by rw [← hW1]; exact Box.new _ _ _ _ _ _ _)
  have HE1 := hide (keptE h hhi hb1)
  have HU1 := hide (hU.kept hb1)
  have hs1 : w.heap.size < W1.heap.size := by rw [← hW1]; simp
  have HF1 : Hid (¬ (okE e = true ∧ 0 ≤ f ∧ f ≤ 1000) → RunOf us e f 0 3 0) := hide (fun h => by unfold RunOf; rw [if_neg h]; exact ⟨rfl, rfl, rfl⟩)
  clear hW1 hb1 h hU
  obtain ⟨x0, x1, x2, x3, x4⟩ := unhide HX
  go_enter Try.func6, Try.ntmps6
  go_wp2_with (fail)
  rw [unhide HW1]
  refine (okS d lo hi _ e W1 (unhide HE1) (by omega) hw).mono ?_
  rintro x w2 ⟨rfl, hb2⟩
  have HX2 := hide ((unhide HX).kept hb2)
  have HE2 := hide (keptE (unhide HE1) (by omega) hb2)
  have HU2 := hide ((unhide HU1).kept hb2)
  have HB2 := hide (below_trans (unhide HB1) hb2)
  have hs2 : w.heap.size < w2.heap.size := Nat.lt_of_lt_of_le hs1 hb2.size
  clear x0 x1 x2 x3 x4 HX HE1 HU1 HB1 hb2 HW1
  obtain ⟨x0, x1, x2, x3, x4⟩ := unhide HX2
  cases hk : okE e
  · have HF := hide (unhide HF1 (by rw [hk]; rintro ⟨h, _⟩; cases h))
    clear hk HF1
    go_wp2_with (fail)
    go_ret3
    exact ⟨_, _, _, rfl, unhide HF, unhide HB2⟩
  by_cases f0 : f < 0
  · have HF := hide (unhide HF1 (by omega))
    clear HF1
    go_wp2_with (fail)
    go_ret3
    exact ⟨_, _, _, rfl, unhide HF, unhide HB2⟩
  by_cases f1 : 1000 < f
  · have HF := hide (unhide HF1 (by omega))
    clear HF1
    go_wp2_with (fail)
    go_ret3
    exact ⟨_, _, _, rfl, unhide HF, unhide HB2⟩
  obtain ⟨F, rfl⟩ := Int.eq_ofNat_of_zero_le (show 0 ≤ f by omega)
  have HA := hide (okE_all hk)
  have HF2 : Hid (∀ n' c' l', Ev us e F n' c' l' → l' ≤ F → RunOf us e F (if c' = 0 then n' else 0) c' (F - l')) := hide (fun n' c' l' h hl => by
    unfold RunOf; rw [if_pos ⟨hk, by omega, by omega⟩]; exact ⟨n', c', l', by simpa using h, rfl, by omega, rfl, rfl⟩)
  obtain ⟨W3, hW3⟩ : ∃ W3, w2.alloc (.cells #[.slice ua us.length uc, .int .i64 (F : Int), .int .i64 0] 45) = W3 := ⟨_, rfl⟩
  have HW3 := hide hW3
  have HR3 : Hid (RunC W3 w2.heap.size (.slice ua us.length uc) F 0) := hide (by
    rw [← hW3]
    have e1 := (MapKept.heap_alloc w2 (.cells #[.slice ua us.length uc, .int .i64 (F : Int), .int .i64 0] 45)).1
    refine ⟨?_, ?_, ?_, ?_, ?_⟩ <;> simp only [World.cell?, World.frozen?, e1] <;> simp)
  have hb3 : Below w2.heap.size w2 W3 := by rw [← hW3]; exact below_alloc _ _
  have HB3 := hide hb3
  have HX3 := hide ((unhide HX2).kept hb3)
  have hs3 : w2.heap.size < W3.heap.size := by rw [← hW3]; simp
  clear hW3 hb3 HF1 HX2 hk
  go_wp2_with (fail)
  rw [unhide HW3]
  refine (evalS_all us hul d w2 _ lo hi _ e F W3 (unhide HU2) (unhide HE2) (by omega) (unhide HA) hw (by omega) (unhide HB3) (unhide HR3)).mono ?_
  rintro x w4 ⟨n, n', c, l', rfl, hev, hok, hl, hc2, hg, hR⟩
  have HB4 := hide (below_trans (unhide HB2) (below_of (unhide HB3) (Nat.le_refl _) hg))
  have HF3 := hide (unhide HF2 _ _ _ hev hl)
  have HOK := hide hok
  obtain ⟨h0', h1', h2', f1', f2'⟩ := hR
  clear x0 x1 x2 x3 x4 hev hok hg HF2 HX3 HR3 HW3
  by_cases c0 : c = 0
  · subst c0
    obtain ⟨rfl, _⟩ := unhide HOK rfl
    go_wp2_with (fail)
    go_quiet (fail)
    go_wp2
    go_ret3
    exact ⟨_, _, _, rfl, unhide HF3, Tiers.below_drewN' (unhide HB4) _⟩
  · have cp : (0 : Int) < (c : Int) := by omega
    rw [if_neg c0] at HF3
    go_wp2_with (fail)
    go_quiet (fail)
    go_wp2
    go_ret3
    exact ⟨_, _, _, rfl, unhide HF3, Tiers.below_drewN' (unhide HB4) _⟩
end Go.Proofs.Ytdpefmjlmpjjbaa.Rule
