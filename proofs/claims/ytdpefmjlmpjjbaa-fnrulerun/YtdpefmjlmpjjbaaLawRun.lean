/-
  impl.RuleRun, and the law on RuleRun.
-/
import Derived.Test.YtdpefmjlmpjjbaaRunI3
import Derived.Test.YtdpefmjlmpjjbaaLawOk
namespace Go.Proofs.Ytdpefmjlmpjjbaa.Rule
set_option linter.unusedVariables false
open Go.RowKit Tiers

theorem RunOf.no {us : List Uses.U} {e : Ex} {f v c t : Int} (h : RunOf us e f v c t) (hn : ¬ (okE e = true ∧ 0 ≤ f ∧ f ≤ 1000)) : v = 0 ∧ c = 3 ∧ t = 0 := by
  unfold RunOf at h; rw [if_neg hn] at h; exact h
theorem RunOf.yes {us : List Uses.U} {e : Ex} {f v c t : Int} (h : RunOf us e f v c t) (hy : okE e = true ∧ 0 ≤ f ∧ f ≤ 1000) : ∃ (n' : Int) (c' l' : Nat), Ev us e f.toNat n' c' l' ∧ c = c' ∧ (l' : Int) ≤ f ∧ v = (if c' = 0 then n' else 0) ∧ t = f - l' := by
  unfold RunOf at h; rw [if_pos hy] at h; exact h

set_option maxHeartbeats 1600000 in
theorem runI (us : List Uses.U) (hul : us.length ≤ 1048576) (d lo hi : Nat) (v uv : Value) (e : Ex) (f : Int) (w : World) (h : EV lo hi w d v e) (hhi : hi ≤ w.heap.size) (hw : wt e ≤ 1048576) (hU : Uses.UR w uv us) (sv sc st : Int) (hs : RunOf us e f sv sc st) :
    Calls Try.prog 5 #[v, uv, .int .i64 f] w fun x w' => x = .returned (.tuple #[.int .i64 sv, .int .i64 sc, .int .i64 st]) ∧ Below w.heap.size w w' := by
  obtain ⟨ka, kc, ta, tc, rfl⟩ := h.form
  have HS := hide hs
  obtain ⟨W1, hW1⟩ : ∃ W1, w.alloc (.cells #[.int .i64 e.kind, .int .i64 e.num, .string e.meter, .slice ka e.kids.length kc, .slice ta e.tiers.length tc] 26) = W1 := ⟨_, rfl⟩
  have HW1 := hide hW1
  have hb1 : Below w.heap.size w W1 := by rw [← hW1]; exact below_alloc _ _
  have HB1 := hide hb1
  have HX : Hid (Box W1 w.heap.size e ka kc ta tc) := hide (by rw [← hW1]; exact Box.new _ _ _ _ _ _ _)
  have HE1 := hide (keptE h hhi hb1)
  have HU1 := hide (hU.kept hb1)
  have hs1 : w.heap.size < W1.heap.size := by rw [← hW1]; simp
  clear hW1 hb1 h hU hs
  by_cases f0 : f < 0
  · obtain ⟨rfl, rfl, rfl⟩ := (unhide HS).no (by omega)
    clear HS
    go_enter Try.func5, Try.ntmps5
    go_wp2_with (fail)
    go_ret3
    exact ⟨rfl, below_alloc _ _⟩
  by_cases f1 : 1000 < f
  · obtain ⟨rfl, rfl, rfl⟩ := (unhide HS).no (by omega)
    clear HS
    go_enter Try.func5, Try.ntmps5
    go_wp2_with (fail)
    go_ret3
    exact ⟨rfl, below_alloc _ _⟩
  go_enter Try.func5, Try.ntmps5
  go_wp2_with (fail)
  rw [unhide HW1]
  refine (okI d lo hi _ e W1 (unhide HE1) (by omega) hw).mono ?_
  rintro x w2 ⟨rfl, hb2⟩
  have HX2 := hide ((unhide HX).kept hb2)
  have HE2 := hide (keptE (unhide HE1) (by omega) hb2)
  have HU2 := hide ((unhide HU1).kept hb2)
  have HB2 := hide (below_trans (unhide HB1) hb2)
  have hs2 : w.heap.size < w2.heap.size := Nat.lt_of_lt_of_le hs1 hb2.size
  clear HX HE1 HU1 HB1 hb2 HW1
  obtain ⟨x0, x1, x2, x3, x4⟩ := unhide HX2
  cases hk : okE e
  · obtain ⟨rfl, rfl, rfl⟩ := (unhide HS).no (by rw [hk]; rintro ⟨h, _⟩; cases h)
    clear hk HS
    go_wp2_with (fail)
    go_ret3
    exact ⟨rfl, unhide HB2⟩
  obtain ⟨F, rfl⟩ := Int.eq_ofNat_of_zero_le (show 0 ≤ f by omega)
  obtain ⟨n', c', l', hev, rfl, hl, hsv, rfl⟩ := (unhide HS).yes ⟨hk, by omega, by omega⟩
  have HEV : Hid (Ev us e F n' c' l') := hide (by simpa using hev)
  have HIN : Hid (In lo hi w2 e ka kc ta tc) := hide ⟨⟨d, unhide HE2⟩, okE_all hk, hw⟩
  clear hev HS hk
  have HV := hide hsv
  clear hsv
  go_wp2_with (fail)
  have hR := runI_expr us hul lo hi uv e ka kc ta tc F (by omega) w2 (unhide HIN) (by omega) (unhide HU2) n' c' l' (unhide HEV)
  rw [← unhide HV] at hR
  refine hR.mono ?_
  rintro x w3 ⟨rfl, hb3⟩
  have HB3 := hide (below_trans (unhide HB2) hb3)
  clear hb3 hR HV HEV HIN
  go_wp2_with (fail)
  go_ret3
  exact ⟨rfl, unhide HB3⟩

end Go.Proofs.Ytdpefmjlmpjjbaa.Rule
