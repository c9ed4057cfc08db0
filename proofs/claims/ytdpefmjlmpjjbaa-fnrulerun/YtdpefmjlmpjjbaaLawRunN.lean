/-
  The law FnRuleRun: running a tariff is total, bounded, and hangs only on the meters that it names.
-/
import Derived.Test.YtdpefmjlmpjjbaaDrawRR
import Derived.Test.YtdpefmjlmpjjbaaCostM
import Derived.Test.YtdpefmjlmpjjbaaLawRun
import Derived.Test.YtdpefmjlmpjjbaaSrcU
namespace Go.Proofs.Ytdpefmjlmpjjbaa.Rule
set_option linter.unusedVariables false
open Go.RowKit
open Uses (U U0 UR UC hide unhide below_trans)
open Sums (XU listAppU newU)
open Coin (okB)

set_option maxHeartbeats 16000000 in
set_option maxRecDepth 100000 in
theorem ruleRunN (a0 : Option Addr) (len0 cap0 : Nat) (a1 : Option Addr) (len1 cap1 : Nat) (w : World) (hB : Draw.Bytes w a0 len0 cap0) :
    Calls Try.prog 3 #[.slice a0 len0 cap0, .slice a1 len1 cap1] w fun e w' => e = .returned (.bool true) ∧ Below w.heap.size w w' := by
  by_cases hl : 1048576 < len0
  · go_enter Try.func3, Try.ntmps3
    go_wp2
    go_ret
    exact ⟨rfl, Below.refl _ _⟩
  by_cases hm : 1048576 < len1
  · go_enter Try.func3, Try.ntmps3
    go_wp2
    go_ret
    exact ⟨rfl, Below.refl _ _⟩
  go_enter Try.func3, Try.ntmps3
  go_wp2_with fail
  refine (Draw.drawRun a0 len0 cap0 w hB).mono ?_
  rintro x w1 ⟨v, uv, f, rfl, e, d, lo, hi, us, hE, hhi, ⟨hwt, hno⟩, hU, hul, hf, hb1⟩
  obtain ⟨k, n, m, ka, kn, kc, ta, tn, tc, rfl⟩ := Draw.EV.form hE
  obtain ⟨ua, uc, rfl⟩ : ∃ a c, uv = .slice a us.length c := by
    rcases hU with ⟨rfl, a, c, rfl⟩ | ⟨b, o, c, rfl, _⟩
    · exact ⟨_, _, rfl⟩
    · exact ⟨_, _, rfl⟩
  have ba := below_alloc w1 (.cells #[.int .i64 k, .int .i64 n, .string m, .slice ka kn kc, .slice ta tn tc] 26)
  have N1 := hide (new5 w1 (.int .i64 k) (.int .i64 n) (.string m) (.slice ka kn kc) (.slice ta tn tc) 26)
  have zb : w1.heap.size < (w1.alloc (.cells #[.int .i64 k, .int .i64 n, .string m, .slice ka kn kc, .slice ta tn tc] 26)).heap.size := by simp
  obtain ⟨W0, hW0⟩ : ∃ W0, w1.alloc (.cells #[.int .i64 k, .int .i64 n, .string m, .slice ka kn kc, .slice ta tn tc] 26) = W0 := ⟨_, rfl⟩
  rw [hW0] at ba zb N1
  have HBX : Hid (∀ W, Below W0.heap.size W0 W → (W.cell? ⟨w1.heap.size, 0, none⟩ = some (.int .i64 k) ∧ W.cell? ⟨w1.heap.size, 1, none⟩ = some (.int .i64 n) ∧ W.cell? ⟨w1.heap.size, 2, none⟩ = some (.string m) ∧ W.cell? ⟨w1.heap.size, 3, none⟩ = some (.slice ka kn kc) ∧ W.cell? ⟨w1.heap.size, 4, none⟩ = some (.slice ta tn tc)) ∧ EV lo hi W d (.agg #[.int .i64 k, .int .i64 n, .string m, .slice ka kn kc, .slice ta tn tc]) e ∧ hi ≤ W.heap.size ∧ UR W (.slice ua us.length uc) us ∧ Below w.heap.size w W) := hide (fun W hW => by
    obtain ⟨n0, n1, n2, n3, n4⟩ := unhide N1
    have hB := below_trans ba hW
    exact ⟨⟨(hW.cell (p := ⟨w1.heap.size, 0, none⟩) zb).trans n0, (hW.cell (p := ⟨w1.heap.size, 1, none⟩) zb).trans n1, (hW.cell (p := ⟨w1.heap.size, 2, none⟩) zb).trans n2, (hW.cell (p := ⟨w1.heap.size, 3, none⟩) zb).trans n3, (hW.cell (p := ⟨w1.heap.size, 4, none⟩) zb).trans n4⟩, hE.kept (same_below hB hhi), Nat.le_trans hhi hB.size, hU.kept hB, below_trans hb1 hB⟩)
  have HW0 := hide hW0
  have HNO := hide hno
  clear hB hl hE hhi hU hf N1 hW0 hno
  obtain ⟨⟨c0, c1, c2, c3, c4⟩, hEV, hHI, hUR, _⟩ := unhide HBX W0 (Below.refl _ _)
  obtain ⟨_, _, _, ⟨sv, sc, st, _, hRun, _⟩, _⟩ := runS us (by omega) d lo hi _ _ e f W0 hEV hHI (by omega) hUR []
  obtain ⟨_, _, _, ⟨yv, yb, yl, _, hRun2, _⟩, _⟩ := runS us (by omega) d lo hi _ _ e 1000 W0 hEV hHI (by omega) hUR []
  have HC1 := hide (runI us (by omega) d lo hi _ _ e f W0 hEV hHI (by omega) hUR sv sc st hRun)
  have HF := hide (run_facts hRun hRun2 (unhide HNO) (ofV_oth us (len1 : Int)))
  have HR := hide hRun
  have HR2 := hide hRun2
  clear hEV hHI hUR hRun hRun2 HNO
  go_wp2_with fail
  rw [unhide HW0]
  go_wp2_with fail
  refine (unhide HC1).mono ?_
  rintro x w3 ⟨rfl, hb3⟩
  have B3 := hide hb3
  clear c0 c1 c2 c3 c4
  obtain ⟨⟨c0, c1, c2, c3, c4⟩, hEV, hHI, hUR, _⟩ := unhide HBX w3 hb3
  have HC2 := hide (runS us (by omega) d lo hi _ _ e f w3 hEV hHI (by omega) hUR)
  clear hb3 hEV hHI hUR HC1
  go_wp2_with fail
  refine (unhide HC2).mono ?_
  rintro x w4 ⟨v', c', t', rfl, hRun', hb4⟩
  obtain ⟨rfl, rfl, rfl⟩ := RunOf.det (unhide HR) hRun'
  have B4 := hide (below_trans (unhide B3) hb4)
  clear hb4 hRun' HC2 B3 c0 c1 c2 c3 c4
  have x1 : (sv != sv) = false := by simp
  have x2 : (sc != sc) = false := by simp
  have x3 : (st != st) = false := by simp
  rcases unhide HF with ⟨rfl, rfl⟩ | ⟨⟨f1, f2, f3⟩, f4, f5, f6, f7, f8⟩
  · go_wp2_with fail
    go_ret
    exact ⟨rfl, (unhide HBX w4 (unhide B4)).2.2.2.2⟩
  have HR3 := hide f6
  have HF8 := hide f8
  have g1 : (sc == 3) = false := by simpa using f1
  have g2 : ¬ f < st := by omega
  have g3 : ¬ 40 < st := by omega
  have g7 : (yb != 2) = true := by simpa using f7
  clear HF f1 f2 f3 f6 f7 f8
  have HX0 : Hid (XU (w4.alloc (.cells #[] 34)) w4.heap.size w4.heap.size 0 []) := hide (XU.made w4 w4.heap.size (Nat.le_refl _) 34 rfl)
  have HU4 : Hid (UR (w4.alloc (.cells #[] 34)) (.slice ua us.length uc) us) := hide ((unhide HBX w4 (unhide B4)).2.2.2.1.kept (below_alloc _ _))
  have hz : (0 < sc ∧ sv = 0) ∨ ¬ 0 < sc := by
    by_cases hc0 : 0 < sc
    · exact .inl ⟨hc0, f5 hc0⟩
    · exact .inr hc0
  clear f5
  rcases hz with ⟨hc0, rfl⟩ | hc0
  all_goals
    go_wp2_with (first
      | (go_at_call 7; refine (Coin.okI _ _).mono ?_; rintro x w4' ⟨rfl, hw4⟩; replace hw4 := hw4.symm; subst hw4)
      | (at_builtin; refine listAppU _ rfl _ _ rfl w4.heap.size w4.heap.size 0 0 [] us _ rfl rfl (unhide HX0) rfl (unhide HU4) (by show 0 + us.length ≤ 3000000; omega) (by simp) ?_; intro g5 c5 w5 hx5 hg5 hat5 hlt5; have X5 : Hid (XU w5 w4.heap.size g5 c5 us) := hide hx5; have B5 : Hid (Below w4.heap.size w4 w5) := hide ((below_alloc w4 _).grown hg5 (by simp) (fun j hj => by cases hj; exact Nat.le_refl _)); clear hx5 hg5 hat5 hlt5)
      | (at_builtin; refine listAppU _ rfl _ _ rfl w4.heap.size g5 c5 us.length us [(oth, (len1 : Int))] _ rfl rfl ((unhide X5).kept (World.grownBy_alloc _ _ none) (by simp)) rfl (newU _ _ _) (by show us.length + 1 ≤ 3000000; omega) (Nat.le_trans (unhide B5).size (by simp)) ?_; intro g6 c6 w6 hx6 hg6 hat6 hlt6; have hb6 := ((unhide B5).alloc (unhide B5).size _).grown hg6 (Nat.le_trans (unhide B5).size (by simp)) (fun j hj => by cases hj; exact (unhide X5).own.1); have B6 := hide (below_trans (unhide B4) hb6); have hu6 : UR w6 (.slice (some ⟨g6, 0, none⟩) (us.length + 1) c6) (us ++ [(oth, (len1 : Int))]) := (by have := hx6.ur; rwa [List.length_append] at this); obtain ⟨⟨c0, c1, c2, c3, c4⟩, hEV, hHI, hUR, _⟩ := unhide HBX w6 (unhide B6); have HC3 := hide (runI (us ++ [(oth, (len1 : Int))]) (by rw [List.length_append]; show us.length + 1 ≤ _; omega) d lo hi _ _ e f w6 hEV hHI (by omega) hu6 _ _ _ (unhide HR3)); clear hx6 hg6 hat6 hlt6 hb6 hu6 hEV hHI hUR)
      | fail)
    refine (unhide HC3).mono ?_
    rintro x w7 ⟨rfl, hb7⟩
    have B7 := hide (below_trans (unhide B6) hb7)
    clear hb7 HC3 c0 c1 c2 c3 c4
    obtain ⟨⟨c0, c1, c2, c3, c4⟩, hEV, hHI, hUR, _⟩ := unhide HBX w7 (unhide B7)
    have HC4 := hide (runI us (by omega) d lo hi _ _ e 1000 w7 hEV hHI (by omega) hUR yv yb yl (unhide HR2))
    clear hEV hHI hUR
    go_wp2_with fail
    refine (unhide HC4).mono ?_
    rintro x w8 ⟨rfl, hb8⟩
    have B8 := hide (unhide HBX w8 (below_trans (unhide B7) hb8)).2.2.2.2
    clear hb8 HC4 c0 c1 c2 c3 c4 HR HR2 HR3
    by_cases hc2 : sc = 2
    · subst hc2
      go_wp2_with fail
      go_ret
      exact ⟨rfl, unhide B8⟩
    · obtain ⟨rfl, rfl, rfl⟩ := unhide HF8 hc2
      have g8 : (yb == 2) = false := by simpa using hc2
      go_wp2_with fail
      go_ret
      exact ⟨rfl, unhide B8⟩
end Go.Proofs.Ytdpefmjlmpjjbaa.Rule
