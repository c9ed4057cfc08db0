/-
  FnExactSealRead.
-/
import Derived.Test.YtolhhfmahbpkiaaDoorRdTI
import Derived.Test.YtolhhfmahbpkiaaDoorRdTS
import Derived.Test.YtolhhfmahbpkiaaDoorLawTok
namespace Go.Proofs.YtolhhfmahbpkiaaDoor.Tok
set_option linter.unusedVariables false
open Go.RowKit
open Mac (hide unhide below_trans)
open Strs hiding hide unhide below_trans
open Boxes (At box1 box2)
open EnvA (Env)

set_option maxHeartbeats 1000000 in
theorem lawRdT (s : ByteArray) (w : World) (hs : s.size ≤ maxLen) (he : Env w) :
    Calls Tryd.prog 6 #[.string s] w fun x w' => x = .returned (.bool true) ∧ Below w.heap.size w w' := by
  unfold maxLen at hs
  by_cases h1 : (1048576 : Int) < s.size
  · go_enter Tryd.func6, Tryd.ntmps6
    go_wp2_with (fail)
    go_ret
    exact ⟨rfl, Below.refl _ _⟩
  have HE := hide he
  clear he
  go_enter Tryd.func6, Tryd.ntmps6
  go_wp2_with fail
  refine (readTS s _ (by omega)).mono ?_
  rintro x w1 ⟨ok, ⟨r, u, e, m⟩, rfl, hO, hb1⟩
  have HO := hide hO
  have B1 := hide (below_trans hb1 (below_alloc w1 (.cells #[.int .i64 r, .int .i64 u, .int .i64 e, .int .i64 m] 23)))
  have hA1 := hide (At.new w1 #[.int .i64 r, .int .i64 u, .int .i64 e, .int .i64 m] 23)
  clear hb1 hO
  go_wp2_with fail
  refine (readTI s _ (by omega) ((unhide HE).kept (unhide B1))).mono ?_
  rintro x w2 ⟨ok2, p2, rfl, hO2, hb2⟩
  obtain ⟨hok, hpp⟩ := (unhide HO).one hO2
  subst hok hpp
  have hA2 := (unhide hA1).below hb2 (by simp)
  have hl2 : w1.heap.size < w2.heap.size := At.lt hA2
  have hA3 := hA2.below (below_alloc w2 (.cells #[.int .i64 r, .int .i64 u, .int .i64 e, .int .i64 m] 23)) hl2
  have hA4 := At.new w2 #[.int .i64 r, .int .i64 u, .int .i64 e, .int .i64 m] 23
  obtain ⟨⟨c0, c1, c2, c3⟩, _⟩ := at4 hA3
  obtain ⟨⟨d0, d1, d2, d3⟩, _⟩ := at4 hA4
  have B2 := hide (below_trans (below_trans (unhide B1) hb2) (below_alloc w2 (.cells #[.int .i64 r, .int .i64 u, .int .i64 e, .int .i64 m] 23)))
  have hbb : (ok != ok) = false := by simp
  clear hb2 hO2 hA1 hA2 hA3 hA4 B1
  go_wp2_with fail
  refine (eqT r u e m _).mono ?_
  rintro x w3 ⟨rfl, hb3⟩
  clear c0 c1 c2 c3 d0 d1 d2 d3
  go_wp2_with fail
  go_ret
  exact ⟨rfl, below_trans (unhide B2) hb3⟩
end Go.Proofs.YtolhhfmahbpkiaaDoor.Tok
