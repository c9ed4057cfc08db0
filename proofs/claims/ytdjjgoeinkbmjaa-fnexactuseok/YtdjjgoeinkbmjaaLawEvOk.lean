/-
  The law on lists of events that are right: impl.UseOk answers as spec.UseOk, and writes nothing.
-/
import Derived.Test.YtdjjgoeinkbmjaaEvOk3
namespace Go.Proofs.Ytdjjgoeinkbmjaa.Evs
set_option linter.unusedVariables false
open Go.RowKit

theorem lawOk (v : Value) (l : List E) (w : World) (h : ER w v l) (hl : l.length ≤ maxLen) (hs : ∀ u ∈ l, u.1.size ≤ maxLen ∧ u.2.1.size ≤ maxLen) :
    Calls Try.prog 5 #[v] w fun e w' => e = .returned (.bool true) ∧ Below w.heap.size w w' := by
  have H := hide h
  have HS := hide hs
  clear h hs
  go_enter Try.func5, Try.ntmps5
  go_wp2_with (fail)
  refine (szEvs v l 1048576 _ (unhide H) hl (unhide HS) (by omega) (by omega)).mono ?_
  rintro e w1 ⟨r, rfl, r1, r3, r2, hb1⟩
  by_cases hr : r < 0
  · have B1 := hide hb1
    clear hb1
    go_wp2
    go_ret
    exact ⟨rfl, unhide B1⟩
  have hl2 : l.length ≤ 1048576 := by have := r2 (by omega); omega
  have H1 := hide ((unhide H).kept hb1)
  have B1 := hide hb1
  clear hb1 r2 hl H
  go_wp2_with (fail)
  refine (toEvs v l _ (unhide H1) hl2).mono ?_
  rintro e w2 ⟨v2, rfl, u2, hb2⟩
  have H2 := hide ((unhide H1).kept hb2)
  have B2 := hide (below_trans (unhide B1) hb2)
  have U2 := hide u2.er
  clear H1 B1 hb2 u2
  go_wp2_with (fail)
  refine (okS v2 l _ (unhide U2) hl2 (unhide HS)).mono ?_
  rintro e w3 ⟨rfl, hb3⟩
  have H3 := hide ((unhide H2).kept hb3)
  have B3 := hide (below_trans (unhide B2) hb3)
  clear H2 B2 hb3 U2
  go_wp2_with (fail)
  refine (toEvs v l _ (unhide H3) hl2).mono ?_
  rintro e w4 ⟨v4, rfl, u4, hb4⟩
  have H4 := hide ((unhide H3).kept hb4)
  have B4 := hide (below_trans (unhide B3) hb4)
  have U4 := hide u4.er
  clear H3 B3 hb4 u4
  go_wp2_with (fail)
  refine (okI v4 l _ (unhide U4) hl2 (unhide HS)).mono ?_
  rintro e w5 ⟨rfl, hb5⟩
  have H5 := hide ((unhide H4).kept hb5)
  have B5 := hide (below_trans (unhide B4) hb5)
  have U5 := hide ((unhide U4).kept hb5)
  clear H4 B4 hb5 U4
  have hx : (okB l != okB l) = false := by simp
  generalize okB l = z at *
  go_wp2_with (fail)
  refine (toEvs v l _ (unhide H5) hl2).mono ?_
  rintro e w6 ⟨v6, rfl, u6, hb6⟩
  have B6 := hide (below_trans (unhide B5) hb6)
  have U6 := hide u6.er
  have V6 := hide ((unhide U5).kept hb6)
  clear H5 B5 hb6 u6
  go_wp2_with (fail)
  refine (eqEvs v4 v6 l _ (unhide V6) (unhide U6) hl2).mono ?_
  rintro e w7 ⟨rfl, hb7⟩
  have B7 := hide (below_trans (unhide B6) hb7)
  clear hb7 B6
  go_wp2
  go_ret
  exact ⟨rfl, unhide B7⟩
end Go.Proofs.Ytdjjgoeinkbmjaa.Evs
