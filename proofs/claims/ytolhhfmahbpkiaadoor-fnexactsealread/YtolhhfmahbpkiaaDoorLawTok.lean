/-
  FnExactSealMake, FnExactSealCheck, FnExactSealText.
-/
import Derived.Test.YtolhhfmahbpkiaaDoorTokC
import Derived.Deep.SlicePairs
import Derived.Lib.SmallJoins
namespace Go.Proofs.YtolhhfmahbpkiaaDoor.Tok
set_option linter.unusedVariables false
open Go.RowKit
open Num (bytesOf)
open Strs hiding hide unhide below_trans
open Mac (hide unhide below_trans macL macL_bd macI macS)
open Boxes (At box1 box2)
open _root_.Go.Proofs.YtolhhfmahbpkiaaDoor.Text (Tens itoaI)

theorem wf_i64 {n : Int} (h : (Lit.int .i64 n).wf = true) : i64 n := by
  simpa [Lit.wf, IntKind.min, IntKind.max, IntKind.signed, IntKind.bits, i64] using h

/-- the helper that tells two tokens apart -/
theorem eqT (r u e m : Int) (w : World) : Calls Tryd.prog 9 #[tokV r u e m, tokV r u e m] w fun x w' => x = .returned (.bool true) ∧ Below w.heap.size w w' := by
  go_enter Tryd.func9, Tryd.ntmps9
  go_wp2
  go_ret
  exact ⟨rfl, below_alloc2 _ _ _⟩

set_option maxHeartbeats 1000000 in
theorem toT (r u e m : Int) (w : World) : Calls Tryd.prog 11 #[tokV r u e m] w fun x w' => x = .returned (tokV r u e m) ∧ Below w.heap.size w w' := by
  go_enter Tryd.func11, Tryd.ntmps11
  go_wp2
  exact bodyPost_ret (v := tokV r u e m) (by simp [results, Tryd.results11, go_sem]) rfl ⟨rfl, ((below_alloc w _).alloc (by simp) _).alloc (by simp; omega) _⟩

set_option maxHeartbeats 1000000 in
theorem lawMake (k t r u e : Int) (w : World) (ht : i64 t) (hr : i64 r) (hu : i64 u) (he : i64 e) (hT : Tens w) : Calls Tryd.prog 3 #[.int .i64 k, .int .i64 t, .int .i64 r, .int .i64 u, .int .i64 e] w fun x w' => x = .returned (.bool true) ∧ Below w.heap.size w w' := by
  have CS0 := fun w => makeS k t r u e w ht hr hu he
  have CI0 := fun w hw => makeI k t r u e w ht hr hu he hw
  have HT := hide hT
  clear ht hr hu he hT
  generalize makeT k t r u e = p at *
  obtain ⟨r', u', e', m'⟩ := p
  have CS : Hid (∀ w, Calls Tryd.prog 7 #[.int .i64 k, .int .i64 t, .int .i64 r, .int .i64 u, .int .i64 e] w fun x w' => x = .returned (tokV r' u' e' m') ∧ Below w.heap.size w w') := hide CS0
  have CI : Hid (∀ w, Tens w → Calls Tryd.prog 8 #[.int .i64 k, .int .i64 t, .int .i64 r, .int .i64 u, .int .i64 e] w fun x w' => x = .returned (tokV r' u' e' m') ∧ Below w.heap.size w w') := hide CI0
  clear CS0 CI0
  go_enter Tryd.func3, Tryd.ntmps3
  go_wp2_with fail
  refine (unhide CS _).mono ?_
  rintro x w1 ⟨rfl, hb1⟩
  have B1 := hide hb1
  clear hb1
  go_wp2_with fail
  refine (unhide CI _ ((unhide HT).kept (below_trans (unhide B1) (below_alloc _ _)))).mono ?_
  rintro x w2 ⟨rfl, hb2⟩
  obtain ⟨A0, hB, hz⟩ := box1 hb2
  have hA1 := At.new w2 #[.int .i64 r', .int .i64 u', .int .i64 e', .int .i64 m'] 23
  have hA0 := A0.below (below_alloc w2 (.cells #[.int .i64 r', .int .i64 u', .int .i64 e', .int .i64 m'] 23)) (by omega)
  obtain ⟨⟨c0, c1, c2, c3⟩, _⟩ := at4 hA0
  obtain ⟨⟨d0, d1, d2, d3⟩, _⟩ := at4 hA1
  have B2 := hide (below_trans (below_trans (unhide B1) hB) (below_alloc w2 (.cells #[.int .i64 r', .int .i64 u', .int .i64 e', .int .i64 m'] 23)))
  clear hb2 A0 hA1 hA0 hB B1
  go_wp2_with fail
  refine (eqT r' u' e' m' _).mono ?_
  rintro x w3 ⟨rfl, hb3⟩
  clear c0 c1 c2 c3 d0 d1 d2 d3
  go_wp2_with fail
  go_ret
  exact ⟨rfl, below_trans (unhide B2) hb3⟩

set_option maxHeartbeats 1000000 in
theorem lawCheck (k t r u e m now ep : Int) (w : World) (ht : i64 t) (hr : i64 r) (hu : i64 u) (he : i64 e) (hT : Tens w) : Calls Tryd.prog 4 #[.int .i64 k, .int .i64 t, tokV r u e m, .int .i64 now, .int .i64 ep] w fun x w' => x = .returned (.bool true) ∧ Below w.heap.size w w' := by
  have CS := hide (fun w => checkS k t r u e m now ep w ht hr hu he)
  have CI := hide (fun w hw => checkI k t r u e m now ep w ht hr hu he hw)
  have HT := hide hT
  clear ht hr hu he hT
  generalize codeT k t r u e m now ep = c at *
  go_enter Tryd.func4, Tryd.ntmps4
  go_wp2_with fail
  refine (toT r u e m _).mono ?_
  rintro x w1 ⟨rfl, hb1⟩
  obtain ⟨A0, hB, hz⟩ := box1 hb1
  clear hb1
  go_wp2_with fail
  refine (unhide CS _).mono ?_
  rintro x w2 ⟨rfl, hb2⟩
  have A1 := A0.below hb2 (by omega)
  have hB2 := below_trans hB hb2
  have hz2 := Nat.le_trans hz hb2.size
  obtain ⟨⟨c0, c1, c2, c3⟩, _⟩ := at4 A1
  clear hb2 A0 hB hz
  go_wp2_with fail
  refine (toT r u e m _).mono ?_
  rintro x w3 ⟨rfl, hb3⟩
  have hB3 := below_trans hB2 hb3
  clear hb3 A1 hB2 hz2 c0 c1 c2 c3
  go_wp2_with fail
  refine (unhide CI _ ((unhide HT).kept hB3)).mono ?_
  rintro x w4 ⟨rfl, hb4⟩
  go_wp2_with fail
  go_ret
  exact ⟨rfl, below_trans hB3 hb4⟩

set_option maxHeartbeats 1000000 in
theorem lawText (r u e m : Int) (w : World) (hT : Tens w) : Calls Tryd.prog 5 #[tokV r u e m] w fun x w' => x = .returned (.bool true) ∧ Below w.heap.size w w' := by
  have CS := hide (textS r u e m)
  have CI := hide (fun w hw => textI r u e m w hw)
  have HT := hide hT
  clear hT
  generalize bytesOf (textT r u e m) = c at *
  go_enter Tryd.func5, Tryd.ntmps5
  go_wp2_with fail
  refine (toT r u e m _).mono ?_
  rintro x w1 ⟨rfl, hb1⟩
  obtain ⟨A0, hB, hz⟩ := box1 hb1
  clear hb1
  go_wp2_with fail
  refine (unhide CS _).mono ?_
  rintro x w2 ⟨rfl, hb2⟩
  have A1 := A0.below hb2 (by omega)
  have hB2 := below_trans hB hb2
  have hz2 := Nat.le_trans hz hb2.size
  obtain ⟨⟨c0, c1, c2, c3⟩, _⟩ := at4 A1
  clear hb2 A0 hB hz
  go_wp2_with fail
  refine (toT r u e m _).mono ?_
  rintro x w3 ⟨rfl, hb3⟩
  have hB3 := below_trans hB2 hb3
  clear hb3 A1 hB2 hz2 c0 c1 c2 c3
  go_wp2_with fail
  refine (unhide CI _ ((unhide HT).kept hB3)).mono ?_
  rintro x w4 ⟨rfl, hb4⟩
  go_wp2_with fail
  go_ret
  exact ⟨rfl, below_trans hB3 hb4⟩
end Go.Proofs.YtolhhfmahbpkiaaDoor.Tok
