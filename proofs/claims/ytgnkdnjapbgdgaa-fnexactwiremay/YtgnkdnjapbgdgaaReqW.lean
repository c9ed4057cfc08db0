/-
  Requests by value: size, copy.
-/
import Derived.Test.YtgnkdnjapbgdgaaReqV
import Derived.Test.YtgnkdnjapbgdgaaBoxes
namespace Go.Proofs.Ytgnkdnjapbgdgaa.Wire
set_option linter.unusedVariables false
open Go.RowKit
open Boxes (At box1 box2 box3)

set_option maxHeartbeats 2000000 in
/-- toWireReq -/
theorem toReq (t r u e m v k : Int) (a b : ByteArray) (n x y : Int) (c : ByteArray) (w : World) :
    Calls Try.prog 12 #[reqV t r u e m v k a b n x y c] w fun o w' => o = .returned (reqV t r u e m v k a b n x y c) ∧ Below w.heap.size w w' := by
  go_enter Try.func12, Try.ntmps12
  go_wp2_with (fail)
  refine (toTok r u e m _).mono ?_
  rintro o w1 ⟨rfl, hb1⟩
  obtain ⟨hA, hB, hC, hb, hz⟩ := box3 hb1
  clear hb1
  obtain ⟨W2, hW2⟩ : ∃ W2, W2 = (((((w1.setCell ⟨w.heap.size + 1 + 1, 1, none⟩ (.int .i64 r)).setCell ⟨w.heap.size + 1 + 1, 2, none⟩ (.int .i64 u)).setCell ⟨w.heap.size + 1 + 1, 3, none⟩ (.int .i64 e)).setCell ⟨w.heap.size + 1 + 1, 4, none⟩ (.int .i64 m)).setCell ⟨w.heap.size + 1 + 1, 5, none⟩ (.int .i64 v)) := ⟨_, rfl⟩
  have hA2 := (((((hA.other (g := w.heap.size + 1 + 1) (k := 1) (.int .i64 r) (by omega)).other (g := w.heap.size + 1 + 1) (k := 2) (.int .i64 u) (by omega)).other (g := w.heap.size + 1 + 1) (k := 3) (.int .i64 e) (by omega)).other (g := w.heap.size + 1 + 1) (k := 4) (.int .i64 m) (by omega)).other (g := w.heap.size + 1 + 1) (k := 5) (.int .i64 v) (by omega))
  rw [← hW2] at hA2
  have hB2 := (((((hB.other (g := w.heap.size + 1 + 1) (k := 1) (.int .i64 r) (by omega)).other (g := w.heap.size + 1 + 1) (k := 2) (.int .i64 u) (by omega)).other (g := w.heap.size + 1 + 1) (k := 3) (.int .i64 e) (by omega)).other (g := w.heap.size + 1 + 1) (k := 4) (.int .i64 m) (by omega)).other (g := w.heap.size + 1 + 1) (k := 5) (.int .i64 v) (by omega))
  rw [← hW2] at hB2
  have hC2 := ((((hC.set 1 (.int .i64 r)).set 2 (.int .i64 u)).set 3 (.int .i64 e)).set 4 (.int .i64 m)).set 5 (.int .i64 v)
  rw [← hW2] at hC2
  have hz2 : w.heap.size + 3 ≤ W2.heap.size := by rw [hW2]; simpa using hz
  have hb2 : Below w.heap.size w W2 := by
    rw [hW2]
    iterate 5 refine Below.setCell ?_ (by simp; omega) _
    exact hb
  have HA := hide hA2
  have HB := hide hB2
  have HC := hide hC2
  have HBL := hide hb2
  have HW := hide hW2
  have a2 := (hA 5 _ rfl).1
  have a6 := (hA 6 _ rfl).1
  have a7 := (hA 7 _ rfl).1
  have a8 := (hA 8 _ rfl).1
  have a9 := (hA 9 _ rfl).1
  obtain ⟨c1, f1⟩ := hC 1 _ rfl
  obtain ⟨c2, f2⟩ := hC 2 _ rfl
  obtain ⟨c3, f3⟩ := hC 3 _ rfl
  obtain ⟨c4, f4⟩ := hC 4 _ rfl
  obtain ⟨c5, f5⟩ := hC 5 _ rfl
  clear hA hB hC hA2 hB2 hC2 hb hb2 hW2
  go_wp2_with (fail)
  rw [← unhide HW]
  refine (toOp k a b n _).mono ?_
  rintro o w3 ⟨rfl, hb3⟩
  have hA3 := (unhide HA).below hb3 (by omega)
  have hB3 := (unhide HB).below hb3 (by omega)
  have hC3 := (unhide HC).below hb3 (by omega)
  have HBL3 := hide (below_trans (unhide HBL) hb3)
  have hz3 : w.heap.size + 3 ≤ w3.heap.size := Nat.le_trans hz2 hb3.size
  clear a2 a6 a7 a8 a9 c1 f1 c2 f2 c3 f3 c4 f4 c5 f5 HA HB HC HBL HW hb3 hz hz2
  have a10 := (hA3 10 _ rfl).1
  have a11 := (hA3 11 _ rfl).1
  have a12 := (hA3 12 _ rfl).1
  obtain ⟨c6, f6⟩ := hC3 6 _ rfl
  obtain ⟨c7, f7⟩ := hC3 7 _ rfl
  obtain ⟨c8, f8⟩ := hC3 8 _ rfl
  obtain ⟨c9, f9⟩ := hC3 9 _ rfl
  obtain ⟨c10, f10⟩ := hC3 10 _ rfl
  obtain ⟨c11, f11⟩ := hC3 11 _ rfl
  obtain ⟨c12, f12⟩ := hC3 12 _ rfl
  obtain ⟨W4, hW4⟩ : ∃ W4, W4 = (((((((w3.setCell ⟨w.heap.size + 1 + 1, 6, none⟩ (.int .i64 k)).setCell ⟨w.heap.size + 1 + 1, 7, none⟩ (.string a)).setCell ⟨w.heap.size + 1 + 1, 8, none⟩ (.string b)).setCell ⟨w.heap.size + 1 + 1, 9, none⟩ (.int .i64 n)).setCell ⟨w.heap.size + 1 + 1, 10, none⟩ (.int .i64 x)).setCell ⟨w.heap.size + 1 + 1, 11, none⟩ (.int .i64 y)).setCell ⟨w.heap.size + 1 + 1, 12, none⟩ (.string c)) := ⟨_, rfl⟩
  have hB4 := (((((((hB3.other (g := w.heap.size + 1 + 1) (k := 6) (.int .i64 k) (by omega)).other (g := w.heap.size + 1 + 1) (k := 7) (.string a) (by omega)).other (g := w.heap.size + 1 + 1) (k := 8) (.string b) (by omega)).other (g := w.heap.size + 1 + 1) (k := 9) (.int .i64 n) (by omega)).other (g := w.heap.size + 1 + 1) (k := 10) (.int .i64 x) (by omega)).other (g := w.heap.size + 1 + 1) (k := 11) (.int .i64 y) (by omega)).other (g := w.heap.size + 1 + 1) (k := 12) (.string c) (by omega))
  rw [← hW4] at hB4
  have hC4 := (((((((hC3.set 6 (.int .i64 k)).set 7 (.string a)).set 8 (.string b)).set 9 (.int .i64 n)).set 10 (.int .i64 x)).set 11 (.int .i64 y)).set 12 (.string c))
  rw [← hW4] at hC4
  have hz4 : w.heap.size + 3 ≤ W4.heap.size := by rw [hW4]; simpa using hz3
  have HBL4 : Hid (Below w.heap.size w W4) := hide (by
    rw [hW4]
    iterate 7 refine Below.setCell ?_ (by simp; omega) _
    exact unhide HBL3)
  have HB4 := hide hB4
  have HC4 := hide hC4
  clear hA3 hB3 hC3 hB4 hC4 HBL3 hz3
  have HW4 := hide hW4
  clear hW4
  iterate 60 (first | go_values | go_skip | go_guarded | go_step | go_upon | go_simp)
  rw [← unhide HW4]
  clear HW4 c6 f6 c7 f7 c8 f8 c9 f9 c10 f10 c11 f11 c12 f12 a10 a11 a12
  have c0 := ((unhide HC4) 0 _ rfl).1
  have c1 := ((unhide HC4) 1 _ rfl).1
  have c2 := ((unhide HC4) 2 _ rfl).1
  have c3 := ((unhide HC4) 3 _ rfl).1
  have c4 := ((unhide HC4) 4 _ rfl).1
  have c5 := ((unhide HC4) 5 _ rfl).1
  have c6 := ((unhide HC4) 6 _ rfl).1
  have c7 := ((unhide HC4) 7 _ rfl).1
  have c8 := ((unhide HC4) 8 _ rfl).1
  have c9 := ((unhide HC4) 9 _ rfl).1
  have c10 := ((unhide HC4) 10 _ rfl).1
  have c11 := ((unhide HC4) 11 _ rfl).1
  have c12 := ((unhide HC4) 12 _ rfl).1
  obtain ⟨d0, g0⟩ := (unhide HB4) 0 _ rfl
  obtain ⟨d1, g1⟩ := (unhide HB4) 1 _ rfl
  obtain ⟨d2, g2⟩ := (unhide HB4) 2 _ rfl
  obtain ⟨d3, g3⟩ := (unhide HB4) 3 _ rfl
  obtain ⟨d4, g4⟩ := (unhide HB4) 4 _ rfl
  obtain ⟨d5, g5⟩ := (unhide HB4) 5 _ rfl
  obtain ⟨d6, g6⟩ := (unhide HB4) 6 _ rfl
  obtain ⟨d7, g7⟩ := (unhide HB4) 7 _ rfl
  obtain ⟨d8, g8⟩ := (unhide HB4) 8 _ rfl
  obtain ⟨d9, g9⟩ := (unhide HB4) 9 _ rfl
  obtain ⟨d10, g10⟩ := (unhide HB4) 10 _ rfl
  obtain ⟨d11, g11⟩ := (unhide HB4) 11 _ rfl
  obtain ⟨d12, g12⟩ := (unhide HB4) 12 _ rfl
  go_wp2_with (fail)
  obtain ⟨W5, hW5⟩ : ∃ W5, W5 = (((((((((((((W4.setCell ⟨w.heap.size + 1, 0, none⟩ (.int .i64 t)).setCell ⟨w.heap.size + 1, 1, none⟩ (.int .i64 r)).setCell ⟨w.heap.size + 1, 2, none⟩ (.int .i64 u)).setCell ⟨w.heap.size + 1, 3, none⟩ (.int .i64 e)).setCell ⟨w.heap.size + 1, 4, none⟩ (.int .i64 m)).setCell ⟨w.heap.size + 1, 5, none⟩ (.int .i64 v)).setCell ⟨w.heap.size + 1, 6, none⟩ (.int .i64 k)).setCell ⟨w.heap.size + 1, 7, none⟩ (.string a)).setCell ⟨w.heap.size + 1, 8, none⟩ (.string b)).setCell ⟨w.heap.size + 1, 9, none⟩ (.int .i64 n)).setCell ⟨w.heap.size + 1, 10, none⟩ (.int .i64 x)).setCell ⟨w.heap.size + 1, 11, none⟩ (.int .i64 y)).setCell ⟨w.heap.size + 1, 12, none⟩ (.string c)) := ⟨_, rfl⟩
  have hB5 := ((((((((((((((unhide HB4).set 0 (.int .i64 t)).set 1 (.int .i64 r)).set 2 (.int .i64 u)).set 3 (.int .i64 e)).set 4 (.int .i64 m)).set 5 (.int .i64 v)).set 6 (.int .i64 k)).set 7 (.string a)).set 8 (.string b)).set 9 (.int .i64 n)).set 10 (.int .i64 x)).set 11 (.int .i64 y)).set 12 (.string c))
  rw [← hW5] at hB5
  have hb5 : Below w.heap.size w W5 := by
    rw [hW5]
    iterate 13 refine Below.setCell ?_ (by simp; try omega) _
    exact unhide HBL4
  rw [← hW5]
  clear hW5 d0 g0 d1 g1 d2 g2 d3 g3 d4 g4 d5 g5 d6 g6 d7 g7 d8 g8 d9 g9 d10 g10 d11 g11 d12 g12
  have d0 := (hB5 0 _ rfl).1
  have d1 := (hB5 1 _ rfl).1
  have d2 := (hB5 2 _ rfl).1
  have d3 := (hB5 3 _ rfl).1
  have d4 := (hB5 4 _ rfl).1
  have d5 := (hB5 5 _ rfl).1
  have d6 := (hB5 6 _ rfl).1
  have d7 := (hB5 7 _ rfl).1
  have d8 := (hB5 8 _ rfl).1
  have d9 := (hB5 9 _ rfl).1
  have d10 := (hB5 10 _ rfl).1
  have d11 := (hB5 11 _ rfl).1
  have d12 := (hB5 12 _ rfl).1
  exact bodyPost_ret (v := reqV t r u e m v k a b n x y c) (by simp [results, Try.results12, go_sem, d0, d1, d2, d3, d4, d5, d6, d7, d8, d9, d10, d11, d12]) rfl ⟨rfl, hb5⟩
end Go.Proofs.Ytgnkdnjapbgdgaa.Wire
