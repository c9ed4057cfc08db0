/-
  Who may request: impl.WireMay and spec.WireMay answer the same, and the law on them.
-/
import Derived.Test.YtgnkdnjapbgdgaaReqW
namespace Go.Proofs.Ytgnkdnjapbgdgaa.Wire
set_option linter.unusedVariables false
open Go.RowKit
open Boxes (At box1 box2 box3)

theorem below_alloc (w : World) (o : Obj) : Below w.heap.size w (w.alloc o) := (Below.refl _ _).alloc (Nat.le_refl _) _
/-- WireMay -/
def mayB (role v k : Int) : Bool := if role = 1 then true else if role = 2 then decide (v = 2) || (decide (v = 1) && (decide (k = 3) || decide (k = 4))) else if role = 3 then decide (v = 2) else false

set_option maxHeartbeats 1000000 in
/-- spec.WireMay -/
theorem mayS (role t r u e m v k : Int) (a b : ByteArray) (n x y : Int) (c : ByteArray) (w : World) :
    Calls Try.prog 8 #[.int .i64 role, reqV t r u e m v k a b n x y c] w fun o w' => o = .returned (.bool (mayB role v k)) ∧ Below w.heap.size w w' := by
  by_cases r1 : role = 1
  · subst r1
    rw [show mayB 1 v k = true from rfl]
    go_enter Try.func8, Try.ntmps8
    go_wp2
    go_ret
    exact ⟨rfl, below_alloc _ _⟩
  have b1 : (role == 1) = false := by simp [r1]
  by_cases r2 : role = 2
  · subst r2
    by_cases v2 : v = 2
    · subst v2
      rw [show mayB 2 2 k = true from rfl]
      go_enter Try.func8, Try.ntmps8
      go_wp2
      go_ret
      exact ⟨rfl, below_alloc _ _⟩
    have bv2 : (v == 2) = false := by simp [v2]
    by_cases v1 : v = 1
    · subst v1
      by_cases k3 : k = 3
      · subst k3
        rw [show mayB 2 1 3 = true from rfl]
        go_enter Try.func8, Try.ntmps8
        go_wp2
        go_ret
        exact ⟨rfl, below_alloc _ _⟩
      have bk3 : (k == 3) = false := by simp [k3]
      have hr : mayB 2 1 k = (k == 4) := by unfold mayB; simp [k3]; rw [Bool.eq_iff_iff]; simp
      rw [hr]
      go_enter Try.func8, Try.ntmps8
      go_wp2
      go_ret
      exact ⟨rfl, below_alloc _ _⟩
    have bv1 : (v == 1) = false := by simp [v1]
    have hr : mayB 2 v k = false := by unfold mayB; simp [v1, v2]
    rw [hr]
    go_enter Try.func8, Try.ntmps8
    go_wp2
    go_ret
    exact ⟨rfl, below_alloc _ _⟩
  have b2 : (role == 2) = false := by simp [r2]
  by_cases r3 : role = 3
  · subst r3
    have hr : mayB 3 v k = (v == 2) := by unfold mayB; simp; rw [Bool.eq_iff_iff]; simp
    rw [hr]
    go_enter Try.func8, Try.ntmps8
    go_wp2
    go_ret
    exact ⟨rfl, below_alloc _ _⟩
  have b3 : (role == 3) = false := by simp [r3]
  have hr : mayB role v k = false := by unfold mayB; simp [r1, r2, r3]
  rw [hr]
  clear r1 r2 r3
  go_enter Try.func8, Try.ntmps8
  go_wp2
  go_ret
  exact ⟨rfl, below_alloc _ _⟩

set_option maxHeartbeats 1000000 in
/-- impl.WireMay -/
theorem mayI (role t r u e m v k : Int) (a b : ByteArray) (n x y : Int) (c : ByteArray) (w : World) :
    Calls Try.prog 7 #[.int .i64 role, reqV t r u e m v k a b n x y c] w fun o w' => o = .returned (.bool (mayB role v k)) ∧ Below w.heap.size w w' := by
  by_cases r1 : role = 1
  · subst r1
    rw [show mayB 1 v k = true from rfl]
    go_enter Try.func7, Try.ntmps7
    go_wp2
    go_ret
    exact ⟨rfl, below_alloc _ _⟩
  have b1 : (role == 1) = false := by simp [r1]
  by_cases r2 : role = 2
  · subst r2
    by_cases v2 : v = 2
    · subst v2
      rw [show mayB 2 2 k = true from rfl]
      go_enter Try.func7, Try.ntmps7
      go_wp2
      go_ret
      exact ⟨rfl, below_alloc _ _⟩
    have bv2 : (v == 2) = false := by simp [v2]
    by_cases v1 : v = 1
    · subst v1
      by_cases k3 : k = 3
      · subst k3
        rw [show mayB 2 1 3 = true from rfl]
        go_enter Try.func7, Try.ntmps7
        go_wp2
        go_ret
        exact ⟨rfl, below_alloc _ _⟩
      have bk3 : (k == 3) = false := by simp [k3]
      have hr : mayB 2 1 k = (k == 4) := by unfold mayB; simp [k3]; rw [Bool.eq_iff_iff]; simp
      rw [hr]
      go_enter Try.func7, Try.ntmps7
      go_wp2
      go_ret
      exact ⟨rfl, below_alloc _ _⟩
    have bv1 : (v == 1) = false := by simp [v1]
    have hr : mayB 2 v k = false := by unfold mayB; simp [v1, v2]
    rw [hr]
    go_enter Try.func7, Try.ntmps7
    go_wp2
    go_ret
    exact ⟨rfl, below_alloc _ _⟩
  have b2 : (role == 2) = false := by simp [r2]
  by_cases r3 : role = 3
  · subst r3
    have hr : mayB 3 v k = (v == 2) := by unfold mayB; simp; rw [Bool.eq_iff_iff]; simp
    rw [hr]
    go_enter Try.func7, Try.ntmps7
    go_wp2
    go_ret
    exact ⟨rfl, below_alloc _ _⟩
  have b3 : (role == 3) = false := by simp [r3]
  have hr : mayB role v k = false := by unfold mayB; simp [r1, r2, r3]
  rw [hr]
  clear r1 r2 r3
  go_enter Try.func7, Try.ntmps7
  go_wp2
  go_ret
  exact ⟨rfl, below_alloc _ _⟩


set_option maxHeartbeats 1000000 in
/-- szWireReq -/
theorem szReq (t r u e m v k : Int) (a b : ByteArray) (n x y : Int) (c : ByteArray) (L : Int) (w : World) (ha : a.size ≤ maxLen) (hb : b.size ≤ maxLen) (hc : c.size ≤ maxLen) (h0 : 0 ≤ L) (h1 : L ≤ 1048576) :
    Calls Try.prog 11 #[reqV t r u e m v k a b n x y c, .int .i64 L] w fun o w' => ∃ q : Int, o = .returned (.int .i64 q) ∧ -1 ≤ q ∧ q ≤ L ∧ Below w.heap.size w w' := by
  have hc' := hc
  unfold maxLen at hc'
  go_enter Try.func11, Try.ntmps11
  go_wp2_with (fail)
  refine (szOp k a b n L _ ha hb h0 h1).mono ?_
  rintro o w1 ⟨q, rfl, q1, q2, hb1⟩
  obtain ⟨hA, hB, hz⟩ := box1 hb1
  have HB := hide hB
  have a12 := (hA 12 _ rfl).1
  clear hA hb1 hB
  by_cases hn : q < 0
  · go_wp2
    go_ret
    exact ⟨_, rfl, by omega, by omega, unhide HB⟩
  by_cases hn2 : q - c.size < 0
  · go_wp2
    go_ret
    exact ⟨_, rfl, by omega, by omega, unhide HB⟩
  · go_wp2
    go_ret
    exact ⟨_, rfl, by omega, by omega, unhide HB⟩

set_option maxHeartbeats 2000000 in
theorem lawMay (role t r u e m v k : Int) (a b : ByteArray) (n x y : Int) (c : ByteArray) (w : World) (ha : a.size ≤ maxLen) (hb : b.size ≤ maxLen) (hc : c.size ≤ maxLen) :
    Calls Try.prog 5 #[.int .i64 role, reqV t r u e m v k a b n x y c] w fun o w' => o = .returned (.bool true) ∧ Below w.heap.size w w' := by
  go_enter Try.func5, Try.ntmps5
  go_wp2_with (fail)
  refine (szReq t r u e m v k a b n x y c 1048576 _ ha hb hc (by omega) (by omega)).mono ?_
  rintro o w1 ⟨q, rfl, q1, q2, hb1⟩
  obtain ⟨hA, hB, hz⟩ := box1 hb1
  have HB := hide hB
  have HA := hide hA
  have a0 := (hA 0 _ rfl).1
  have a1 := (hA 1 _ rfl).1
  have a2 := (hA 2 _ rfl).1
  have a3 := (hA 3 _ rfl).1
  have a4 := (hA 4 _ rfl).1
  have a5 := (hA 5 _ rfl).1
  have a6 := (hA 6 _ rfl).1
  have a7 := (hA 7 _ rfl).1
  have a8 := (hA 8 _ rfl).1
  have a9 := (hA 9 _ rfl).1
  have a10 := (hA 10 _ rfl).1
  have a11 := (hA 11 _ rfl).1
  have a12 := (hA 12 _ rfl).1
  clear hA hb1 hB
  by_cases hn : q < 0
  · go_wp2
    go_ret
    exact ⟨rfl, unhide HB⟩
  go_wp2_with (fail)
  refine (toReq t r u e m v k a b n x y c _).mono ?_
  rintro o w2 ⟨rfl, hb2⟩
  have HB2 := hide (below_trans (unhide HB) hb2)
  have hA2 := (unhide HA).below hb2 (by omega)
  have HA2 := hide hA2
  have hz2 := Nat.le_trans hz hb2.size
  clear HA HB hb2 hz q1 q2 hn a0 a1 a2 a3 a4 a5 a6 a7 a8 a9 a10 a11 a12
  go_wp2_with (fail)
  refine (mayS role t r u e m v k a b n x y c _).mono ?_
  rintro o w3 ⟨rfl, hb3⟩
  have HB3 := hide (below_trans (unhide HB2) hb3)
  have hA3 := (unhide HA2).below hb3 (by omega)
  have hz3 := Nat.le_trans hz2 hb3.size
  have a0 := (hA3 0 _ rfl).1
  have a1 := (hA3 1 _ rfl).1
  have a2 := (hA3 2 _ rfl).1
  have a3 := (hA3 3 _ rfl).1
  have a4 := (hA3 4 _ rfl).1
  have a5 := (hA3 5 _ rfl).1
  have a6 := (hA3 6 _ rfl).1
  have a7 := (hA3 7 _ rfl).1
  have a8 := (hA3 8 _ rfl).1
  have a9 := (hA3 9 _ rfl).1
  have a10 := (hA3 10 _ rfl).1
  have a11 := (hA3 11 _ rfl).1
  have a12 := (hA3 12 _ rfl).1
  clear HA2 HB2 hb3 hA2 hA3 hz2
  generalize hr : mayB role v k = z
  have HR := hide hr
  clear hr
  go_wp2_with (fail)
  refine (toReq t r u e m v k a b n x y c _).mono ?_
  rintro o w4 ⟨rfl, hb4⟩
  have HB4 := hide (below_trans (unhide HB3) hb4)
  clear HB3 hb4 hz3 a0 a1 a2 a3 a4 a5 a6 a7 a8 a9 a10 a11 a12
  go_wp2_with (fail)
  refine (mayI role t r u e m v k a b n x y c _).mono ?_
  rintro o w5 ⟨rfl, hb5⟩
  rw [unhide HR]
  have HB5 := hide (below_trans (unhide HB4) hb5)
  clear HB4 hb5 HR
  have hzz : (z != z) = false := by simp
  go_wp2
  go_ret
  exact ⟨rfl, unhide HB5⟩
end Go.Proofs.Ytgnkdnjapbgdgaa.Wire
