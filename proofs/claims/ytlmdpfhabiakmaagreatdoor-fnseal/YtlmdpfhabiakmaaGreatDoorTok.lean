/-
  Tokens (chapter 6): their form, the text that is marked, their own text; the program's and the document's.
-/
import Derived.Test.YtlmdpfhabiakmaaGreatDoorMacM
import Derived.Test.YtlmdpfhabiakmaaGreatDoorStrs
import Derived.Test.YtlmdpfhabiakmaaGreatDoorText
import Derived.Test.YtlmdpfhabiakmaaGreatDoorShelfJ
namespace Go.Proofs.YtlmdpfhabiakmaaGreatDoor.Tok
set_option linter.unusedVariables false
open Go.RowKit
open Num (bytesOf)
open Strs hiding hide unhide below_trans
open Mac (hide unhide below_trans macL macL_bd macI macS)
open _root_.Go.Proofs.YtlmdpfhabiakmaaGreatDoor.Text (Tens itoaI)
open Dec (dec)

def roleB (r : Int) : Bool := decide (1 ≤ r ∧ r ≤ 3)
def timeB (n : Int) : Bool := decide (0 ≤ n ∧ n ≤ 1000000)
def tenB (n : Int) : Bool := decide (0 ≤ n ∧ n ≤ 9)
/-- a token has the form of one -/
def formB (r u e m : Int) : Bool := roleB r && timeB u && timeB e && decide (0 ≤ m) && decide (m < 1000000007)
/-- four numbers with a point between each two -/
def ptL (a b c d : Int) : List UInt8 := Lib.itoa a ++ (46 :: (Lib.itoa b ++ (46 :: (Lib.itoa c ++ (46 :: Lib.itoa d)))))
abbrev tokV (r u e m : Int) : Value := .agg #[.int .i64 r, .int .i64 u, .int .i64 e, .int .i64 m]

theorem ret_bool {a b : Bool} (h : a = b) : Ending.returned (.bool a) = .returned (.bool b) := by rw [h]
theorem role_iff {r : Int} : roleB r = true ↔ 1 ≤ r ∧ r ≤ 3 := by simp [roleB]
theorem time_iff {r : Int} : timeB r = true ↔ 0 ≤ r ∧ r ≤ 1000000 := by simp [timeB]
theorem ten_iff {r : Int} : tenB r = true ↔ 0 ≤ r ∧ r ≤ 9 := by simp [tenB]
theorem role_not {r : Int} : roleB r = false ↔ ¬ (1 ≤ r ∧ r ≤ 3) := by rw [← role_iff]; simp
theorem time_not {r : Int} : timeB r = false ↔ ¬ (0 ≤ r ∧ r ≤ 1000000) := by rw [← time_iff]; simp
theorem ten_not {r : Int} : tenB r = false ↔ ¬ (0 ≤ r ∧ r ≤ 9) := by rw [← ten_iff]; simp
theorem form_iff {r u e m : Int} : formB r u e m = true ↔ (1 ≤ r ∧ r ≤ 3) ∧ (0 ≤ u ∧ u ≤ 1000000) ∧ (0 ≤ e ∧ e ≤ 1000000) ∧ 0 ≤ m ∧ m < 1000000007 := by
  simp [formB, roleB, timeB, and_assoc]
/-- the ways of a form, in the order in which it is looked at -/
theorem form_cases (r u e m : Int) : (formB r u e m = true ∧ 1 ≤ r ∧ r ≤ 3 ∧ 0 ≤ u ∧ u ≤ 1000000 ∧ 0 ≤ e ∧ e ≤ 1000000 ∧ 0 ≤ m ∧ m < 1000000007) ∨
    (formB r u e m = false ∧ (r < 1 ∨ (1 ≤ r ∧ 3 < r) ∨ (1 ≤ r ∧ r ≤ 3 ∧ u < 0) ∨ (1 ≤ r ∧ r ≤ 3 ∧ 0 ≤ u ∧ 1000000 < u) ∨ (1 ≤ r ∧ r ≤ 3 ∧ 0 ≤ u ∧ u ≤ 1000000 ∧ e < 0) ∨ (1 ≤ r ∧ r ≤ 3 ∧ 0 ≤ u ∧ u ≤ 1000000 ∧ 0 ≤ e ∧ 1000000 < e) ∨
      (1 ≤ r ∧ r ≤ 3 ∧ 0 ≤ u ∧ u ≤ 1000000 ∧ 0 ≤ e ∧ e ≤ 1000000 ∧ m < 0) ∨ (1 ≤ r ∧ r ≤ 3 ∧ 0 ≤ u ∧ u ≤ 1000000 ∧ 0 ≤ e ∧ e ≤ 1000000 ∧ 0 ≤ m ∧ 1000000007 ≤ m))) := by
  cases h : formB r u e m with
  | true => have := form_iff.1 h; exact .inl ⟨rfl, by omega⟩
  | false =>
    have : ¬ _ := fun k => by have := (form_iff (r := r) (u := u) (e := e) (m := m)).2 k; rw [h] at this; cases this
    exact .inr ⟨rfl, by omega⟩

theorem itoa20 (n : Int) (h0 : -9223372036854775808 ≤ n) (h1 : n ≤ 9223372036854775807) : (Lib.itoa n).length ≤ 21 := by
  unfold Lib.itoa
  split
  · have := Dec.nDig (n.natAbs / 10) (by omega)
    have := Num.ddLen 19 n.natAbs (by omega)
    simp; omega
  · have := Num.ddLen 19 n.toNat (by omega)
    omega

/-! ### the document's -/
theorem l6FormS (r u e m : Int) (w : World) : Calls Tryz.prog 18 #[tokV r u e m] w fun x w' => x = .returned (.bool (formB r u e m)) ∧ Below w.heap.size w w' := by
  rcases form_cases r u e m with ⟨h, h1, h2, h3, h4, h5, h6, h7, h8⟩ | ⟨h, h1 | ⟨h1, h2⟩ | ⟨h1, h2, h3⟩ | ⟨h1, h2, h3, h4⟩ | ⟨h1, h2, h3, h4, h5⟩ | ⟨h1, h2, h3, h4, h5, h6⟩ | ⟨h1, h2, h3, h4, h5, h6, h7⟩ | ⟨h1, h2, h3, h4, h5, h6, h7, h8⟩⟩
  all_goals
    have H := hide h
    clear h
    go_enter Tryz.func18, Tryz.ntmps18
    go_wp2
    go_ret
    exact ⟨ret_bool (by first | (rw [unhide H]; done) | (rw [unhide H]; simp; omega)), below_alloc _ _⟩

theorem cat (a b : List UInt8) : ((bytesOf a) ++ (bytesOf b)) = bytesOf (a ++ b) := by
  apply ByteArray.ext; simp [bytesOf]
theorem pt_cat (a b c d : List UInt8) : ((((((⟨a.toArray⟩ : ByteArray) ++ ⟨#[46]⟩) ++ ⟨b.toArray⟩) ++ ⟨#[46]⟩) ++ ⟨c.toArray⟩) ++ ⟨#[46]⟩) ++ ⟨d.toArray⟩ = bytesOf (a ++ (46 :: (b ++ (46 :: (c ++ (46 :: d)))))) := by
  apply ByteArray.ext; simp [bytesOf]
theorem ret_by {a b : ByteArray} (h : a = b) : Ending.returned (.string a) = .returned (.string b) := by rw [h]
def i64 (n : Int) : Prop := -9223372036854775808 ≤ n ∧ n ≤ 9223372036854775807
theorem decS (n : Int) (h : i64 n) (w : World) : Calls Tryz.prog 34 #[.int .i64 n] w fun x w' => x = .returned (.string ⟨(Lib.itoa n).toArray⟩) ∧ Below w.heap.size w w' := dec n w h.1 h.2

theorem new4 (w : World) (a b c d : Value) (t : TypeId) : (w.alloc (.cells #[a, b, c, d] t)).cell? ⟨w.heap.size, 0, none⟩ = some a ∧ (w.alloc (.cells #[a, b, c, d] t)).cell? ⟨w.heap.size, 1, none⟩ = some b ∧ (w.alloc (.cells #[a, b, c, d] t)).cell? ⟨w.heap.size, 2, none⟩ = some c ∧ (w.alloc (.cells #[a, b, c, d] t)).cell? ⟨w.heap.size, 3, none⟩ = some d := by
  have e1 := (MapKept.heap_alloc w (.cells #[a, b, c, d] t)).1
  simp only [World.cell?]
  rw [e1]; simp
/-- the cells of a box of four -/
def Box4 (W : World) (b : Nat) (v0 v1 v2 v3 : Value) : Prop := W.cell? ⟨b, 0, none⟩ = some v0 ∧ W.cell? ⟨b, 1, none⟩ = some v1 ∧ W.cell? ⟨b, 2, none⟩ = some v2 ∧ W.cell? ⟨b, 3, none⟩ = some v3
theorem Box4.kept {W W' : World} {b : Nat} {v0 v1 v2 v3 : Value} (h : Box4 W b v0 v1 v2 v3) (hb : Below W.heap.size W W') : Box4 W' b v0 v1 v2 v3 := by
  have hl : ∀ {q : Addr} {v : Value}, W.cell? q = some v → q.block < W.heap.size := fun {q v} h => by
    rcases Nat.lt_or_ge q.block W.heap.size with h' | h'
    · exact h'
    · simp [World.cell?, Array.getElem?_eq_none h'] at h
  exact ⟨(hb.cell (hl h.1)).trans h.1, (hb.cell (hl h.2.1)).trans h.2.1, (hb.cell (hl h.2.2.1)).trans h.2.2.1, (hb.cell (hl h.2.2.2)).trans h.2.2.2⟩

set_option maxHeartbeats 1000000 in
/-- l6Body -/
theorem bodyS (t r u e m : Int) (w : World) (ht : i64 t) (hr : i64 r) (hu : i64 u) (he : i64 e) : Calls Tryz.prog 20 #[.int .i64 t, tokV r u e m] w fun x w' => x = .returned (.string (bytesOf (ptL t r u e))) ∧ Below w.heap.size w w' := by
  have l1 := itoa20 t ht.1 ht.2
  have l2 := itoa20 r hr.1 hr.2
  have l3 := itoa20 u hu.1 hu.2
  have l4 := itoa20 e he.1 he.2
  have C1 := hide (decS t ht)
  have C2 := hide (decS r hr)
  have C3 := hide (decS u hu)
  have C4 := hide (decS e he)
  clear ht hr hu he
  unfold ptL
  generalize Lib.itoa t = L1 at *
  generalize Lib.itoa r = L2 at *
  generalize Lib.itoa u = L3 at *
  generalize Lib.itoa e = L4 at *
  go_enter Tryz.func20, Tryz.ntmps20
  go_wp2_with fail
  obtain ⟨q0, q1, q2, q3⟩ := new4 w (.int .i64 r) (.int .i64 u) (.int .i64 e) (.int .i64 m) 26
  obtain ⟨W5, hW5⟩ : ∃ W5, w.alloc (.cells #[.int .i64 r, .int .i64 u, .int .i64 e, .int .i64 m] 26) = W5 := ⟨_, rfl⟩
  have B5 : Hid (Below w.heap.size w W5) := hide (by rw [← hW5]; exact below_alloc _ _)
  have Q5 : Hid (Box4 W5 w.heap.size (.int .i64 r) (.int .i64 u) (.int .i64 e) (.int .i64 m)) := hide (by rw [← hW5]; exact ⟨q0, q1, q2, q3⟩)
  rw [hW5] at q0 q1 q2 q3 ⊢
  have b1 : ¬ 9223372036854775807 < L1.length + 1 := by omega
  have b2 : ¬ 9223372036854775807 < L1.length + 1 + L2.length := by omega
  have b3 : ¬ 9223372036854775807 < L1.length + 1 + L2.length + 1 := by omega
  have b4 : ¬ 9223372036854775807 < L1.length + 1 + L2.length + 1 + L3.length := by omega
  have b5 : ¬ 9223372036854775807 < L1.length + 1 + L2.length + 1 + L3.length + 1 := by omega
  have b6 : ¬ 9223372036854775807 < L1.length + 1 + L2.length + 1 + L3.length + 1 + L4.length := by omega
  clear hW5
  go_region_held3 (fun w2 => w2.cell? ⟨w.heap.size, 0, none⟩ = some (.int .i64 r) ∧ w2.cell? ⟨w.heap.size, 1, none⟩ = some (.int .i64 u) ∧ w2.cell? ⟨w.heap.size, 2, none⟩ = some (.int .i64 e)) (go_keep)
    (first | (go_at_call_of 34 (Value.int .i64 t); refine (unhide C1 _).mono ?_; rintro x w1 ⟨rfl, hb1⟩; have hB1 : Below W5.heap.size W5 w1 := ⟨hb1.os, hb1.tape, hb1.output, hb1.size, hb1.block⟩; clear hb1; obtain ⟨r0, r1, r2, r3⟩ := (unhide Q5).kept hB1) | (go_at_call_of 34 (Value.int .i64 r); refine (unhide C2 _).mono ?_; rintro x w2 ⟨rfl, hb2⟩; have hB2 : Below W5.heap.size W5 w2 := below_trans hB1 hb2; clear hb2; obtain ⟨s0, s1, s2, s3⟩ := (unhide Q5).kept hB2) | (go_at_call_of 34 (Value.int .i64 u); refine (unhide C3 _).mono ?_; rintro x w3 ⟨rfl, hb3⟩; have hB3 : Below W5.heap.size W5 w3 := below_trans hB2 hb3; clear hb3; obtain ⟨t0, t1, t2, t3⟩ := (unhide Q5).kept hB3) | (go_at_call_of 34 (Value.int .i64 e); refine (unhide C4 _).mono ?_; rintro x w4 ⟨rfl, hb4⟩; have hB4 : Below W5.heap.size W5 w4 := below_trans hB3 hb4; clear hb4; obtain ⟨u0, u1, u2, u3⟩ := (unhide Q5).kept hB4))
  go_wp2
  go_ret
  exact ⟨ret_by (pt_cat _ _ _ _), below_trans (unhide B5) hB4⟩
end Go.Proofs.YtlmdpfhabiakmaaGreatDoor.Tok
