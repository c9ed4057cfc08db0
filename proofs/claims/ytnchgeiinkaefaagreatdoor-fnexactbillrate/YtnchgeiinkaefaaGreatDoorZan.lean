/-
  Texts of this proof laid together, in build order; each says of itself what it holds.
-/
import Derived.Test.YtnchgeiinkaefaaGreatDoorZam
import Derived.Test.YtnchgeiinkaefaaGreatDoorZaj
section
/-
  spec.l18Num.
-/
namespace Go.Proofs.YtnchgeiinkaefaaGreatDoor.Rule
set_option linter.unusedVariables false
open Go.RowKit
open Boxes (hide unhide)

/-- what l18Num tells -/
def numV (s : List UInt8) : Value := .tuple #[.int .i64 ((numL s).getD 0), .bool (numL s).isSome]
theorem numV_none {s : List UInt8} (h : numL s = none) : numV s = .tuple #[.int .i64 0, .bool false] := by unfold numV; rw [h]; rfl
theorem numV_some {s : List UInt8} {n : Int} (h : numL s = some n) : numV s = .tuple #[.int .i64 n, .bool true] := by unfold numV; rw [h]; rfl
theorem by_at {y : ByteArray} {k : Nat} (h : k < y.size) : y.data.toList[k]? = some y[k] := by
  have hl : y.data.toList.length = y.size := Array.length_toList
  rw [List.getElem?_eq_getElem (by omega)]; simp; rfl
theorem df_bad : ∀ (l : List UInt8) (acc k : Nat) (b : UInt8), l[k]? = some b → Lib.digitVal b = none → Lib.decFrom acc l = none
  | [], _, _, _, h, _ => by simp at h
  | a :: l, acc, 0, b, h, hb => by
    simp at h; subst h
    simp [Lib.decFrom, hb]
  | a :: l, acc, k + 1, b, h, hb => by
    simp only [List.getElem?_cons_succ] at h
    simp only [Lib.decFrom]
    cases Lib.digitVal a with
    | none => rfl
    | some d => exact df_bad l _ k b h hb
theorem df_more {l : List UInt8} {k m : Nat} {b : UInt8} (h : Lib.decFrom 0 (l.take k) = some m) (hb : l[k]? = some b) (h1 : 48 ≤ b.toNat) (h2 : b.toNat ≤ 57) : Lib.decFrom 0 (l.take (k + 1)) = some (m * 10 + (b.toNat - 48)) :=
  Lib.decFrom_take l k 0 m b (b.toNat - 48) h hb (by unfold Lib.digitVal; simp; omega)
theorem dv_none {b : UInt8} (h : ¬ (48 ≤ b.toNat ∧ b.toNat ≤ 57)) : Lib.digitVal b = none := by unfold Lib.digitVal; simp; omega

set_option maxHeartbeats 3200000 in
theorem num_pos (y : ByteArray) (w : World) (hs : y.size ≤ 2000000) (h0 : y.data.toList.head? ≠ some 45) :
    Calls Tryz.prog 80 #[.string y] w fun e w' => e = .returned (numV y.data.toList) ∧ Below w.heap.size w w' := by
  have hlen : y.data.toList.length = y.size := Array.length_toList
  generalize hv : numV y.data.toList = V
  have HNO : Hid ((y.size = 0 ∨ 17 < y.size ∨ y.data.toList.head? = some 48 ∧ 1 < y.size) → V = .tuple #[.int .i64 0, .bool false]) := hide (fun h => by
    rw [← hv]; apply numV_none; unfold numL; rw [if_neg h0, if_pos (by rw [hlen]; exact h)])
  have HYE : Hid (¬ (y.size = 0 ∨ 17 < y.size ∨ y.data.toList.head? = some 48 ∧ 1 < y.size) → (∀ m, Lib.decFrom 0 y.data.toList = some m → V = .tuple #[.int .i64 (m : Int), .bool true]) ∧ (Lib.decFrom 0 y.data.toList = none → V = .tuple #[.int .i64 0, .bool false])) := hide (fun h => by
    have e : numL y.data.toList = (Lib.decFrom 0 y.data.toList).map fun (n : Nat) => (n : Int) := by unfold numL; rw [if_neg h0, if_neg (by rw [hlen]; exact h)]
    refine ⟨fun m hm => ?_, fun hm => ?_⟩
    · rw [← hv]; apply numV_some; rw [e, hm]; rfl
    · rw [← hv]; apply numV_none; rw [e, hm]; rfl)
  clear hv
  by_cases e0 : y.size = 0
  · obtain rfl : V = .tuple #[.int .i64 0, .bool false] := unhide HNO (.inl e0)
    clear HNO HYE h0
    go_enter Tryz.func80, Tryz.ntmps80
    go_wp2
    go_ret2
    exact ⟨rfl, Below.refl _ _⟩
  have hz := by_at (y := y) (k := 0) (by omega)
  have h45 : ((y[0]'(by omega)).toNat : Int) ≠ 45 := by
    intro e; apply h0
    rw [List.head?_eq_getElem?, hz]
    congr 1; apply UInt8.toNat_inj.1; show _ = 45; omega
  have HZ := hide (show y.data.toList.head? = some (y[0]'(by omega)) from by rw [List.head?_eq_getElem?, hz])
  clear hz h0
  have hp0 : 0 < y.size := by omega
  have hpi : (0 : Int) < (y.size : Int) := by omega
  have b45 : (((y[0]'hp0).toNat : Int) == 45) = false := by simpa using h45
  by_cases e1 : 17 < y.size
  · obtain rfl : V = .tuple #[.int .i64 0, .bool false] := unhide HNO (.inr (.inl e1))
    clear HNO HYE HZ
    have j1 : (17 : Int) < (y.size : Int) := by omega
    go_enter Tryz.func80, Tryz.ntmps80
    go_wp2
    go_ret2
    exact ⟨rfl, Below.refl _ _⟩
  by_cases e2 : (y[0]'hp0).toNat = 48 ∧ 1 < y.size
  · obtain rfl : V = .tuple #[.int .i64 0, .bool false] := unhide HNO (.inr (.inr ⟨by rw [unhide HZ]; congr 1; apply UInt8.toNat_inj.1; show _ = 48; omega, e2.2⟩))
    have b48 : (((y[0]'hp0).toNat : Int) == 48) = true := by simp; omega
    have j2 : (1 : Int) < (y.size : Int) := by omega
    clear HNO HYE HZ
    go_enter Tryz.func80, Tryz.ntmps80
    go_wp2
    go_ret2
    exact ⟨rfl, Below.refl _ _⟩
  obtain ⟨hy1, hy2⟩ := unhide HYE (by
    rintro (h | h | ⟨h, h'⟩)
    · exact e0 h
    · exact e1 h
    · rw [unhide HZ] at h
      exact e2 ⟨by rw [Option.some.inj h]; rfl, h'⟩)
  have HY1 := hide hy1
  have HY2 := hide hy2
  clear hy1 hy2 HNO HYE HZ
  have key : (((y[0]'hp0).toNat : Int) == 48) = false ∨ (((y[0]'hp0).toNat : Int) == 48) = true ∧ ¬ (1 : Int) < (y.size : Int) := by
    by_cases h : (y[0]'hp0).toNat = 48
    · exact .inr ⟨by simp; omega, by omega⟩
    · exact .inl (by simp; omega)
  clear e2
  have j1 : ¬ (17 : Int) < (y.size : Int) := by omega
  rcases key with b48 | ⟨b48, j2⟩
  all_goals
    go_enter Tryz.func80, Tryz.ntmps80
    go_wp2
    go_loopw [5, 6] (fun n i wr => ∃ (k m : Nat), k ≤ y.size ∧ i = .int .i64 k ∧ n = .int .i64 m ∧ m < 100000000000000000 ∧ wr = w ∧ Hid (m < 10 ^ k) ∧ Hid (Lib.decFrom 0 (y.data.toList.take k) = some m)) (fun _ i _ => y.size - (intOf i).toNat)
    case atStart => exact ⟨0, 0, by omega, rfl, rfl, by omega, rfl, hide (by simp), hide (by simp [Lib.decFrom])⟩
    case round =>
      obtain ⟨k, m, hk, rfl, rfl, hm, rfl, hp, hd⟩ := hrel
      clear b45 b48
      by_cases hlt : k < y.size
      · have HB := hide (by_at hlt)
        have i1 : (k : Int) < (y.size : Int) := by omega
        by_cases hx : 48 ≤ y[k].toNat ∧ y[k].toNat ≤ 57
        · have x1 : ¬ ((y[k].toNat : Int) < 48) := by omega
          have x2 : ¬ (57 < (y[k].toNat : Int)) := by omega
          have x3 : (48 : Int) ≤ (y[k].toNat : Int) := by omega
          have x4 : (y[k].toNat : Int) ≤ 57 := by omega
          have HD := hide (df_more (unhide hd) (unhide HB) hx.1 hx.2)
          have hp1 : m * 10 + (y[k].toNat - 48) < 10 ^ (k + 1) := by have := unhide hp; rw [Nat.pow_succ]; omega
          have hp2 : (10 : Nat) ^ (k + 1) ≤ 10 ^ 17 := Nat.pow_le_pow_right (by omega) (by omega)
          have hm2 : m * 10 + (y[k].toNat - 48) < 100000000000000000 := by omega
          have HP1 := hide hp1
          clear hp1 hp2 hp hd
          go_wp2
          exact ⟨⟨k + 1, m * 10 + (y[k].toNat - 48), by omega, by go_num, by go_num, hm2, trivial, HP1, HD⟩, by simp [intOf]; omega⟩
        · obtain rfl := unhide HY2 (df_bad _ 0 k _ (unhide HB) (dv_none hx))
          clear HY1 HY2 hp hd
          by_cases hx1 : y[k].toNat < 48
          · have x1 : (y[k].toNat : Int) < 48 := by omega
            go_wp2
            go_ret2
            exact ⟨rfl, Below.refl _ _⟩
          · have x1 : ¬ ((y[k].toNat : Int) < 48) := by omega
            have x2 : 57 < (y[k].toNat : Int) := by omega
            go_wp2
            go_ret2
            exact ⟨rfl, Below.refl _ _⟩
      · obtain rfl : k = y.size := by omega
        obtain rfl := unhide HY1 m (by have := unhide hd; rwa [← hlen, List.take_length] at this)
        clear HY1 HY2 hp hd
        go_wp2
        go_ret2
        exact ⟨rfl, Below.refl _ _⟩

set_option maxHeartbeats 3200000 in
theorem num_neg (x : ByteArray) (w : World) (hs : x.size ≤ 2000000) (h0 : x.data.toList.head? = some 45) :
    Calls Tryz.prog 80 #[.string x] w fun e w' => e = .returned (numV x.data.toList) ∧ Below w.heap.size w w' := by
  have hxl : x.data.toList.length = x.size := Array.length_toList
  have hx1 : 1 ≤ x.size := by
    cases h : x.data.toList with
    | nil => rw [h] at h0; cases h0
    | cons a b => rw [h] at hxl; simp at hxl; omega
  have hx0 : (x[0]'(by omega)).toNat = 45 := by
    have := by_at (y := x) (k := 0) (by omega)
    rw [List.head?_eq_getElem?, this] at h0
    rw [Option.some.inj h0]; rfl
  have hxi : (0 : Int) < (x.size : Int) := by omega
  have b45 : (((x[0]'(by omega)).toNat : Int) == 45) = true := by simp; omega
  have hx2 : (1 : Int) ≤ (x.size : Int) := by omega
  obtain ⟨y, hE⟩ : ∃ y, x.extract 1 x.size = y := ⟨_, rfl⟩
  have hyd : y.data.toList = x.data.toList.tail := by
    rw [← hE, ByteArray.data_extract, Array.toList_extract, List.extract_eq_take_drop, ← hxl]
    cases x.data.toList with
    | nil => rfl
    | cons a b => simp
  have hlen : y.data.toList.length = y.size := Array.length_toList
  have hys : y.size = x.size - 1 := by rw [← hlen, hyd]; simp [hxl]
  generalize hv : numV x.data.toList = V
  have HNO : Hid ((y.size = 0 ∨ 17 < y.size ∨ y.data.toList.head? = some 48) → V = .tuple #[.int .i64 0, .bool false]) := hide (fun h => by
    rw [← hv]; apply numV_none; unfold numL; rw [if_pos h0, ← hyd, if_pos (by rw [hlen]; exact h)])
  have HYE : Hid (¬ (y.size = 0 ∨ 17 < y.size ∨ y.data.toList.head? = some 48) → (∀ m, Lib.decFrom 0 y.data.toList = some m → V = .tuple #[.int .i64 (-(m : Int)), .bool true]) ∧ (Lib.decFrom 0 y.data.toList = none → V = .tuple #[.int .i64 0, .bool false])) := hide (fun h => by
    have e : numL x.data.toList = (Lib.decFrom 0 y.data.toList).map fun (n : Nat) => -(n : Int) := by unfold numL; rw [if_pos h0, ← hyd, if_neg (by rw [hlen]; exact h)]
    refine ⟨fun m hm => ?_, fun hm => ?_⟩
    · rw [← hv]; apply numV_some; rw [e, hm]; rfl
    · rw [← hv]; apply numV_none; rw [e, hm]; rfl)
  have HYS := hide hys
  have hs' : y.size ≤ 2000000 := by omega
  clear hv hyd hys h0
  by_cases e0 : y.size = 0
  · obtain rfl : V = .tuple #[.int .i64 0, .bool false] := unhide HNO (.inl e0)
    clear HNO HYE
    go_enter Tryz.func80, Tryz.ntmps80
    go_wp2
    go_ret2
    exact ⟨rfl, Below.refl _ _⟩
  have hz := by_at (y := y) (k := 0) (by omega)
  have HZ := hide (show y.data.toList.head? = some (y[0]'(by omega)) from by rw [List.head?_eq_getElem?, hz])
  clear hz
  have hp0 : 0 < y.size := by omega
  have hpi : (0 : Int) < (y.size : Int) := by omega
  by_cases e1 : 17 < y.size
  · obtain rfl : V = .tuple #[.int .i64 0, .bool false] := unhide HNO (.inr (.inl e1))
    clear HNO HYE HZ
    have j1 : (17 : Int) < (y.size : Int) := by omega
    go_enter Tryz.func80, Tryz.ntmps80
    go_wp2
    go_ret2
    exact ⟨rfl, Below.refl _ _⟩
  by_cases e2 : (y[0]'hp0).toNat = 48
  · obtain rfl : V = .tuple #[.int .i64 0, .bool false] := unhide HNO (.inr (.inr (by rw [unhide HZ]; congr 1; apply UInt8.toNat_inj.1; show _ = 48; omega)))
    have b48 : (((y[0]'hp0).toNat : Int) == 48) = true := by simp; omega
    clear HNO HYE HZ
    by_cases j2 : (1 : Int) < (y.size : Int)
    · go_enter Tryz.func80, Tryz.ntmps80
      go_wp2
      go_ret2
      exact ⟨rfl, Below.refl _ _⟩
    · go_enter Tryz.func80, Tryz.ntmps80
      go_wp2
      go_ret2
      exact ⟨rfl, Below.refl _ _⟩
  obtain ⟨hy1, hy2⟩ := unhide HYE (by
    rintro (h | h | h)
    · exact e0 h
    · exact e1 h
    · rw [unhide HZ] at h
      exact e2 (by rw [Option.some.inj h]; rfl))
  have HY1 := hide hy1
  have HY2 := hide hy2
  clear hy1 hy2 HNO HYE HZ
  have b48 : (((y[0]'hp0).toNat : Int) == 48) = false := by simp; omega
  clear e2
  have j1 : ¬ (17 : Int) < (y.size : Int) := by omega
  go_enter Tryz.func80, Tryz.ntmps80
  go_wp2
  go_loopw [5, 6] (fun n i wr => ∃ (k m : Nat), k ≤ y.size ∧ i = .int .i64 k ∧ n = .int .i64 m ∧ m < 100000000000000000 ∧ wr = w ∧ Hid (m < 10 ^ k) ∧ Hid (Lib.decFrom 0 (y.data.toList.take k) = some m)) (fun _ i _ => y.size - (intOf i).toNat)
  case atStart => exact ⟨0, 0, by omega, rfl, rfl, by omega, rfl, hide (by simp), hide (by simp [Lib.decFrom])⟩
  case round =>
    obtain ⟨k, m, hk, rfl, rfl, hm, rfl, hp, hd⟩ := hrel
    clear b45 b48 hE
    by_cases hlt : k < y.size
    · have HB := hide (by_at hlt)
      have i1 : (k : Int) < (y.size : Int) := by omega
      by_cases hx : 48 ≤ y[k].toNat ∧ y[k].toNat ≤ 57
      · have x1 : ¬ ((y[k].toNat : Int) < 48) := by omega
        have x2 : ¬ (57 < (y[k].toNat : Int)) := by omega
        have x3 : (48 : Int) ≤ (y[k].toNat : Int) := by omega
        have x4 : (y[k].toNat : Int) ≤ 57 := by omega
        have HD := hide (df_more (unhide hd) (unhide HB) hx.1 hx.2)
        have hp1 : m * 10 + (y[k].toNat - 48) < 10 ^ (k + 1) := by have := unhide hp; rw [Nat.pow_succ]; omega
        have hp2 : (10 : Nat) ^ (k + 1) ≤ 10 ^ 17 := Nat.pow_le_pow_right (by omega) (by omega)
        have hm2 : m * 10 + (y[k].toNat - 48) < 100000000000000000 := by omega
        have HP1 := hide hp1
        clear hp1 hp2 hp hd
        go_wp2
        exact ⟨⟨k + 1, m * 10 + (y[k].toNat - 48), by omega, by go_num, by go_num, hm2, trivial, HP1, HD⟩, by simp [intOf]; omega⟩
      · obtain rfl := unhide HY2 (df_bad _ 0 k _ (unhide HB) (dv_none hx))
        clear HY1 HY2 hp hd
        by_cases hx1 : y[k].toNat < 48
        · have x1 : (y[k].toNat : Int) < 48 := by omega
          go_wp2
          go_ret2
          exact ⟨rfl, Below.refl _ _⟩
        · have x1 : ¬ ((y[k].toNat : Int) < 48) := by omega
          have x2 : 57 < (y[k].toNat : Int) := by omega
          go_wp2
          go_ret2
          exact ⟨rfl, Below.refl _ _⟩
    · obtain rfl : k = y.size := by omega
      obtain rfl := unhide HY1 m (by have := unhide hd; rwa [← hlen, List.take_length] at this)
      clear HY1 HY2 hp hd
      go_wp2
      go_ret2
      exact ⟨rfl, Below.refl _ _⟩

theorem numC (x : ByteArray) (w : World) (hs : x.size ≤ 2000000) :
    Calls Tryz.prog 80 #[.string x] w fun e w' => e = .returned (numV x.data.toList) ∧ Below w.heap.size w w' := by
  by_cases h : x.data.toList.head? = some 45
  · exact num_neg x w hs h
  · exact num_pos x w hs h
end Go.Proofs.YtnchgeiinkaefaaGreatDoor.Rule
end

section
/-
  spec's reader of expressions: a byte that must stand, a number, steps.
-/
namespace Go.Proofs.YtnchgeiinkaefaaGreatDoor.Rule
set_option linter.unusedVariables false
open Go.RowKit
open Boxes (At hide unhide)
open RegIn

/-- how far a part of the reader came: o is what should be left of the text, if it can stand -/
def Far (s : ByteArray) (a : Nat) (bad : Bool) (o : Option (List UInt8)) (a' : Nat) (bad' : Bool) : Prop :=
  (bad = true → bad' = true) ∧ (bad' = false → a' ≤ s.size ∧ o = some (left s a')) ∧ (bad' = true → bad = true ∨ o = none) ∧ a ≤ a'

theorem want_far {s : ByteArray} {a : Nat} {bad : Bool} {c : UInt8} (hc : c ≠ 0) : Far s a bad (wantS c (left s a)) (a + 1) (bad || !(seeB s a == c)) := by
  unfold Far seeB
  by_cases hl : a < s.size
  · rw [left_cons hl]
    simp only [List.head?_cons, Option.getD_some, wantS]
    refine ⟨fun h => by simp [h], fun h => ?_, fun h => ?_, by omega⟩
    · simp only [Bool.or_eq_false_iff, Bool.not_eq_false', beq_iff_eq] at h
      rw [if_pos h.2]; exact ⟨by omega, rfl⟩
    · simp only [Bool.or_eq_true, Bool.not_eq_true', beq_eq_false_iff_ne] at h
      rcases h with h | h
      · exact .inl h
      · exact .inr (if_neg h)
  · rw [left_nil (by omega)]
    simp only [List.head?_nil, Option.getD_none, wantS]
    refine ⟨fun h => by simp [h], fun h => ?_, fun _ => .inr trivial, by omega⟩
    simp only [Bool.or_eq_false_iff, Bool.not_eq_false', beq_iff_eq] at h
    exact absurd h.2.symm hc

theorem wantR (b : Nat) (s : ByteArray) (a : Nat) (bad : Bool) (c : UInt8) (w : World) (h : Ps w b s a bad) (hs : s.size ≤ 1000000) (ha : a ≤ 2000000) (hc : c ≠ 0) :
    Calls Tryz.prog 81 #[.pointer (some ⟨b, 0, none⟩), .int .u8 (c.toNat : Int)] w fun e w' => e = .returned (.tuple #[]) ∧ ∃ bad', Ps w' b s (a + 1) bad' ∧ w.grownBy w' (some b) ∧ Far s a bad (wantS c (left s a)) (a + 1) bad' :=
  (want b s a bad c w h hs ha).mono fun e w' ⟨he, hp, hg⟩ => ⟨he, _, hp, hg, want_far hc⟩

set_option maxHeartbeats 1600000 in
theorem numR (b : Nat) (s : ByteArray) (a : Nat) (bad : Bool) (w : World) (h : Ps w b s a bad) (hs : s.size ≤ 1000000) (ha : a ≤ 1000000) :
    Calls Tryz.prog 83 #[.pointer (some ⟨b, 0, none⟩)] w fun e w' => ∃ n a' bad', e = .returned (.int .i64 n) ∧ (Ps w' b s a' bad' ∧ w.grownBy w' (some b)) ∧ (a' ≤ a ∨ a' ≤ s.size) ∧ Far s a bad ((numS (left s a)).map (·.2)) a' bad' ∧ (bad' = false → ∃ r, numS (left s a) = some (n, r)) := by
  have HP := hide h
  clear h
  go_enter Tryz.func83, Tryz.ntmps83
  go_wp2_with (fail)
  refine (word b s a bad w (unhide HP) hs (by omega)).mono ?_
  rintro e w1 ⟨x, a1, bad1, rfl, hp1, hg1, h1, h2⟩
  have P1 := hide hp1
  have G1 := hide hg1
  have H1 := hide h1
  have H2 := hide h2
  have hx : x.size ≤ 2000000 := by
    by_cases hl : s.size < a
    · have := (h1 hl).2.2; omega
    · have := (h2 (by omega)).2.1
      have e1 := congrArg List.length this
      have e2 := restOf_len (left s a)
      have e3 := left_len s a
      have e4 : x.data.toList.length = x.size := Array.length_toList
      omega
  have ha1 : a1 ≤ a ∨ a1 ≤ s.size := by
    by_cases hl : s.size < a
    · have := (h1 hl).2.1; omega
    · exact .inr (h2 (by omega)).2.2.2.2
  clear hp1 hg1 h1 h2 HP
  go_wp2_with (fail)
  refine (numC x w1 hx).mono ?_
  rintro e w2 ⟨rfl, hb2⟩
  have P2 := hide ((unhide P1).kept hb2)
  have G2 := hide (gb_trans (unhide G1) (gb_of _ hb2))
  clear hb2 P1 G1
  obtain ⟨⟨c0, c1, c2⟩, f1, f2⟩ := (unhide P2).cells
  have HF0 : Hid (numL x.data.toList = none → Far s a bad ((numS (left s a)).map (·.2)) a1 true) := hide (fun hn => by
    refine ⟨fun _ => rfl, fun h => (by cases h), fun _ => ?_, ?_⟩
    · by_cases hl : s.size < a
      · right
        rw [left_nil (by omega)]; rfl
      · right
        unfold numS; rw [← (unhide H2 (by omega)).2.1, hn]; rfl
    · by_cases hl : s.size < a
      · rw [(unhide H1 hl).2.1]; omega
      · exact (unhide H2 (by omega)).2.2.2.1)
  have HF1 : Hid (∀ n, numL x.data.toList = some n → Far s a bad ((numS (left s a)).map (·.2)) a1 bad1 ∧ ∃ r, numS (left s a) = some (n, r)) := hide (fun n hn => by
    have hl : ¬ s.size < a := fun hl => by
      have := (unhide H1 hl).2.2
      have e : x.data.toList = [] := List.length_eq_zero_iff.1 (by rw [Array.length_toList]; exact this)
      rw [e] at hn; simp [numL] at hn
    obtain ⟨e1, e2, e3, e4, e5⟩ := unhide H2 (by omega)
    have e6 : numS (left s a) = some (n, left s a1) := by unfold numS; rw [← e2, hn, e3]; rfl
    refine ⟨⟨fun h => by rw [e1]; exact h, fun _ => ⟨e5, by rw [e6]; rfl⟩, fun h => .inl (by rw [← e1]; exact h), e4⟩, _, e6⟩)
  clear H1 H2
  cases hn : numL x.data.toList with
  | none =>
    rw [numV_none hn]
    have HF := hide (unhide HF0 hn)
    clear HF0 HF1 hn
    go_wp2_with (fail)
    go_ret
    exact ⟨0, a1, true, rfl, ⟨(unhide P2).set 2 _, gb_trans (unhide G2) (gb_set _ _ _ _)⟩, ha1, unhide HF, fun h => by cases h⟩
  | some n =>
    rw [numV_some hn]
    have HF := hide (unhide HF1 n hn)
    clear HF0 HF1 hn
    go_wp2_with (fail)
    go_ret
    exact ⟨n, a1, bad1, rfl, ⟨unhide P2, unhide G2⟩, ha1, (unhide HF).1, fun _ => (unhide HF).2⟩
end Go.Proofs.YtnchgeiinkaefaaGreatDoor.Rule
end

section
/-
  spec's reader of expressions: steps.
-/
namespace Go.Proofs.YtnchgeiinkaefaaGreatDoor.Rule
set_option linter.unusedVariables false
open Go.RowKit
open Boxes (At hide unhide)
open RegIn
open Draw (OwnT fT gT infoEx grown_trans)
open App2 (Own2 listApp2)
open Tiers (T T0)

def lenV : Value → Nat | .slice _ n _ => n | _ => 0

/-- steps so far -/
structure TI (s : ByteArray) (t0 : List UInt8) (l : List T) (A : Nat) (bad : Bool) : Prop where
  go : bad = false → A ≤ s.size ∧ tiersS 7 t0 = (tiersS (7 - l.length) (left s A)).map fun q => (l ++ q.1, q.2)
  no : bad = true → tiersS 7 t0 = none
  len : l.length ≤ 7
  far : A ≤ s.size + 2

theorem Far.ok {s : ByteArray} {a a' : Nat} {bad : Bool} {o : Option (List UInt8)} (h : Far s a bad o a' false) : bad = false ∧ a' ≤ s.size ∧ o = some (left s a') := by
  refine ⟨?_, h.2.1 rfl⟩
  cases bad with
  | false => rfl
  | true => exact absurd (h.1 rfl) (by simp)
theorem Far.fail {s : ByteArray} {a a' : Nat} {o : Option (List UInt8)} (h : Far s a false o a' true) : o = none := by
  rcases h.2.2.1 rfl with h | h
  · cases h
  · exact h
theorem num_fst {t r r' : List UInt8} {n : Int} (h : ∃ r, numS t = some (n, r)) (h' : (numS t).map (·.2) = some r') : numS t = some (n, r') := by
  obtain ⟨q, hq⟩ := h
  rw [hq] at h' ⊢
  simp only [Option.map_some, Option.some.injEq] at h'
  rw [h']
theorem tier_chain {s : ByteArray} {A A2 A4 : Nat} {n1 n2 : Int} {b1 b2 b3 b4 : Bool} (F1 : Far s A false (wantS 32 (left s A)) (A + 1) b1) (F2 : Far s (A + 1) b1 ((numS (left s (A + 1))).map (·.2)) A2 b2) (N2 : b2 = false → ∃ r, numS (left s (A + 1)) = some (n1, r))
    (F3 : Far s A2 b2 (wantS 58 (left s A2)) (A2 + 1) b3) (F4 : Far s (A2 + 1) b3 ((numS (left s (A2 + 1))).map (·.2)) A4 b4) (N4 : b4 = false → ∃ r, numS (left s (A2 + 1)) = some (n2, r)) :
    (b4 = false → A4 ≤ s.size ∧ tierS (left s A) = some ((n1, n2), left s A4)) ∧ (b4 = true → tierS (left s A) = none) := by
  unfold tierS
  refine ⟨fun h => ?_, fun h => ?_⟩
  · subst h
    obtain ⟨rfl, h4, e4⟩ := F4.ok
    obtain ⟨rfl, h3, e3⟩ := F3.ok
    obtain ⟨rfl, h2, e2⟩ := F2.ok
    obtain ⟨_, h1, e1⟩ := F1.ok
    rw [e1, Option.bind_some, num_fst (r := []) (N2 rfl) e2, Option.bind_some]
    simp only
    rw [e3, Option.bind_some, num_fst (r := []) (N4 rfl) e4]
    exact ⟨h4, rfl⟩
  · subst h
    cases b1 with
    | true => rw [F1.fail]; rfl
    | false =>
      rw [(F1.ok).2.2, Option.bind_some]
      cases b2 with
      | true =>
        have := F2.fail
        rw [Option.map_eq_none_iff] at this
        rw [this]; rfl
      | false =>
        rw [num_fst (r := []) (N2 rfl) (F2.ok).2.2, Option.bind_some]
        simp only
        cases b3 with
        | true => rw [F3.fail]; rfl
        | false =>
          rw [(F3.ok).2.2, Option.bind_some]
          have := F4.fail
          rw [Option.map_eq_none_iff] at this
          rw [this]; rfl
theorem TI.next {s : ByteArray} {t0 : List UInt8} {l : List T} {A A4 : Nat} {n1 n2 : Int} {b4 : Bool} (h : TI s t0 l A false) (hl : l.length ≤ 6) (hh : (left s A).head? = some 32) (hA : A4 ≤ s.size + 2)
    (h1 : b4 = false → A4 ≤ s.size ∧ tierS (left s A) = some ((n1, n2), left s A4)) (h2 : b4 = true → tierS (left s A) = none) : TI s t0 (l ++ [(n1, n2)]) A4 b4 := by
  have e : 7 - l.length = (7 - (l ++ [(n1, n2)]).length) + 1 := by simp; omega
  have e0 := (h.go rfl).2
  have e1 : tiersS (7 - l.length) (left s A) = (tierS (left s A)).bind fun p => (tiersS (7 - (l ++ [(n1, n2)]).length) p.2).map fun q => (p.1 :: q.1, q.2) := by rw [e, tiersS, if_pos hh]
  rw [e1] at e0
  refine ⟨fun hb => ⟨(h1 hb).1, ?_⟩, fun hb => ?_, by simp; omega, hA⟩
  · rw [e0, (h1 hb).2, Option.bind_some]
    simp only
    cases tiersS (7 - (l ++ [(n1, n2)]).length) (left s A4) with
    | none => rfl
    | some q => simp
  · rw [e0, h2 hb]; rfl
theorem TI.stop {s : ByteArray} {t0 : List UInt8} {l : List T} {A : Nat} (h : TI s t0 l A false) (hh : (left s A).head? ≠ some 32 ∨ l.length = 7) : A ≤ s.size ∧ tiersS 7 t0 = some (l, left s A) := by
  refine ⟨(h.go rfl).1, ?_⟩
  rw [(h.go rfl).2]
  have : tiersS (7 - l.length) (left s A) = some ([], left s A) := by
    rcases hh with hh | hh
    · cases 7 - l.length with
      | zero => rfl
      | succ n => rw [tiersS, if_neg hh]
    · rw [hh]; rfl
  rw [this]; simp
theorem head_see {s : ByteArray} {A : Nat} {c : UInt8} (hc : c ≠ 0) : (left s A).head? = some c ↔ seeB s A = c := by
  unfold seeB
  cases (left s A).head? with
  | none => simp; exact fun h => hc h.symm
  | some x => simp

set_option maxRecDepth 20000 in
set_option maxHeartbeats 3200000 in
theorem tiersR (b : Nat) (s : ByteArray) (a : Nat) (w : World) (h : Ps w b s a false) (hs : s.size ≤ 100000) (ha : a ≤ s.size) :
    Calls Tryz.prog 84 #[.pointer (some ⟨b, 0, none⟩)] w fun e w' => ∃ (l : List T) (g c a' : Nat) (bad' : Bool), e = .returned (.slice (some ⟨g, 0, none⟩) l.length c) ∧ OwnT w' w.heap.size g c l ∧ (Ps w' b s a' bad' ∧ w.grownBy w' (some b)) ∧ l.length ≤ 7 ∧ a' ≤ s.size + 2 ∧
      (bad' = false → a' ≤ s.size ∧ tiersS 7 (left s a) = some (l, left s a')) ∧ (bad' = true → tiersS 7 (left s a) = none) := by
  obtain ⟨inf, hinf, hzero, hsize, hbytes⟩ := infoEx
  have HF : ∀ x : T, (fT x).oneCell' = true ∧ (gT x).oneCell' = true := fun x => ⟨rfl, rfl⟩
  have hbw := h.lt
  have HP := hide h
  clear h
  go_enter Tryz.func84, Tryz.ntmps84
  go_wp2_with (fail)
  go_loopw [3] (fun out wr => ∃ (l : List T) (g c A : Nat) (bad : Bool), out = .slice (some ⟨g, 0, none⟩) l.length c ∧ l.length ≤ 7 ∧ A ≤ s.size + 2 ∧ Hid (OwnT wr w.heap.size g c l) ∧ Hid (Ps wr b s A bad) ∧ Hid (w.grownBy wr (some b)) ∧ Hid (TI s (left s a) l A bad)) (fun out _ => 7 - lenV out)
  case atStart =>
    refine ⟨[], _, 0, a, false, rfl, by simp, by omega, hide (Own2.new _ _ (by simp)), hide ((unhide HP).kept (below_alloc _ _)), hide (gb_of _ (below_alloc _ _)), hide ⟨fun _ => ⟨ha, ?_⟩, fun h => (by cases h), (by simp), (by omega)⟩⟩
    cases tiersS 7 (left s a) <;> rfl
  case round =>
    obtain ⟨l, g, c, A, bad, rfl, hl7, hA, ho, hp, hg, hi⟩ := hrel
    have hgw := (unhide hg).size
    obtain ⟨hog, hog2⟩ := (unhide ho).lt
    obtain ⟨⟨c0, c1, c2⟩, f1, f2⟩ := (unhide hp).cells
    cases bad with
    | true =>
      go_wp2_with (fail)
      go_ret
      exact ⟨l, g, c, A, true, rfl, unhide ho, ⟨unhide hp, unhide hg⟩, hl7, hA, fun h => (by cases h), fun _ => (unhide hi).no rfl⟩
    | false =>
      have hAs : A ≤ s.size := ((unhide hi).go rfl).1
      go_wp2_with (fail)
      refine (see b s A false wr (unhide hp) (by omega) (by omega)).mono ?_
      rintro e w1 ⟨rfl, hb1⟩
      have P1 := hide ((unhide hp).kept hb1)
      have G1 := hide (gb_trans (unhide hg) (gb_of _ hb1))
      have O1 := hide ((unhide ho).kept (World.grownBy.mk hb1.os hb1.tape hb1.output hb1.size (fun j hj _ => hb1.block j hj) : wr.grownBy w1 none) (by simp))
      clear hb1 hp hg ho c0 c1 c2 f1 f2
      have HH : Hid ((left s A).head? = some 32 ↔ seeB s A = 32) := hide (head_see (by decide))
      generalize seeB s A = x at *
      by_cases hx : x = 32
      case neg =>
        have hx1 : ((x.toNat : Int) == 32) = false := by
          rw [beq_eq_false_iff_ne]; intro e; apply hx; apply UInt8.toNat_inj.1; show _ = 32; omega
        have HT := hide ((unhide hi).stop (.inl (fun h => hx ((unhide HH).1 h))))
        clear HH hx
        go_wp2_with (fail)
        go_ret
        exact ⟨l, g, c, A, false, rfl, unhide O1, ⟨unhide P1, unhide G1⟩, hl7, hA, fun _ => unhide HT, fun h => (by cases h)⟩
      subst hx
      by_cases h6 : l.length ≤ 6
      case neg =>
        have h6i : ¬ ((l.length : Int) ≤ 6) := by omega
        have HT := hide ((unhide hi).stop (.inr (by omega)))
        clear HH
        go_wp2_with (fail)
        go_ret
        exact ⟨l, g, c, A, false, rfl, unhide O1, ⟨unhide P1, unhide G1⟩, hl7, hA, fun _ => unhide HT, fun h => (by cases h)⟩
      have h6i : ((l.length : Int) ≤ 6) := by omega
      have HH2 := hide ((unhide HH).2 rfl)
      clear HH
      go_wp2_with (fail)
      refine (wantR b s A false 32 w1 (unhide P1) (by omega) (by omega) (by decide)).mono ?_
      rintro e w2 ⟨rfl, b2, p2, g2, F1⟩
      have P2 := hide p2
      have G2 := hide (gb_trans (unhide G1) g2)
      have O2 := hide ((unhide O1).kept g2 (by simp; omega))
      have HF1 := hide F1
      clear p2 g2 F1 P1 G1 O1
      go_wp2_with (fail)
      refine (numR b s (A + 1) b2 w2 (unhide P2) (by omega) (by omega)).mono ?_
      rintro e w3 ⟨n1, A2, b3, rfl, ⟨p3, g3⟩, ha3, F2, N2⟩
      have P3 := hide p3
      have G3 := hide (gb_trans (unhide G2) g3)
      have O3 := hide ((unhide O2).kept g3 (by simp; omega))
      have HF2 := hide F2
      have HN2 := hide N2
      clear p3 g3 F2 N2 P2 G2 O2
      have k3 : w3.grownBy (w3.alloc (.cells #[.int .i64 n1, .int .i64 0] 184)) none := World.grownBy_alloc w3 _ _
      have hsz3 : w.heap.size ≤ w3.heap.size := (unhide G3).size
      have hog3 := (unhide O3).lt
      go_wp2_with (fail)
      refine (wantR b s A2 b3 58 _ ((unhide P3).kept (below_alloc _ _)) (by omega) (by omega) (by decide)).mono ?_
      rintro e w4 ⟨rfl, b4, p4, g4, F3⟩
      have P4 := hide p4
      have G4 := hide (gb_trans (unhide G3) (gb_trans (gb_of _ (below_alloc _ _)) g4))
      have O4 := hide (((unhide O3).kept k3 (by simp)).kept g4 (by simp; omega))
      have a4 : At w4 w3.heap.size [.int .i64 n1, .int .i64 0] := (At.new w3 #[.int .i64 n1, .int .i64 0] 184).kept (g4.block _ (by simp) (by simp; omega))
      have hz4 : w3.heap.size + 1 ≤ w4.heap.size := by have := g4.size; simpa using this
      have A4 := hide a4
      have HF3 := hide F3
      clear p4 g4 F3 P3 G3 O3 k3 a4
      go_wp2_with (fail)
      refine (numR b s (A2 + 1) b4 w4 (unhide P4) (by omega) (by omega)).mono ?_
      rintro e w5 ⟨n2, A5, b5, rfl, ⟨p5, g5⟩, ha5, F4, N4⟩
      have P5 := hide p5
      have G5 := hide (gb_trans (unhide G4) g5)
      have O5 := hide ((unhide O4).kept g5 (by simp; omega))
      have a5 : At w5 w3.heap.size [.int .i64 n1, .int .i64 0] := (unhide A4).kept (g5.block _ (by omega) (by simp; omega))
      obtain ⟨t1, t2⟩ := tier_chain (unhide HF1) (unhide HF2) (unhide HN2) (unhide HF3) F4 N4
      have HTI := hide ((unhide hi).next (by omega) (unhide HH2) (A4 := A5) (by omega) t1 t2)
      have hz5 : w3.heap.size + 1 ≤ w5.heap.size := Nat.le_trans hz4 g5.size
      obtain ⟨q0, r0⟩ := a5 0 _ rfl
      obtain ⟨q1, r1⟩ := a5 1 _ rfl
      have hlo : w.heap.size ≤ g ∧ g < w5.heap.size := (unhide O5).lt
      obtain ⟨W5, hW5⟩ : ∃ W, w5.setCell ⟨w3.heap.size, 1, none⟩ (.int .i64 n2) = W := ⟨_, rfl⟩
      have k5 : w5.grownBy W5 (some w3.heap.size) := by rw [← hW5]; exact gb_set _ _ _ _
      have z5 : W5.heap.size = w5.heap.size := by rw [← hW5]; simp
      have a6 : At W5 w3.heap.size [.int .i64 n1, .int .i64 n2] := by rw [← hW5]; exact a5.set 1 (.int .i64 n2)
      have P6 : Hid (Ps W5 b s A5 b5) := hide (At.kept (unhide P5) (k5.block _ (by omega) (by simp; omega)))
      have O6 : Hid (OwnT W5 w.heap.size g c l) := hide ((unhide O5).kept k5 (by simp; omega))
      have G6 : Hid (w.grownBy W5 (some b)) := hide (by
        have hh := unhide G5
        exact ⟨k5.os.trans hh.os, k5.tape.trans hh.tape, k5.output.trans hh.output, Nat.le_trans hh.size k5.size, fun j hj hne => (k5.block j (Nat.lt_of_lt_of_le hj hh.size) (by simp; omega)).trans (hh.block j hj hne)⟩)
      obtain ⟨v0, _⟩ := a6 0 _ rfl
      obtain ⟨v1, _⟩ := a6 1 _ rfl
      have hlo6 : w.heap.size ≤ g ∧ g < W5.heap.size := (unhide O6).lt
      have hZ := hide z5
      clear p5 g5 F4 N4 t1 t2 HF1 HF2 HF3 HN2 HH2 hi P4 G4 O4 A4 a5 a6 k5 P5 O5 G5 z5
      go_wp2_with (first
                         | (at_builtin
                            refine listApp2 (e := 184) (f := fT) (g := gT) _ Tryz.underlying75 hinf hzero hsize hbytes rfl (by omega) HF rfl _ _ rfl w.heap.size g c _ l.length l (n1, n2) rfl rfl (Own2.kept (unhide O6) (World.grownBy_alloc _ _ none) (by simp)) rfl (MapKept.heap_alloc _ _).1 (by omega) (by simp; omega) ?_
                            intro gb cb w6 ho hgr hat hlt6
                            have hg7 : W5.grownBy w6 (some g) := grown_trans (World.grownBy_alloc _ _ _) hgr
                            have P7 := hide (At.kept (unhide P6) (hg7.block b (by have := unhide hZ; omega) (by simp; omega)))
                            have G7 : Hid (w.grownBy w6 (some b)) := hide (by
                              have hh := unhide G6
                              exact ⟨hg7.os.trans hh.os, hg7.tape.trans hh.tape, hg7.output.trans hh.output, Nat.le_trans hh.size hg7.size, fun j hj hne => (hg7.block j (Nat.lt_of_lt_of_le hj hh.size) (by simp; omega)).trans (hh.block j hj hne)⟩)
                            have O7 := hide ho
                            clear ho hgr hat hg7 P6 G6 O6))
      exact ⟨⟨l ++ [(n1, n2)], gb, cb, A5, b5, by rw [List.length_append]; rfl, by simp; omega, by omega, O7, P7, G7, HTI⟩, by simp [lenV]; omega⟩

theorem OwnT.low {W : World} {B B' g c : Nat} {l : List T} (h : OwnT W B g c l) (hb : B' ≤ B) : OwnT W B' g c l := Draw.ownsRow_le h hb
theorem OwnT.tl {W : World} {B g c : Nat} {l : List T} (h : OwnT W B g c l) : TL B W.heap.size W (.slice (some ⟨g, 0, none⟩) l.length c) l := by
  refine .inr ⟨g, 0, c, rfl, h.lt.1, h.lt.2, fun i hi => ?_⟩
  have := h.cells i (l.getD i T0) (by simp [List.getD, hi])
  rw [Nat.zero_add]
  exact this
theorem tiersBad (b : Nat) (s : ByteArray) (a : Nat) (w : World) (h : Ps w b s a true) :
    Calls Tryz.prog 84 #[.pointer (some ⟨b, 0, none⟩)] w fun e w' => ∃ (g c : Nat), e = .returned (.slice (some ⟨g, 0, none⟩) 0 c) ∧ OwnT w' w.heap.size g c [] ∧ Ps w' b s a true ∧ w.grownBy w' (some b) := by
  obtain ⟨⟨c0, c1, c2⟩, f1, f2⟩ := h.cells
  have hlt := h.lt
  have HP := hide h
  clear h
  go_enter Tryz.func84, Tryz.ntmps84
  go_wp2_with (fail)
  refine wp_loop_rounds 1 ?_
  rw [rounds_succ]
  go_wp2_with (fail)
  go_ret
  exact ⟨_, 0, rfl, Own2.new _ _ (by simp), (unhide HP).kept (below_alloc _ _), gb_of _ (below_alloc _ _)⟩
theorem tiersAny (b : Nat) (s : ByteArray) (a : Nat) (bad : Bool) (w : World) (h : Ps w b s a bad) (hs : s.size ≤ 100000) (ha : a ≤ s.size + 100) (ha' : bad = false → a ≤ s.size) :
    Calls Tryz.prog 84 #[.pointer (some ⟨b, 0, none⟩)] w fun e w' => ∃ (l : List T) (g c a' : Nat) (bad' : Bool), e = .returned (.slice (some ⟨g, 0, none⟩) l.length c) ∧ OwnT w' w.heap.size g c l ∧ (Ps w' b s a' bad' ∧ w.grownBy w' (some b)) ∧ l.length ≤ 7 ∧ (a' ≤ a ∨ a' ≤ s.size + 2) ∧
      (bad = true → bad' = true) ∧ (bad' = false → a' ≤ s.size ∧ tiersS 7 (left s a) = some (l, left s a')) ∧ (bad' = true → bad = true ∨ tiersS 7 (left s a) = none) := by
  cases bad with
  | false =>
    refine (tiersR b s a w h hs (ha' rfl)).mono ?_
    rintro e w' ⟨l, g, c, a', bad', h1, h2, h3, h4, h5, h6, h7⟩
    exact ⟨l, g, c, a', bad', h1, h2, h3, h4, .inr h5, fun h => (by cases h), h6, fun h => .inr (h7 h)⟩
  | true =>
    refine (tiersBad b s a w h).mono ?_
    rintro e w' ⟨g, c, h1, h2, h3, h4⟩
    exact ⟨[], g, c, a, true, h1, h2, ⟨h3, h4⟩, by simp, .inl (Nat.le_refl _), fun _ => rfl, fun h => (by cases h), fun _ => .inl rfl⟩
end Go.Proofs.YtnchgeiinkaefaaGreatDoor.Rule
end
