/-
  spec.l18Num.
-/
import Derived.Test.YtpamdnkngedmaaaDoorNumG
import Derived.WalkKit
import Derived.WalkLawsBesides
import Derived.Below
import Derived.WalkMore
import Derived.Outline
import Derived.Laws.IdiomStrings
import Derived.Deep.QuietTactic
import Derived.BigQuiet
import Derived.Deep.RegionHeld3
namespace Go.Proofs.YtpamdnkngedmaaaDoor.Num
set_option linter.unusedVariables false
open Go.RowKit

theorem hide {p : Prop} (h : p) : Hid p := h
theorem unhide {p : Prop} (h : Hid p) : p := h

/-- what l18Num tells -/
def numV (s : List UInt8) : Value := .tuple #[.int .i64 ((numL s).getD 0), .bool (numL s).isSome]
theorem numV_none {s : List UInt8} (h : numL s = none) : numV s = .tuple #[.int .i64 0, .bool false] := by unfold numV; rw [h]; rfl
theorem numV_some {s : List UInt8} {n : Int} (h : numL s = some n) : numV s = .tuple #[.int .i64 n, .bool true] := by unfold numV; rw [h]; rfl
theorem by_at {y : ByteArray} {k : Nat} (h : k < y.size) : y.data.toList[k]? = some y[k] := by
  have hl : y.data.toList.length = y.size := Array.length_toList
  rw [List.getElem?_eq_getElem (by omega)]; simp; rfl
theorem df_bad : ∀ (l : List UInt8) (acc k : Nat) (b : UInt8), l[k]? = some b → Lib.digitVal b = none → Lib.decFrom acc l = none
  | [], _, _, _, h, _ => by simp at h
  | a :: l, acc, 0, b, h, hb => by
    simp at h; subst h
    simp [Lib.decFrom, hb]
  | a :: l, acc, k + 1, b, h, hb => by
    simp only [List.getElem?_cons_succ] at h
    simp only [Lib.decFrom]
    cases Lib.digitVal a with
    | none => rfl
    | some d => exact df_bad l _ k b h hb
theorem df_more {l : List UInt8} {k m : Nat} {b : UInt8} (h : Lib.decFrom 0 (l.take k) = some m) (hb : l[k]? = some b) (h1 : 48 ≤ b.toNat) (h2 : b.toNat ≤ 57) : Lib.decFrom 0 (l.take (k + 1)) = some (m * 10 + (b.toNat - 48)) :=
  Lib.decFrom_take l k 0 m b (b.toNat - 48) h hb (by unfold Lib.digitVal; simp; omega)
theorem dv_none {b : UInt8} (h : ¬ (48 ≤ b.toNat ∧ b.toNat ≤ 57)) : Lib.digitVal b = none := by unfold Lib.digitVal; simp; omega

set_option maxHeartbeats 3200000 in
theorem num_pos (y : ByteArray) (w : World) (hs : y.size ≤ 2000000) (h0 : y.data.toList.head? ≠ some 45) :
    Calls Tryd.prog 33 #[.string y] w fun e w' => e = .returned (numV y.data.toList) ∧ Below w.heap.size w w' := by
  have hlen : y.data.toList.length = y.size := Array.length_toList
  generalize hv : numV y.data.toList = V
  have HNO : Hid ((y.size = 0 ∨ 17 < y.size ∨ y.data.toList.head? = some 48 ∧ 1 < y.size) → V = .tuple #[.int .i64 0, .bool false]) := hide (fun h => by
    rw [← hv]; apply numV_none; unfold numL; rw [if_neg h0, if_pos (by rw [hlen]; exact h)])
  have HYE : Hid (¬ (y.size = 0 ∨ 17 < y.size ∨ y.data.toList.head? = some 48 ∧ 1 < y.size) → (∀ m, Lib.decFrom 0 y.data.toList = some m → V = .tuple #[.int .i64 (m : Int), .bool true]) ∧ (Lib.decFrom 0 y.data.toList = none → V = .tuple #[.int .i64 0, .bool false])) := hide (fun h => by
    have e : numL y.data.toList = (Lib.decFrom 0 y.data.toList).map fun (n : Nat) => (n : Int) := by unfold numL; rw [if_neg h0, if_neg (by rw [hlen]; exact h)]
    refine ⟨fun m hm => ?_, fun hm => ?_⟩
    · rw [← hv]; apply numV_some; rw [e, hm]; rfl
    · rw [← hv]; apply numV_none; rw [e, hm]; rfl)
  clear hv
  by_cases e0 : y.size = 0
  · obtain rfl : V = .tuple #[.int .i64 0, .bool false] := unhide HNO (.inl e0)
    clear HNO HYE h0
    go_enter Tryd.func33, Tryd.ntmps33
    go_wp2
    go_ret2
    exact ⟨rfl, Below.refl _ _⟩
  have hz := by_at (y := y) (k := 0) (by omega)
  have h45 : ((y[0]'(by omega)).toNat : Int) ≠ 45 := by
    intro e; apply h0
    rw [List.head?_eq_getElem?, hz]
    congr 1; apply UInt8.toNat_inj.1; show _ = 45; omega
  have HZ := hide (show y.data.toList.head? = some (y[0]'(by omega)) from by rw [List.head?_eq_getElem?, hz])
  clear hz h0
  have hp0 : 0 < y.size := by omega
  have hpi : (0 : Int) < (y.size : Int) := by omega
  have b45 : (((y[0]'hp0).toNat : Int) == 45) = false := by simpa using h45
  by_cases e1 : 17 < y.size
  · obtain rfl : V = .tuple #[.int .i64 0, .bool false] := unhide HNO (.inr (.inl e1))
    clear HNO HYE HZ
    have j1 : (17 : Int) < (y.size : Int) := by omega
    go_enter Tryd.func33, Tryd.ntmps33
    go_wp2
    go_ret2
    exact ⟨rfl, Below.refl _ _⟩
  by_cases e2 : (y[0]'hp0).toNat = 48 ∧ 1 < y.size
  · obtain rfl : V = .tuple #[.int .i64 0, .bool false] := unhide HNO (.inr (.inr ⟨by rw [unhide HZ]; congr 1; apply UInt8.toNat_inj.1; show _ = 48; omega, e2.2⟩))
    have b48 : (((y[0]'hp0).toNat : Int) == 48) = true := by simp; omega
    have j2 : (1 : Int) < (y.size : Int) := by omega
    clear HNO HYE HZ
    go_enter Tryd.func33, Tryd.ntmps33
    go_wp2
    go_ret2
    exact ⟨rfl, Below.refl _ _⟩
  obtain ⟨hy1, hy2⟩ := unhide HYE (by
    rintro (h | h | ⟨h, h'⟩)
    · exact e0 h
    · exact e1 h
    · rw [unhide HZ] at h
      exact e2 ⟨by rw [Option.some.inj h]; rfl, h'⟩)
  have HY1 := hide hy1
  have HY2 := hide hy2
  clear hy1 hy2 HNO HYE HZ
  have key : (((y[0]'hp0).toNat : Int) == 48) = false ∨ (((y[0]'hp0).toNat : Int) == 48) = true ∧ ¬ (1 : Int) < (y.size : Int) := by
    by_cases h : (y[0]'hp0).toNat = 48
    · exact .inr ⟨by simp; omega, by omega⟩
    · exact .inl (by simp; omega)
  clear e2
  have j1 : ¬ (17 : Int) < (y.size : Int) := by omega
  rcases key with b48 | ⟨b48, j2⟩
  all_goals
    go_enter Tryd.func33, Tryd.ntmps33
    go_wp2
    go_loopw [5, 6] (fun n i wr => ∃ (k m : Nat), k ≤ y.size ∧ i = .int .i64 k ∧ n = .int .i64 m ∧ m < 100000000000000000 ∧ wr = w ∧ Hid (m < 10 ^ k) ∧ Hid (Lib.decFrom 0 (y.data.toList.take k) = some m)) (fun _ i _ => y.size - (intOf i).toNat)
    case atStart => exact ⟨0, 0, by omega, rfl, rfl, by omega, rfl, hide (by simp), hide (by simp [Lib.decFrom])⟩
    case round =>
      obtain ⟨k, m, hk, rfl, rfl, hm, rfl, hp, hd⟩ := hrel
      clear b45 b48
      by_cases hlt : k < y.size
      · have HB := hide (by_at hlt)
        have i1 : (k : Int) < (y.size : Int) := by omega
        by_cases hx : 48 ≤ y[k].toNat ∧ y[k].toNat ≤ 57
        · have x1 : ¬ ((y[k].toNat : Int) < 48) := by omega
          have x2 : ¬ (57 < (y[k].toNat : Int)) := by omega
          have x3 : (48 : Int) ≤ (y[k].toNat : Int) := by omega
          have x4 : (y[k].toNat : Int) ≤ 57 := by omega
          have HD := hide (df_more (unhide hd) (unhide HB) hx.1 hx.2)
          have hp1 : m * 10 + (y[k].toNat - 48) < 10 ^ (k + 1) := by have := unhide hp; rw [Nat.pow_succ]; omega
          have hp2 : (10 : Nat) ^ (k + 1) ≤ 10 ^ 17 := Nat.pow_le_pow_right (by omega) (by omega)
          have hm2 : m * 10 + (y[k].toNat - 48) < 100000000000000000 := by omega
          have HP1 := hide hp1
          clear hp1 hp2 hp hd
          go_wp2
          exact ⟨⟨k + 1, m * 10 + (y[k].toNat - 48), by omega, by go_num, by go_num, hm2, trivial, HP1, HD⟩, by simp [intOf]; omega⟩
        · obtain rfl := unhide HY2 (df_bad _ 0 k _ (unhide HB) (dv_none hx))
          clear HY1 HY2 hp hd
          by_cases hx1 : y[k].toNat < 48
          · have x1 : (y[k].toNat : Int) < 48 := by omega
            go_wp2
            go_ret2
            exact ⟨rfl, Below.refl _ _⟩
          · have x1 : ¬ ((y[k].toNat : Int) < 48) := by omega
            have x2 : 57 < (y[k].toNat : Int) := by omega
            go_wp2
            go_ret2
            exact ⟨rfl, Below.refl _ _⟩
      · obtain rfl : k = y.size := by omega
        obtain rfl := unhide HY1 m (by have := unhide hd; rwa [← hlen, List.take_length] at this)
        clear HY1 HY2 hp hd
        go_wp2
        go_ret2
        exact ⟨rfl, Below.refl _ _⟩

set_option maxHeartbeats 3200000 in
theorem num_neg (x : ByteArray) (w : World) (hs : x.size ≤ 2000000) (h0 : x.data.toList.head? = some 45) :
    Calls Tryd.prog 33 #[.string x] w fun e w' => e = .returned (numV x.data.toList) ∧ Below w.heap.size w w' := by
  have hxl : x.data.toList.length = x.size := Array.length_toList
  have hx1 : 1 ≤ x.size := by
    cases h : x.data.toList with
    | nil => rw [h] at h0; cases h0
    | cons a b => rw [h] at hxl; simp at hxl; omega
  have hx0 : (x[0]'(by omega)).toNat = 45 := by
    have := by_at (y := x) (k := 0) (by omega)
    rw [List.head?_eq_getElem?, this] at h0
    rw [Option.some.inj h0]; rfl
  have hxi : (0 : Int) < (x.size : Int) := by omega
  have b45 : (((x[0]'(by omega)).toNat : Int) == 45) = true := by simp; omega
  have hx2 : (1 : Int) ≤ (x.size : Int) := by omega
  obtain ⟨y, hE⟩ : ∃ y, x.extract 1 x.size = y := ⟨_, rfl⟩
  have hyd : y.data.toList = x.data.toList.tail := by
    rw [← hE, ByteArray.data_extract, Array.toList_extract, List.extract_eq_take_drop, ← hxl]
    cases x.data.toList with
    | nil => rfl
    | cons a b => simp
  have hlen : y.data.toList.length = y.size := Array.length_toList
  have hys : y.size = x.size - 1 := by rw [← hlen, hyd]; simp [hxl]
  generalize hv : numV x.data.toList = V
  have HNO : Hid ((y.size = 0 ∨ 17 < y.size ∨ y.data.toList.head? = some 48) → V = .tuple #[.int .i64 0, .bool false]) := hide (fun h => by
    rw [← hv]; apply numV_none; unfold numL; rw [if_pos h0, ← hyd, if_pos (by rw [hlen]; exact h)])
  have HYE : Hid (¬ (y.size = 0 ∨ 17 < y.size ∨ y.data.toList.head? = some 48) → (∀ m, Lib.decFrom 0 y.data.toList = some m → V = .tuple #[.int .i64 (-(m : Int)), .bool true]) ∧ (Lib.decFrom 0 y.data.toList = none → V = .tuple #[.int .i64 0, .bool false])) := hide (fun h => by
    have e : numL x.data.toList = (Lib.decFrom 0 y.data.toList).map fun (n : Nat) => -(n : Int) := by unfold numL; rw [if_pos h0, ← hyd, if_neg (by rw [hlen]; exact h)]
    refine ⟨fun m hm => ?_, fun hm => ?_⟩
    · rw [← hv]; apply numV_some; rw [e, hm]; rfl
    · rw [← hv]; apply numV_none; rw [e, hm]; rfl)
  have HYS := hide hys
  have hs' : y.size ≤ 2000000 := by omega
  clear hv hyd hys h0
  by_cases e0 : y.size = 0
  · obtain rfl : V = .tuple #[.int .i64 0, .bool false] := unhide HNO (.inl e0)
    clear HNO HYE
    go_enter Tryd.func33, Tryd.ntmps33
    go_wp2
    go_ret2
    exact ⟨rfl, Below.refl _ _⟩
  have hz := by_at (y := y) (k := 0) (by omega)
  have HZ := hide (show y.data.toList.head? = some (y[0]'(by omega)) from by rw [List.head?_eq_getElem?, hz])
  clear hz
  have hp0 : 0 < y.size := by omega
  have hpi : (0 : Int) < (y.size : Int) := by omega
  by_cases e1 : 17 < y.size
  · obtain rfl : V = .tuple #[.int .i64 0, .bool false] := unhide HNO (.inr (.inl e1))
    clear HNO HYE HZ
    have j1 : (17 : Int) < (y.size : Int) := by omega
    go_enter Tryd.func33, Tryd.ntmps33
    go_wp2
    go_ret2
    exact ⟨rfl, Below.refl _ _⟩
  by_cases e2 : (y[0]'hp0).toNat = 48
  · obtain rfl : V = .tuple #[.int .i64 0, .bool false] := unhide HNO (.inr (.inr (by rw [unhide HZ]; congr 1; apply UInt8.toNat_inj.1; show _ = 48; omega)))
    have b48 : (((y[0]'hp0).toNat : Int) == 48) = true := by simp; omega
    clear HNO HYE HZ
    by_cases j2 : (1 : Int) < (y.size : Int)
    · go_enter Tryd.func33, Tryd.ntmps33
      go_wp2
      go_ret2
      exact ⟨rfl, Below.refl _ _⟩
    · go_enter Tryd.func33, Tryd.ntmps33
      go_wp2
      go_ret2
      exact ⟨rfl, Below.refl _ _⟩
  obtain ⟨hy1, hy2⟩ := unhide HYE (by
    rintro (h | h | h)
    · exact e0 h
    · exact e1 h
    · rw [unhide HZ] at h
      exact e2 (by rw [Option.some.inj h]; rfl))
  have HY1 := hide hy1
  have HY2 := hide hy2
  clear hy1 hy2 HNO HYE HZ
  have b48 : (((y[0]'hp0).toNat : Int) == 48) = false := by simp; omega
  clear e2
  have j1 : ¬ (17 : Int) < (y.size : Int) := by omega
  go_enter Tryd.func33, Tryd.ntmps33
  go_wp2
  go_loopw [5, 6] (fun n i wr => ∃ (k m : Nat), k ≤ y.size ∧ i = .int .i64 k ∧ n = .int .i64 m ∧ m < 100000000000000000 ∧ wr = w ∧ Hid (m < 10 ^ k) ∧ Hid (Lib.decFrom 0 (y.data.toList.take k) = some m)) (fun _ i _ => y.size - (intOf i).toNat)
  case atStart => exact ⟨0, 0, by omega, rfl, rfl, by omega, rfl, hide (by simp), hide (by simp [Lib.decFrom])⟩
  case round =>
    obtain ⟨k, m, hk, rfl, rfl, hm, rfl, hp, hd⟩ := hrel
    clear b45 b48 hE
    by_cases hlt : k < y.size
    · have HB := hide (by_at hlt)
      have i1 : (k : Int) < (y.size : Int) := by omega
      by_cases hx : 48 ≤ y[k].toNat ∧ y[k].toNat ≤ 57
      · have x1 : ¬ ((y[k].toNat : Int) < 48) := by omega
        have x2 : ¬ (57 < (y[k].toNat : Int)) := by omega
        have x3 : (48 : Int) ≤ (y[k].toNat : Int) := by omega
        have x4 : (y[k].toNat : Int) ≤ 57 := by omega
        have HD := hide (df_more (unhide hd) (unhide HB) hx.1 hx.2)
        have hp1 : m * 10 + (y[k].toNat - 48) < 10 ^ (k + 1) := by have := unhide hp; rw [Nat.pow_succ]; omega
        have hp2 : (10 : Nat) ^ (k + 1) ≤ 10 ^ 17 := Nat.pow_le_pow_right (by omega) (by omega)
        have hm2 : m * 10 + (y[k].toNat - 48) < 100000000000000000 := by omega
        have HP1 := hide hp1
        clear hp1 hp2 hp hd
        go_wp2
        exact ⟨⟨k + 1, m * 10 + (y[k].toNat - 48), by omega, by go_num, by go_num, hm2, trivial, HP1, HD⟩, by simp [intOf]; omega⟩
      · obtain rfl := unhide HY2 (df_bad _ 0 k _ (unhide HB) (dv_none hx))
        clear HY1 HY2 hp hd
        by_cases hx1 : y[k].toNat < 48
        · have x1 : (y[k].toNat : Int) < 48 := by omega
          go_wp2
          go_ret2
          exact ⟨rfl, Below.refl _ _⟩
        · have x1 : ¬ ((y[k].toNat : Int) < 48) := by omega
          have x2 : 57 < (y[k].toNat : Int) := by omega
          go_wp2
          go_ret2
          exact ⟨rfl, Below.refl _ _⟩
    · obtain rfl : k = y.size := by omega
      obtain rfl := unhide HY1 m (by have := unhide hd; rwa [← hlen, List.take_length] at this)
      clear HY1 HY2 hp hd
      go_wp2
      go_ret2
      exact ⟨rfl, Below.refl _ _⟩

theorem numC (x : ByteArray) (w : World) (hs : x.size ≤ 2000000) :
    Calls Tryd.prog 33 #[.string x] w fun e w' => e = .returned (numV x.data.toList) ∧ Below w.heap.size w w' := by
  by_cases h : x.data.toList.head? = some 45
  · exact num_neg x w hs h
  · exact num_pos x w hs h
end Go.Proofs.YtpamdnkngedmaaaDoor.Num
