/-
  Texts of this proof laid together, in build order; each says of itself what it holds.
-/
import Derived.Test.YtnchgeiinkaefaaGreatDoorZak
import Derived.Test.YtnchgeiinkaefaaGreatDoorZag
import Derived.Test.YtnchgeiinkaefaaGreatDoorProg
import Derived.WalkKit
import Derived.WalkLawsBesides
import Derived.Below
import Derived.WalkMore
import Derived.Outline
import Derived.Lib.Strings
import Derived.Deep.OwnRows
import Derived.Test.YtnchgeiinkaefaaGreatDoorZah
import Derived.Test.YtnchgeiinkaefaaGreatDoorZac
import Derived.Sort.Walk0
import Derived.Test.YtnchgeiinkaefaaGreatDoorZaf
import Derived.Test.YtnchgeiinkaefaaGreatDoorZaa
import Derived.Test.YtnchgeiinkaefaaGreatDoorZab
section
/-
  spec.RuleRead.
-/
namespace Go.Proofs.YtnchgeiinkaefaaGreatDoor.Rule
set_option linter.unusedVariables false
open Go.RowKit
open Boxes (At hide unhide)
open Tiers (T T0)

/-- e is the expression whose text this is -/
def IsRule (t : List UInt8) (e : Ex) : Prop := okE e = true ∧ wr e = t ∧ t.length ≤ 600
theorem wr_ne (e : Ex) (h : allB e = true) : wr e ≠ [] := by
  obtain ⟨k, n, m, ks, ts⟩ := e
  rw [allB, Bool.and_eq_true] at h
  rw [wr]
  by_cases k1 : k = 1
  · rw [if_pos k1]; exact itoa_ne n
  rw [if_neg k1]
  by_cases k2 : k = 2
  · rw [if_pos k2]; subst k2; exact (letters_of (node_name h.1).2.1).2.2
  · rw [if_neg k2]; simp
theorem IsRule.ne {t : List UInt8} {e : Ex} (h : IsRule t e) : t ≠ [] := by rw [← h.2.1]; exact wr_ne e (ok_all h.1).1
theorem IsRule.read {t : List UInt8} {e : Ex} (h : IsRule t e) : exprS 8 t = some (e, []) := by
  obtain ⟨h1, h2, h3⟩ := ok_all h.1
  have := expr_read 8 e [] h1 h3 (.inl rfl)
  rwa [List.append_nil, h.2.1] at this
theorem IsRule.one {t : List UInt8} {e e' : Ex} (h : IsRule t e) (h' : IsRule t e') : e = e' := by
  have := h.read.symm.trans h'.read
  simp only [Option.some.injEq, Prod.mk.injEq, and_true] at this
  exact this
theorem isRule_of {t : List UInt8} {e : Ex} (h : textE e = t) (hn : t ≠ []) (hl : t.length ≤ 600) : IsRule t e := by
  unfold textE at h
  split at h
  · next ho => exact ⟨ho, h, hl⟩
  · exact absurd h.symm hn
theorem left_all (s : ByteArray) : left s 0 = s.data.toList := by unfold left; simp

/-- what RuleRead hands out -/
def ReadOut (w w' : World) (t : List UInt8) (v : Value) (ok : Bool) : Prop :=
  (ok = true → ∃ e d, IsRule t e ∧ EV w.heap.size w'.heap.size w' d v e) ∧ (ok = false → v = .agg #[.int .i64 0, .int .i64 0, .string ⟨#[]⟩, .slice none 0 0, .slice none 0 0] ∧ ∀ e, ¬ IsRule t e)

set_option maxRecDepth 20000 in
set_option maxHeartbeats 1600000 in
theorem readS (s : ByteArray) (w : World) (hs : s.size ≤ maxLen) :
    Calls Tryz.prog 35 #[.string s] w fun x w' => ∃ v ok, x = .returned (.tuple #[v, .bool ok]) ∧ ReadOut w w' s.data.toList v ok ∧ Below w.heap.size w w' := by
  unfold maxLen at hs
  have hlen : s.data.toList.length = s.size := Array.length_toList
  by_cases hl : 600 < s.size
  · have HN : Hid (∀ e, ¬ IsRule s.data.toList e) := hide (fun e h => by have := h.2.2; omega)
    have i1 : (600 : Int) < (s.size : Int) := by omega
    go_enter Tryz.func35, Tryz.ntmps35
    go_wp2_with (fail)
    have oo := At.new w zero5L.toArray 77
    obtain ⟨t0, _⟩ := oo 0 _ rfl
    obtain ⟨t1, _⟩ := oo 1 _ rfl
    obtain ⟨t2, _⟩ := oo 2 _ rfl
    obtain ⟨t3, _⟩ := oo 3 _ rfl
    obtain ⟨t4, _⟩ := oo 4 _ rfl
    exact bodyPost_ret (v := .tuple #[.agg #[.int .i64 0, .int .i64 0, .string ⟨#[]⟩, .slice none 0 0, .slice none 0 0], .bool false]) (by simp [results, Tryz.results35, go_sem, t0, t1, t2, t3, t4]) rfl ⟨_, false, rfl, ⟨fun h => (by cases h), fun _ => ⟨rfl, unhide HN⟩⟩, below_alloc _ _⟩
  · have i1 : ¬ ((600 : Int) < (s.size : Int)) := by omega
    have hP : Ps ((w.alloc (.cells zero5L.toArray 77)).alloc (.cells #[.string s, .int .i64 0, .bool false] 101)) (w.heap.size + 1) s 0 false := by
      have := At.new (w.alloc (.cells zero5L.toArray 77)) #[.string s, .int .i64 0, .bool false] 101
      rw [World.size_alloc] at this
      exact this
    have HP := hide hP
    clear hP
    go_enter Tryz.func35, Tryz.ntmps35
    go_wp2_with (fail)
    refine (exprC 8 (by omega) (w.heap.size + 1) s 0 1 _ (by omega) (unhide HP) (by omega) (by omega)).mono ?_
    rintro x w1 ⟨v, rfl, e, a1, bad, hEV, ⟨hP1, hG1⟩, ha1, hgo, hno⟩
    rw [left_all] at hgo hno
    obtain ⟨ka, kc, ta, tc, rfl⟩ := hEV.form
    have hz1 : w.heap.size + 2 ≤ w1.heap.size := by have := hG1.size; simpa using this
    have B1 : Below w.heap.size w w1 := ⟨hG1.os, hG1.tape, hG1.output, by have := hG1.size; simp at this; omega, fun j hj => by
      rw [hG1.block j (by simp; omega) (by simp; omega), Below.heap_alloc _ _ _ (by simp; omega), Below.heap_alloc _ _ _ (by omega)]⟩
    have bx : At w1 w.heap.size zero5L := (At.new w zero5L.toArray 77).kept (by
      rw [hG1.block _ (by simp; omega) (by simp), Below.heap_alloc _ _ _ (by simp)])
    have HEV := hide (hEV.mono (lo' := w.heap.size + 1) (by simp) (Nat.le_refl _))
    have HB1 := hide B1
    have BX := hide bx
    obtain ⟨⟨c0, c1, c2⟩, f1, f2⟩ := hP1.cells
    have HGO := hide hgo
    have HNO := hide hno
    clear hEV hP1 hG1 B1 bx hgo hno HP
    have hb1 : w.heap.size + 1 < w1.heap.size := by omega
    have hb0 : w.heap.size < w1.heap.size := by omega
    cases bad with
    | true =>
      have HN : Hid (∀ e, ¬ IsRule s.data.toList e) := hide (fun e h => by rw [h.read] at HNO; exact absurd (unhide HNO rfl) (by simp))
      obtain ⟨u0, y0⟩ := (unhide BX) 0 _ rfl
      obtain ⟨u1, y1⟩ := (unhide BX) 1 _ rfl
      obtain ⟨u2, y2⟩ := (unhide BX) 2 _ rfl
      obtain ⟨u3, y3⟩ := (unhide BX) 3 _ rfl
      obtain ⟨u4, y4⟩ := (unhide BX) 4 _ rfl
      go_wp2_with (fail)
      have oo := (put5_at (unhide BX) (.int .i64 0) (.int .i64 0) (.string ⟨#[]⟩) (.slice none 0 0) (.slice none 0 0)).kept (show ((put5 w1 w.heap.size (.int .i64 0) (.int .i64 0) (.string ⟨#[]⟩) (.slice none 0 0) (.slice none 0 0)).alloc (.cells #[.int .i64 e.kind, .int .i64 e.num, .string e.meter, .slice ka e.kids.length kc, .slice ta e.tiers.length tc] 77)).heap[w.heap.size]? = _ from Below.heap_alloc _ _ _ (by simp; omega))
      obtain ⟨t0, _⟩ := oo 0 _ rfl
      obtain ⟨t1, _⟩ := oo 1 _ rfl
      obtain ⟨t2, _⟩ := oo 2 _ rfl
      obtain ⟨t3, _⟩ := oo 3 _ rfl
      obtain ⟨t4, _⟩ := oo 4 _ rfl
      refine bodyPost_ret (v := .tuple #[.agg #[.int .i64 0, .int .i64 0, .string ⟨#[]⟩, .slice none 0 0, .slice none 0 0], .bool false]) (by simp [results, Tryz.results35, go_sem, t0, t1, t2, t3, t4]) rfl ⟨_, false, rfl, ⟨fun h => (by cases h), fun _ => ⟨rfl, unhide HN⟩⟩, ?_⟩
      refine Below.alloc ?_ (by simp; omega) _
      iterate 5 refine Below.setCell ?_ (by simp) _
      exact unhide HB1
    | false =>
      obtain ⟨_, hx⟩ := unhide HGO rfl
      have hwt := exprS_wt 8 _ _ _ hx
      have HX := hide hx
      clear HGO HNO hx
      go_wp2_with (fail)
      refine (textS 8 _ _ _ e _ (keptE (unhide HEV) (Nat.le_refl _) (below_alloc _ _)) (by simp) (by omega)).mono ?_
      rintro x w2 ⟨rfl, hb2⟩
      obtain ⟨q2, hB2, hz2⟩ := Boxes.box1 hb2
      have HB2 := hide (Kinds.below_trans (unhide HB1) hB2)
      have BX2 := hide ((unhide BX).below hB2 (by omega))
      have EX2 := hide q2
      have HEV2 := hide (keptE (unhide HEV) (Nat.le_refl _) hB2)
      have hlt2 : w.heap.size < w2.heap.size := by omega
      clear hb2 hB2 q2 c0 c1 c2 f1 f2 BX HEV HB1
      obtain ⟨u0, y0⟩ := (unhide BX2) 0 _ rfl
      obtain ⟨u1, y1⟩ := (unhide BX2) 1 _ rfl
      obtain ⟨u2, y2⟩ := (unhide BX2) 2 _ rfl
      obtain ⟨u3, y3⟩ := (unhide BX2) 3 _ rfl
      obtain ⟨u4, y4⟩ := (unhide BX2) 4 _ rfl
      obtain ⟨g0, _⟩ := (unhide EX2) 0 _ rfl
      obtain ⟨g1, _⟩ := (unhide EX2) 1 _ rfl
      obtain ⟨g2, _⟩ := (unhide EX2) 2 _ rfl
      obtain ⟨g3, _⟩ := (unhide EX2) 3 _ rfl
      obtain ⟨g4, _⟩ := (unhide EX2) 4 _ rfl
      by_cases ht : bytesOf (textE e) = s
      case neg =>
        have hx1 := Kinds.neB ht
        have HN : Hid (∀ e, ¬ IsRule s.data.toList e) := hide (fun e' h => by
          have := (unhide HX).symm.trans h.read
          simp only [Option.some.injEq, Prod.mk.injEq] at this
          rw [this.1] at ht
          apply ht
          unfold textE
          rw [if_pos h.1, h.2.1, bytes_self])
        go_wp2_with (fail)
        have oo := put5_at (unhide BX2) (.int .i64 0) (.int .i64 0) (.string ⟨#[]⟩) (.slice none 0 0) (.slice none 0 0)
        obtain ⟨t0, _⟩ := oo 0 _ rfl
        obtain ⟨t1, _⟩ := oo 1 _ rfl
        obtain ⟨t2, _⟩ := oo 2 _ rfl
        obtain ⟨t3, _⟩ := oo 3 _ rfl
        obtain ⟨t4, _⟩ := oo 4 _ rfl
        refine bodyPost_ret (v := .tuple #[.agg #[.int .i64 0, .int .i64 0, .string ⟨#[]⟩, .slice none 0 0, .slice none 0 0], .bool false]) (by simp [results, Tryz.results35, go_sem, t0, t1, t2, t3, t4]) rfl ⟨_, false, rfl, ⟨fun h => (by cases h), fun _ => ⟨rfl, unhide HN⟩⟩, ?_⟩
        iterate 5 refine Below.setCell ?_ (by simp) _
        exact unhide HB2
      have hx1 := Kinds.eqB ht
      have htl : textE e = s.data.toList := by rw [← ht]; rfl
      by_cases h0 : s.size = 0
      · have HN : Hid (∀ e, ¬ IsRule s.data.toList e) := hide (fun e' h => h.ne (List.length_eq_zero_iff.1 (by omega)))
        have he0 : s.toList.isEmpty = true := by
          rw [Lib.toList_data, List.length_eq_zero_iff.1 (show s.data.toList.length = 0 by omega)]; rfl
        clear ht htl
        go_wp2_with (fail)
        have oo := put5_at (unhide BX2) (.int .i64 0) (.int .i64 0) (.string ⟨#[]⟩) (.slice none 0 0) (.slice none 0 0)
        obtain ⟨t0, _⟩ := oo 0 _ rfl
        obtain ⟨t1, _⟩ := oo 1 _ rfl
        obtain ⟨t2, _⟩ := oo 2 _ rfl
        obtain ⟨t3, _⟩ := oo 3 _ rfl
        obtain ⟨t4, _⟩ := oo 4 _ rfl
        refine bodyPost_ret (v := .tuple #[.agg #[.int .i64 0, .int .i64 0, .string ⟨#[]⟩, .slice none 0 0, .slice none 0 0], .bool false]) (by simp [results, Tryz.results35, go_sem, t0, t1, t2, t3, t4]) rfl ⟨_, false, rfl, ⟨fun h => (by cases h), fun _ => ⟨rfl, unhide HN⟩⟩, ?_⟩
        iterate 5 refine Below.setCell ?_ (by simp) _
        exact unhide HB2
      · have HOK := hide (isRule_of htl (fun h => h0 (by rw [← hlen, h]; rfl)) (by omega))
        have he0 : s.toList.isEmpty = false := by
          rw [Lib.toList_data]
          cases hh : s.data.toList with
          | nil => rw [hh] at hlen; simp at hlen; omega
          | cons a b => rfl
        clear ht htl
        go_wp2_with (fail)
        have oo := put5_at (unhide BX2) (.int .i64 e.kind) (.int .i64 e.num) (.string e.meter) (.slice ka e.kids.length kc) (.slice ta e.tiers.length tc)
        obtain ⟨t0, _⟩ := oo 0 _ rfl
        obtain ⟨t1, _⟩ := oo 1 _ rfl
        obtain ⟨t2, _⟩ := oo 2 _ rfl
        obtain ⟨t3, _⟩ := oo 3 _ rfl
        obtain ⟨t4, _⟩ := oo 4 _ rfl
        have hgg := put5_gb w2 w.heap.size (.int .i64 e.kind) (.int .i64 e.num) (.string e.meter) (.slice ka e.kids.length kc) (.slice ta e.tiers.length tc)
        refine bodyPost_ret (v := .tuple #[.agg #[.int .i64 e.kind, .int .i64 e.num, .string e.meter, .slice ka e.kids.length kc, .slice ta e.tiers.length tc], .bool true]) (by simp [results, Tryz.results35, go_sem, t0, t1, t2, t3, t4]) rfl ⟨_, true, rfl, ⟨fun _ => ⟨e, 8, unhide HOK, ?_⟩, fun h => (by cases h)⟩, ?_⟩
        · exact ((unhide HEV2).kept (fun b h1 h2 => hgg.block b (by omega) (by simp; omega))).mono (by omega) (by simp; omega)
        iterate 5 refine Below.setCell ?_ (by simp) _
        exact unhide HB2
end Go.Proofs.YtnchgeiinkaefaaGreatDoor.Rule
end

section
/-
  Words that name an event: impl.UseId and spec.UseId answer the same, and the law on them.
-/
namespace Go.Proofs.YtnchgeiinkaefaaGreatDoor.Ids
set_option linter.unusedVariables false
open Go.RowKit

theorem hide {p : Prop} (h : p) : Hid p := h
theorem unhide {p : Prop} (h : Hid p) : p := h
theorem below_trans {w w1 w2 : World} (h : Below w.heap.size w w1) (k : Below w1.heap.size w1 w2) : Below w.heap.size w w2 := h.trans (k.mono h.size)

/-- a letter or a digit -/
def signB (c : UInt8) : Prop := (97 ≤ (c.toNat : Int) ∧ (c.toNat : Int) ≤ 122) ∨ (48 ≤ (c.toNat : Int) ∧ (c.toNat : Int) ≤ 57)
instance (c : UInt8) : Decidable (signB c) := by unfold signB; infer_instance
/-- UseId -/
def idB (s : ByteArray) : Bool := decide (1 ≤ s.size ∧ s.size ≤ 8) && s.data.toList.all fun c => decide (signB c)

theorem idB_size {s : ByteArray} (h : ¬ (1 ≤ s.size ∧ s.size ≤ 8)) : idB s = false := by unfold idB; rw [decide_eq_false h]; simp
theorem idB_sign {s : ByteArray} {k : Nat} (hk : k < s.size) (h : ¬ signB s[k]) : idB s = false := by
  have : (s.data.toList.all fun c => decide (signB c)) = false := by
    rw [List.all_eq_false]
    refine ⟨s[k], ?_, ?_⟩
    · exact Array.getElem_mem_toList (xs := s.data) hk
    · rw [decide_eq_false h]; simp
  unfold idB; rw [this]; simp
theorem idB_true {s : ByteArray} (h : 1 ≤ s.size ∧ s.size ≤ 8) (hl : ∀ j (hj : j < s.size), signB s[j]) : idB s = true := by
  have : (s.data.toList.all fun c => decide (signB c)) = true := by
    rw [List.all_eq_true]
    intro c hc
    obtain ⟨j, hj, rfl⟩ := List.getElem_of_mem hc
    exact decide_eq_true (hl j (by simpa using hj))
  unfold idB; rw [this, decide_eq_true h]; simp

set_option maxHeartbeats 1000000 in
/-- spec.UseId -/
theorem idS (s : ByteArray) (w : World) (hs : s.size ≤ maxLen) : Calls Tryz.prog 50 #[.string s] w fun e w' => e = .returned (.bool (idB s)) ∧ Below w.heap.size w w' := by
  unfold maxLen at hs
  by_cases hsz : 1 ≤ s.size ∧ s.size ≤ 8
  · obtain ⟨z1, z2⟩ := hsz
    have y1 : (1 : Int) ≤ (s.size : Int) := by omega
    have y2 : (s.size : Int) ≤ 8 := by omega
    generalize hr : idB s = r
    have HR := hide hr; clear hr
    go_enter Tryz.func50, Tryz.ntmps50
    go_wp2
    go_loop [3] (fun i => ∃ k : Nat, k ≤ s.size ∧ i = .int .i64 k ∧ Hid (∀ j (hj : j < s.size), j < k → signB s[j])) (fun i => s.size - (intOf i).toNat)
    case atStart => exact ⟨0, Nat.zero_le _, rfl, hide (fun j hj h => by omega)⟩
    case round =>
      obtain ⟨k, hk, rfl, hd⟩ := hrel
      by_cases hlt : k < s.size
      · by_cases hc : signB s[k]
        · have hd' : Hid (∀ j (hj : j < s.size), j < k + 1 → signB s[j]) := hide (fun j hj h => by
            by_cases e : j < k
            · exact unhide hd j hj e
            · obtain rfl : j = k := by omega
              exact hc)
          rcases hc with ⟨a1, a2⟩ | ⟨a1, a2⟩
          · go_wp2
            exact ⟨⟨k + 1, by omega, by go_num, hd'⟩, by simp [intOf]; omega⟩
          · have a3 : (s[k].toNat : Int) < 97 := by omega
            go_wp2
            exact ⟨⟨k + 1, by omega, by go_num, hd'⟩, by simp [intOf]; omega⟩
        · have hr : r = false := (unhide HR).symm.trans (idB_sign hlt hc)
          subst hr
          simp only [signB, not_or, not_and] at hc
          by_cases h48 : (s[k].toNat : Int) < 48
          · have h97 : (s[k].toNat : Int) < 97 := by omega
            clear hc
            go_wp2
            go_ret
            exact ⟨rfl, Below.refl _ _⟩
          · by_cases h97 : (s[k].toNat : Int) < 97
            · have h57 : 57 < (s[k].toNat : Int) := by omega
              clear hc
              go_wp2
              go_ret
              exact ⟨rfl, Below.refl _ _⟩
            · have h122 : 122 < (s[k].toNat : Int) := by omega
              have h57 : 57 < (s[k].toNat : Int) := by omega
              clear hc
              go_wp2
              go_ret
              exact ⟨rfl, Below.refl _ _⟩
      · have hr : r = true := (unhide HR).symm.trans (idB_true ⟨z1, z2⟩ (fun j hj => unhide hd j hj (by omega)))
        subst hr
        go_wp2
        go_ret
        exact ⟨rfl, Below.refl _ _⟩
  · rw [idB_size hsz]
    by_cases z1 : (s.size : Int) < 1
    · go_enter Tryz.func50, Tryz.ntmps50
      go_wp2
      go_ret
      exact ⟨rfl, Below.refl _ _⟩
    · have z2 : (8 : Int) < s.size := by omega
      go_enter Tryz.func50, Tryz.ntmps50
      go_wp2
      go_ret
      exact ⟨rfl, Below.refl _ _⟩

set_option maxHeartbeats 1000000 in
/-- impl.UseId -/
theorem idI (s : ByteArray) (w : World) (hs : s.size ≤ maxLen) : Calls Tryz.prog 93 #[.string s] w fun e w' => e = .returned (.bool (idB s)) ∧ Below w.heap.size w w' := by
  unfold maxLen at hs
  by_cases hsz : 1 ≤ s.size ∧ s.size ≤ 8
  · obtain ⟨z1, z2⟩ := hsz
    have y1 : (1 : Int) ≤ (s.size : Int) := by omega
    have y2 : (s.size : Int) ≤ 8 := by omega
    generalize hr : idB s = r
    have HR := hide hr; clear hr
    go_enter Tryz.func93, Tryz.ntmps93
    go_wp2
    go_loop [16] (fun i => ∃ k : Nat, k ≤ s.size ∧ i = .int .i64 k ∧ Hid (∀ j (hj : j < s.size), j < k → signB s[j])) (fun i => s.size - (intOf i).toNat)
    case atStart => exact ⟨0, Nat.zero_le _, rfl, hide (fun j hj h => by omega)⟩
    case round =>
      obtain ⟨k, hk, rfl, hd⟩ := hrel
      by_cases hlt : k < s.size
      · by_cases hc : signB s[k]
        · have hd' : Hid (∀ j (hj : j < s.size), j < k + 1 → signB s[j]) := hide (fun j hj h => by
            by_cases e : j < k
            · exact unhide hd j hj e
            · obtain rfl : j = k := by omega
              exact hc)
          rcases hc with ⟨a1, a2⟩ | ⟨a1, a2⟩
          · have a3 : (48 : Int) ≤ s[k].toNat := by omega
            have a4 : (57 : Int) < s[k].toNat := by omega
            go_wp2
            exact ⟨⟨k + 1, by omega, by go_num, hd'⟩, by simp [intOf]; omega⟩
          · have a3 : (s[k].toNat : Int) < 97 := by omega
            go_wp2
            exact ⟨⟨k + 1, by omega, by go_num, hd'⟩, by simp [intOf]; omega⟩
        · have hr : r = false := (unhide HR).symm.trans (idB_sign hlt hc)
          subst hr
          simp only [signB, not_or, not_and] at hc
          by_cases h48 : (s[k].toNat : Int) < 48
          · have h97 : (s[k].toNat : Int) < 97 := by omega
            clear hc
            go_wp2
            go_ret
            exact ⟨rfl, Below.refl _ _⟩
          · by_cases h97 : (s[k].toNat : Int) < 97
            · have h57 : (!decide ((s[k].toNat : Int) ≤ 57)) = true := by rw [decide_eq_false (by omega)]; rfl
              clear hc
              go_wp2
              go_ret
              exact ⟨rfl, Below.refl _ _⟩
            · have h122 : (!decide ((s[k].toNat : Int) ≤ 122)) = true := by rw [decide_eq_false (by omega)]; rfl
              have h57 : (!decide ((s[k].toNat : Int) ≤ 57)) = true := by rw [decide_eq_false (by omega)]; rfl
              clear hc
              go_wp2
              go_ret
              exact ⟨rfl, Below.refl _ _⟩
      · have hr : r = true := (unhide HR).symm.trans (idB_true ⟨z1, z2⟩ (fun j hj => unhide hd j hj (by omega)))
        subst hr
        go_wp2
        go_ret
        exact ⟨rfl, Below.refl _ _⟩
  · rw [idB_size hsz]
    by_cases z1 : (s.size : Int) < 1
    · go_enter Tryz.func93, Tryz.ntmps93
      go_wp2
      go_ret
      exact ⟨rfl, Below.refl _ _⟩
    · have z2 : (8 : Int) < s.size := by omega
      go_enter Tryz.func93, Tryz.ntmps93
      go_wp2
      go_ret
      exact ⟨rfl, Below.refl _ _⟩

end Go.Proofs.YtnchgeiinkaefaaGreatDoor.Ids
end

section
/-
  Lists of events that are right: impl.UseOk and spec.UseOk answer the same.
-/
namespace Go.Proofs.YtnchgeiinkaefaaGreatDoor.Evs
set_option linter.unusedVariables false
open Go.RowKit

/-- an event that is right -/
def rightE (e : E) : Bool := Ids.idB e.1 && (Kinds.nameB e.2.1 && decide (0 ≤ e.2.2 ∧ e.2.2 ≤ 1000000000))
/-- byte by byte before -/
abbrev ltS (s t : ByteArray) : Bool := Op.bytesLess s.toList t.toList

theorem ltS_total (s t : ByteArray) : (ltS t s || t.toList == s.toList) = !ltS s t := by
  unfold ltS
  rw [Proofs.bytesLess_eq, Proofs.bytesLess_eq]
  by_cases h1 : s.toList < t.toList
  · have h2 : ¬ t.toList < s.toList := fun h => List.lt_irrefl _ (List.lt_trans h1 h)
    have h3 : t.toList ≠ s.toList := fun h => by rw [h] at h1; exact List.lt_irrefl _ h1
    simp [h1, h2, h3]
  · by_cases h3 : t.toList = s.toList
    · simp [h3]
    · have h2 : t.toList < s.toList := by
        have hle : t.toList ≤ s.toList := h1
        rcases Decidable.em (t.toList < s.toList) with h | h
        · exact h
        · exact absurd (List.le_antisymm hle h) h3
      simp [h1, h2]

/-- event number i is not right, or not behind the one before -/
def badAt (l : List E) (i : Nat) : Bool := !rightE (l.getD i E0) || (decide (0 < i) && !ltS (l.getD (i - 1) E0).1 (l.getD i E0).1)
/-- UseOk -/
def okB (l : List E) : Bool := decide (l.length ≤ 20) && (List.range l.length).all fun i => !badAt l i

theorem okB_long {l : List E} (h : 20 < l.length) : okB l = false := by unfold okB; rw [decide_eq_false (by omega)]; rfl
theorem okB_bad {l : List E} {k : Nat} (hk : k < l.length) (h : badAt l k = true) : okB l = false := by
  have : ((List.range l.length).all fun i => !badAt l i) = false := by
    rw [List.all_eq_false]
    exact ⟨k, by simpa using hk, by simp [h]⟩
  unfold okB; rw [this]; simp
theorem okB_true {l : List E} (h : l.length ≤ 20) (hl : ∀ i, i < l.length → badAt l i = false) : okB l = true := by
  have : ((List.range l.length).all fun i => !badAt l i) = true := by
    rw [List.all_eq_true]
    intro i hi
    rw [hl i (by simpa using hi)]; rfl
  unfold okB; rw [this, decide_eq_true h]; rfl

/-- spec.l3Event -/
theorem rightS (e : E) (w : World) (h1 : e.1.size ≤ maxLen) (h2 : e.2.1.size ≤ maxLen) :
    Calls Tryz.prog 34 #[eV e] w fun x w' => x = .returned (.bool (rightE e)) ∧ Below w.heap.size w w' := by
  obtain ⟨s, m, q⟩ := e
  simp only [eV, rightE] at *
  generalize hi : Ids.idB s = bi
  have HI := hide hi; clear hi
  generalize hm : Kinds.nameB m = bm
  have HM := hide hm; clear hm
  generalize hq : decide (0 ≤ q ∧ q ≤ 1000000000) = bq
  have HQ := hide hq; clear hq
  go_enter Tryz.func34, Tryz.ntmps34
  go_wp2_with (fail)
  refine (Ids.idS s _ h1).mono ?_
  rintro e w1 ⟨rfl, hb1⟩
  rw [unhide HI]
  have c1 : w1.cell? ⟨w.heap.size, 1, none⟩ = some (.string m) := (hb1.cell (p := ⟨w.heap.size, 1, none⟩) (by simp)).trans (by simp)
  have c2 : w1.cell? ⟨w.heap.size, 2, none⟩ = some (.int .i64 q) := (hb1.cell (p := ⟨w.heap.size, 2, none⟩) (by simp)).trans (by simp)
  have z1 : w.heap.size < w1.heap.size := Nat.lt_of_lt_of_le (by simp) hb1.size
  have HB : Hid (Below w.heap.size w w1) := hide (below_trans ((Below.refl _ _).alloc (Nat.le_refl _) _) hb1)
  clear hb1
  cases bi with
  | false =>
    go_wp2
    go_ret
    exact ⟨rfl, unhide HB⟩
  | true =>
    go_wp2_with (fail)
    refine (Kinds.nameS m _ h2).mono ?_
    rintro e w2 ⟨rfl, hb2⟩
    rw [unhide HM]
    have d2 : w2.cell? ⟨w.heap.size, 2, none⟩ = some (.int .i64 q) := (hb2.cell (p := ⟨w.heap.size, 2, none⟩) z1).trans c2
    have HB2 : Hid (Below w.heap.size w w2) := hide (below_trans (unhide HB) hb2)
    clear hb2 HB c1 c2
    cases bm with
    | false =>
      go_wp2
      go_ret
      exact ⟨rfl, unhide HB2⟩
    | true =>
      by_cases q0 : 0 ≤ q
      · have e : bq = decide (q ≤ 1000000000) := (unhide HQ).symm.trans (by simp [q0])
        subst e
        go_wp2
        go_ret
        exact ⟨rfl, unhide HB2⟩
      · have e : bq = false := (unhide HQ).symm.trans (by simp [q0])
        subst e
        go_wp2
        go_ret
        exact ⟨rfl, unhide HB2⟩

/-- impl.useQty -/
theorem qtyI (q : Int) (w : World) : Calls Tryz.prog 94 #[.int .i64 q] w fun x w' => x = .returned (.bool (decide (0 ≤ q ∧ q ≤ 1000000000))) ∧ w' = w := by
  by_cases q0 : 0 ≤ q
  · have e : decide (0 ≤ q ∧ q ≤ 1000000000) = decide (q ≤ 1000000000) := by simp [q0]
    rw [e]
    clear e
    go_enter Tryz.func94, Tryz.ntmps94
    go_wp2
    go_ret
    exact ⟨rfl, rfl⟩
  · have e : decide (0 ≤ q ∧ q ≤ 1000000000) = false := by simp [q0]
    rw [e]
    clear e
    go_enter Tryz.func94, Tryz.ntmps94
    go_wp2
    go_ret
    exact ⟨rfl, rfl⟩

/-- impl.eventRight -/
theorem rightI (e : E) (w : World) (h1 : e.1.size ≤ maxLen) (h2 : e.2.1.size ≤ maxLen) :
    Calls Tryz.prog 61 #[eV e] w fun x w' => x = .returned (.bool (rightE e)) ∧ Below w.heap.size w w' := by
  obtain ⟨s, m, q⟩ := e
  simp only [eV, rightE] at *
  generalize hi : Ids.idB s = bi
  have HI := hide hi; clear hi
  generalize hm : Kinds.nameB m = bm
  have HM := hide hm; clear hm
  generalize hq : decide (0 ≤ q ∧ q ≤ 1000000000) = bq
  have HQ := hide hq; clear hq
  go_enter Tryz.func61, Tryz.ntmps61
  go_wp2_with (fail)
  refine (Ids.idI s _ h1).mono ?_
  rintro e w1 ⟨rfl, hb1⟩
  rw [unhide HI]
  have c1 : w1.cell? ⟨w.heap.size, 1, none⟩ = some (.string m) := (hb1.cell (p := ⟨w.heap.size, 1, none⟩) (by simp)).trans (by simp)
  have c2 : w1.cell? ⟨w.heap.size, 2, none⟩ = some (.int .i64 q) := (hb1.cell (p := ⟨w.heap.size, 2, none⟩) (by simp)).trans (by simp)
  have z1 : w.heap.size < w1.heap.size := Nat.lt_of_lt_of_le (by simp) hb1.size
  have HB : Hid (Below w.heap.size w w1) := hide (below_trans ((Below.refl _ _).alloc (Nat.le_refl _) _) hb1)
  clear hb1
  cases bi with
  | false =>
    go_wp2
    go_ret
    exact ⟨rfl, unhide HB⟩
  | true =>
    go_wp2_with (fail)
    refine (Kinds.nameI m _ h2).mono ?_
    rintro e w2 ⟨rfl, hb2⟩
    rw [unhide HM]
    have d2 : w2.cell? ⟨w.heap.size, 2, none⟩ = some (.int .i64 q) := (hb2.cell (p := ⟨w.heap.size, 2, none⟩) z1).trans c2
    have HB2 : Hid (Below w.heap.size w w2) := hide (below_trans (unhide HB) hb2)
    clear hb2 HB c1 c2
    cases bm with
    | false =>
      go_wp2
      go_ret
      exact ⟨rfl, unhide HB2⟩
    | true =>
      go_wp2_with (fail)
      refine (qtyI q _).mono ?_
      rintro e w3 ⟨rfl, rfl⟩
      rw [unhide HQ]
      go_wp2
      go_ret
      exact ⟨rfl, unhide HB2⟩
end Go.Proofs.YtnchgeiinkaefaaGreatDoor.Evs
end

section
/-
  Lists of events that are right: impl.rightInOrder at events, and impl.UseOk.
-/
namespace Go.Proofs.YtnchgeiinkaefaaGreatDoor.Evs
set_option linter.unusedVariables false
open Go.RowKit RegIn

theorem bad_next {l : List E} {k : Nat} (h : ∀ j, j < k → badAt l j = false) (hk : badAt l k = false) : ∀ j, j < k + 1 → badAt l j = false := fun j hj => by
  by_cases e : j < k
  · exact h j e
  · obtain rfl : j = k := by omega
    exact hk

theorem calledI (s m : ByteArray) (q : Int) (W : World) : Calls Tryz.prog 62 #[.agg #[.string s, .string m, .int .i64 q]] W fun x w' => x = .returned (.string s) ∧ Below W.heap.size W w' := by
  go_enter Tryz.func62, Tryz.ntmps62
  go_wp2
  go_ret
  exact ⟨rfl, (Below.refl _ _).alloc (Nat.le_refl _) _⟩

/-- the worlds of a round: the round's own event at B, the one ahead of it at p in block b -/
def SW (w : World) (B b p : Nat) (s m : ByteArray) (q : Int) (t m' : ByteArray) (q' : Int) (w2 : World) : Prop :=
  w2.cell? ⟨B, 0, none⟩ = some (.string s) ∧ w2.cell? ⟨B, 1, none⟩ = some (.string m) ∧ w2.cell? ⟨B, 2, none⟩ = some (.int .i64 q) ∧ w2.cell? ⟨b, p, none⟩ = some (.string t) ∧ w2.cell? ⟨b, p + 1, none⟩ = some (.string m') ∧ w2.cell? ⟨b, p + 2, none⟩ = some (.int .i64 q') ∧ B < w2.heap.size ∧ b < w2.heap.size ∧ Below w.heap.size w w2
theorem SW.kept {w : World} {B b p : Nat} {s m : ByteArray} {q : Int} {t m' : ByteArray} {q' : Int} {w2 w3 : World} (h : SW w B b p s m q t m' q' w2) (hb : Below w2.heap.size w2 w3) : SW w B b p s m q t m' q' w3 := by
  obtain ⟨a1, a2, a3, a4, a5, a6, a7, a8, a9⟩ := h
  exact ⟨(hb.cell (p := ⟨B, 0, none⟩) a7).trans a1, (hb.cell (p := ⟨B, 1, none⟩) a7).trans a2, (hb.cell (p := ⟨B, 2, none⟩) a7).trans a3, (hb.cell (p := ⟨b, p, none⟩) a8).trans a4, (hb.cell (p := ⟨b, p + 1, none⟩) a8).trans a5, (hb.cell (p := ⟨b, p + 2, none⟩) a8).trans a6, Nat.lt_of_lt_of_le a7 hb.size, Nat.lt_of_lt_of_le a8 hb.size, below_trans a9 hb⟩

set_option maxHeartbeats 2000000 in
/-- impl.rightInOrder at events -/
theorem ordI (v : Value) (l : List E) (w : World) (h : ER w v l) (hl : l.length ≤ 1048576) (hs : ∀ u ∈ l, u.1.size ≤ maxLen ∧ u.2.1.size ≤ maxLen) :
    Calls Tryz.prog 60 #[v, .int .i64 20, .func (.func 61) #[] #[], .func (.func 62) #[] #[]] w fun e w' => e = .returned (.bool (okB l)) ∧ Below w.heap.size w w' := by
  by_cases h20 : 20 < l.length
  · rw [okB_long h20]
    obtain ⟨a, c, rfl⟩ := h.slice
    have y : (20 : Int) < l.length := by omega
    clear h
    go_enter Tryz.func60, Tryz.ntmps60
    go_wp2
    go_ret
    exact ⟨rfl, Below.refl _ _⟩
  have y : (l.length : Int) ≤ 20 := by omega
  rcases h with ⟨rfl, a, c, rfl⟩ | ⟨b, o, cap, rfl, hc⟩
  · go_enter Tryz.func60, Tryz.ntmps60
    go_wp2
    refine wp_loop_rounds 1 ?_
    rw [rounds_succ]
    go_wp2
    go_ret
    exact ⟨rfl, Below.refl _ _⟩
  · have HC := hide hc
    have hbs := hc.1
    clear hc
    generalize hr : okB l = r
    have HR := hide hr; clear hr
    go_enter Tryz.func60, Tryz.ntmps60
    go_wp2
    go_loopw [17] (fun i wr => ∃ k : Nat, k ≤ l.length ∧ i = .int .i64 k ∧ Hid (∀ j, j < k → badAt l j = false) ∧ Hid (Below w.heap.size w wr)) (fun i _ => l.length - (intOf i).toNat)
    case atStart => exact ⟨0, Nat.zero_le _, rfl, hide (fun j hj => by omega), hide (Below.refl _ _)⟩
    case round =>
      obtain ⟨k, hk, rfl, hd, hb⟩ := hrel
      by_cases hlt : k < l.length
      · obtain ⟨c0, c1, c2⟩ := ((unhide HC).kept (unhide hb)).2 k hlt
        obtain ⟨hsz, hmz⟩ : (l.getD k E0).1.size ≤ maxLen ∧ (l.getD k E0).2.1.size ≤ maxLen := hs _ (by simp [List.getD, hlt])
        have i1 : (0 : Int) ≤ (k : Int) := by omega
        have i2 : (k : Int) < (l.length : Int) := by omega
        have z1 : b < wr.heap.size := Nat.lt_of_lt_of_le hbs (unhide hb).size
        have HBA : Hid (badAt l k = (!rightE (l.getD k E0) || (decide (0 < k) && !ltS (l.getD (k - 1) E0).1 (l.getD k E0).1))) := hide rfl
        have k1 : k - 1 < l.length := by omega
        obtain ⟨p0, p1, p2⟩ := ((unhide HC).kept (unhide hb)).2 (k - 1) k1
        generalize hx : l.getD k E0 = x at *
        generalize hp : l.getD (k - 1) E0 = y' at *
        clear hx hp
        obtain ⟨s, m, q⟩ := x
        obtain ⟨t, m', q'⟩ := y'
        simp only at c0 c1 c2 p0 p1 p2 hsz hmz HBA
        have HCA : Hid (∀ W : World, Calls Tryz.prog 61 #[.agg #[.string s, .string m, .int .i64 q]] W fun x w' => x = .returned (.bool (rightE (s, m, q))) ∧ Below W.heap.size W w') := hide (fun W => rightI (s, m, q) W hsz hmz)
        generalize hR : rightE (s, m, q) = rt at *
        clear hR
        generalize hS : SW w wr.heap.size b (o + (k - 1) * 3) s m q t m' q' = S
        have HSI : Hid (∀ w2 : World, SW w wr.heap.size b (o + (k - 1) * 3) s m q t m' q' w2 → S w2) := hide (fun w2 h => by rw [← hS]; exact h)
        have HSE : Hid (∀ w2 : World, S w2 → SW w wr.heap.size b (o + (k - 1) * 3) s m q t m' q' w2) := hide (fun w2 h => by rw [← hS] at h; exact h)
        clear hS
        have g0 : ∀ g : In S, g.x.cell? ⟨wr.heap.size, 0, none⟩ = some (.string s) := fun g => (unhide HSE _ g.h).1
        have g1 : ∀ g : In S, g.x.cell? ⟨wr.heap.size, 1, none⟩ = some (.string m) := fun g => (unhide HSE _ g.h).2.1
        have g2 : ∀ g : In S, g.x.cell? ⟨wr.heap.size, 2, none⟩ = some (.int .i64 q) := fun g => (unhide HSE _ g.h).2.2.1
        have g3 : ∀ g : In S, g.x.cell? ⟨b, o + (k - 1) * 3, none⟩ = some (.string t) := fun g => (unhide HSE _ g.h).2.2.2.1
        have g4 : ∀ g : In S, g.x.cell? ⟨b, o + (k - 1) * 3 + 1, none⟩ = some (.string m') := fun g => (unhide HSE _ g.h).2.2.2.2.1
        have g5 : ∀ g : In S, g.x.cell? ⟨b, o + (k - 1) * 3 + 2, none⟩ = some (.int .i64 q') := fun g => (unhide HSE _ g.h).2.2.2.2.2.1
        have HCB : Hid (∀ g : In S, Calls Tryz.prog 61 #[.agg #[.string s, .string m, .int .i64 q]] g.x fun x w' => x = .returned (.bool rt) ∧ S w') := hide (fun g => (unhide HCA g.x).mono (fun x w' ⟨hx, hb⟩ => ⟨hx, unhide HSI _ ((unhide HSE _ g.h).kept hb)⟩))
        have HCC : Hid (∀ (s m : ByteArray) (q : Int) (g : In S), Calls Tryz.prog 62 #[.agg #[.string s, .string m, .int .i64 q]] g.x fun x w' => x = .returned (.string s) ∧ S w') := hide (fun s m q g => (calledI s m q g.x).mono (fun x w' ⟨hx, hb⟩ => ⟨hx, unhide HSI _ ((unhide HSE _ g.h).kept hb)⟩))
        clear HCA
        cases rt with
        | false =>
          have hr : r = false := (unhide HR).symm.trans (okB_bad hlt ((unhide HBA).trans (by simp)))
          subst hr
          go_wp2
          refine wp_region_in S (by kernel_rfl) (by kernel_rfl) (unhide HSI _ ⟨?_, ?_, ?_, ?_, ?_, ?_, ?_, ?_, ?_⟩) ?_
          · go_keep
          · go_keep
          · go_keep
          · go_keep
          · go_keep
          · go_keep
          · simp
          · simp; omega
          · exact below_drewN' ((unhide hb).alloc (unhide hb).size _) 1
          intro hne
          repeat (go_big_quiet_step (first | exact call_in _ (unhide HCB _) | exact call_in _ (unhide HCC _ _ _ _)))
          refine wpQuiet_nil ?_
          rintro _ ⟨g, rfl⟩
          have HG := hide (unhide HSE _ g.h).2.2.2.2.2.2.2.2
          go_wp2
          go_ret
          exact ⟨rfl, unhide HG⟩
        | true =>
          by_cases k0 : k = 0
          · have hd' : Hid (∀ j, j < k + 1 → badAt l j = false) := hide (bad_next (unhide hd) ((unhide HBA).trans (by simp [k0])))
            have kn : decide (0 < k) = false := by simp [k0]
            clear k0
            go_wp2
            refine wp_region_in S (by kernel_rfl) (by kernel_rfl) (unhide HSI _ ⟨?_, ?_, ?_, ?_, ?_, ?_, ?_, ?_, ?_⟩) ?_
            · go_keep
            · go_keep
            · go_keep
            · go_keep
            · go_keep
            · go_keep
            · simp
            · simp; omega
            · exact below_drewN' ((unhide hb).alloc (unhide hb).size _) 1
            intro hne
            repeat (go_big_quiet_step (first | exact call_in _ (unhide HCB _) | exact call_in _ (unhide HCC _ _ _ _)))
            refine wpQuiet_nil ?_
            rintro _ ⟨g, rfl⟩
            have HG := hide (unhide HSE _ g.h).2.2.2.2.2.2.2.2
            go_wp2
            exact ⟨⟨k + 1, by omega, by go_num, hd', HG⟩, by simp [intOf]; omega⟩
          · have kn : 0 < k := by omega
            have kk : (0 : Int) < (k : Int) := by omega
            have j1 : (0 : Int) ≤ (k : Int) - 1 := by omega
            have j2 : (k : Int) - 1 < (l.length : Int) := by omega
            have hwr : IntKind.i64.wrap ((k : Int) - 1) = (k : Int) - 1 := IntWalk.i64_in _ ⟨by omega, by omega⟩
            have htn : ((k : Int) - 1).toNat = k - 1 := by omega
            cases hlx : ltS t s with
            | false =>
              have hr : r = false := (unhide HR).symm.trans (okB_bad hlt ((unhide HBA).trans (by simp [kn, hlx])))
              subst hr
              go_wp2
              refine wp_region_in S (by kernel_rfl) (by kernel_rfl) (unhide HSI _ ⟨?_, ?_, ?_, ?_, ?_, ?_, ?_, ?_, ?_⟩) ?_
              · go_keep
              · go_keep
              · go_keep
              · go_keep
              · go_keep
              · go_keep
              · simp
              · simp; omega
              · exact below_drewN' ((unhide hb).alloc (unhide hb).size _) 1
              intro hne
              repeat (go_big_quiet_step (first | exact call_in _ (unhide HCB _) | exact call_in _ (unhide HCC _ _ _ _)))
              refine wpQuiet_nil ?_
              rintro _ ⟨g, rfl⟩
              have HG := hide (unhide HSE _ g.h).2.2.2.2.2.2.2.2
              go_wp2
              go_ret
              exact ⟨rfl, unhide HG⟩
            | true =>
              have hd' : Hid (∀ j, j < k + 1 → badAt l j = false) := hide (bad_next (unhide hd) ((unhide HBA).trans (by simp [kn, hlx])))
              go_wp2
              refine wp_region_in S (by kernel_rfl) (by kernel_rfl) (unhide HSI _ ⟨?_, ?_, ?_, ?_, ?_, ?_, ?_, ?_, ?_⟩) ?_
              · go_keep
              · go_keep
              · go_keep
              · go_keep
              · go_keep
              · go_keep
              · simp
              · simp; omega
              · exact below_drewN' ((unhide hb).alloc (unhide hb).size _) 1
              intro hne
              repeat (go_big_quiet_step (first | exact call_in _ (unhide HCB _) | exact call_in _ (unhide HCC _ _ _ _)))
              refine wpQuiet_nil ?_
              rintro _ ⟨g, rfl⟩
              have HG := hide (unhide HSE _ g.h).2.2.2.2.2.2.2.2
              go_wp2
              exact ⟨⟨k + 1, by omega, by go_num, hd', HG⟩, by simp [intOf]; omega⟩
      · have hr : r = true := (unhide HR).symm.trans (okB_true (by omega) (fun j hj => unhide hd j (by omega)))
        subst hr
        go_wp2
        go_ret
        exact ⟨rfl, unhide hb⟩

/-- impl.UseOk -/
theorem okI (v : Value) (l : List E) (w : World) (h : ER w v l) (hl : l.length ≤ 1048576) (hs : ∀ u ∈ l, u.1.size ≤ maxLen ∧ u.2.1.size ≤ maxLen) :
    Calls Tryz.prog 41 #[v] w fun e w' => e = .returned (.bool (okB l)) ∧ Below w.heap.size w w' := by
  have HO := hide (ordI v l w h hl hs)
  generalize okB l = z at HO ⊢
  clear h hs
  go_enter Tryz.func41, Tryz.ntmps41
  go_wp2_with (fail)
  refine (unhide HO).mono ?_
  rintro e w' ⟨rfl, hb⟩
  go_wp2
  go_ret
  exact ⟨rfl, hb⟩
end Go.Proofs.YtnchgeiinkaefaaGreatDoor.Evs
end

section
/-
  Lines and tariffs that are right: what that is.
-/
namespace Go.Proofs.YtnchgeiinkaefaaGreatDoor.Bill
set_option linter.unusedVariables false
open Go.RowKit Evs
open Rule (IsRule ReadOut)
open Kinds (nameB)

/-- whether a text is a rule's -/
noncomputable def ruleB (t : ByteArray) : Bool := @decide (∃ e, IsRule t.data.toList e) (Classical.propDecidable _)
/-- whether a line is right -/
noncomputable def lineB (x : E) : Bool := nameB x.1 && decide (0 ≤ x.2.2 ∧ x.2.2 ≤ 5000) && ruleB x.2.1


theorem rule_outS {w w' : World} {t : ByteArray} {v : Value} {ok : Bool} (h : ReadOut w w' t.data.toList v ok) : ok = ruleB t := by
  unfold ruleB
  cases ok with
  | true =>
    obtain ⟨e, _, h1, _⟩ := h.1 rfl
    exact (@decide_eq_true _ (Classical.propDecidable _) ⟨e, h1⟩).symm
  | false => exact (@decide_eq_false _ (Classical.propDecidable _) (fun ⟨e, he⟩ => (h.2 rfl).2 e he)).symm

noncomputable def badL (l : List E) (i : Nat) : Bool := !lineB (l.getD i E0) || (decide (0 < i) && !ltS (l.getD (i - 1) E0).1 (l.getD i E0).1)
/-- a tariff is right -/
noncomputable def okL (l : List E) : Bool := decide (l.length ≤ 6) && (List.range l.length).all fun i => !badL l i
theorem okL_long {l : List E} (h : 6 < l.length) : okL l = false := by unfold okL; rw [decide_eq_false (by omega)]; rfl
theorem okL_bad {l : List E} {k : Nat} (hk : k < l.length) (h : badL l k = true) : okL l = false := by
  have : ((List.range l.length).all fun i => !badL l i) = false := by
    rw [List.all_eq_false]
    exact ⟨k, by simpa using hk, by simp [h]⟩
  unfold okL; rw [this]; simp
theorem okL_true {l : List E} (h : l.length ≤ 6) (hl : ∀ i, i < l.length → badL l i = false) : okL l = true := by
  have : ((List.range l.length).all fun i => !badL l i) = true := by
    rw [List.all_eq_true]
    intro i hi
    rw [hl i (by simpa using hi)]; rfl
  unfold okL; rw [this, decide_eq_true h]; rfl
theorem badL_next {l : List E} {k : Nat} (h : ∀ j, j < k → badL l j = false) (hk : badL l k = false) : ∀ j, j < k + 1 → badL l j = false := fun j hj => by
  by_cases e : j < k
  · exact h j e
  · obtain rfl : j = k := by omega
    exact hk
end Go.Proofs.YtnchgeiinkaefaaGreatDoor.Bill
end

section
/-
  What so many units cost by steps, as a function on numbers; no program in it.
-/
namespace Go.Proofs.YtnchgeiinkaefaaGreatDoor.Tiers
set_option linter.unusedVariables false
open Coin

/-- how many units fall to a step -/
def nOf (x q : Int) : Int := if 0 < x ∧ x < q then x else q
/-- what q units cost by steps, behind what cost out so far -/
def stepF : List (Int × Int) → Int → Int → Option Int
  | [], q, out => some out
  | t :: ts, q, out => if q ≤ 0 then some out else if fitB (nOf t.1 q) t.2 = true ∧ addB out (nOf t.1 q * t.2) = true then stepF ts (q - nOf t.1 q) (out + nOf t.1 q * t.2) else none

theorem nOf_small {x q : Int} (h : 0 < x) (h' : x < q) : nOf x q = x := if_pos ⟨h, h'⟩
theorem nOf_all {x q : Int} (h : ¬ (0 < x ∧ x < q)) : nOf x q = q := if_neg h
theorem stepF_end (l : List (Int × Int)) {q out : Int} (h : q ≤ 0) : stepF l q out = some out := by cases l <;> simp [stepF, h]
theorem drop_at {l : List (Int × Int)} {k : Nat} (h : k < l.length) : l.drop k = l.getD k (0, 0) :: l.drop (k + 1) := by
  rw [List.drop_eq_getElem_cons h]; simp [List.getD, h]
theorem stepF_go {l : List (Int × Int)} {k : Nat} {q out : Int} (hk : k < l.length) (hq : 0 < q) (hf : fitB (nOf (l.getD k (0, 0)).1 q) (l.getD k (0, 0)).2 = true) (ha : addB out (nOf (l.getD k (0, 0)).1 q * (l.getD k (0, 0)).2) = true) :
    stepF (l.drop k) q out = stepF (l.drop (k + 1)) (q - nOf (l.getD k (0, 0)).1 q) (out + nOf (l.getD k (0, 0)).1 q * (l.getD k (0, 0)).2) := by
  rw [drop_at hk, stepF, if_neg (by omega), if_pos ⟨hf, ha⟩]
theorem stepF_no {l : List (Int × Int)} {k : Nat} {q out : Int} (hk : k < l.length) (hq : 0 < q) (h : fitB (nOf (l.getD k (0, 0)).1 q) (l.getD k (0, 0)).2 = false ∨ addB out (nOf (l.getD k (0, 0)).1 q * (l.getD k (0, 0)).2) = false) :
    stepF (l.drop k) q out = none := by
  rw [drop_at hk, stepF, if_neg (by omega), if_neg]
  rintro ⟨h1, h2⟩
  rcases h with h | h
  · rw [h1] at h; cases h
  · rw [h2] at h; cases h
theorem stepF_nil {l : List (Int × Int)} {k : Nat} {q out : Int} (h : l.length ≤ k) : stepF (l.drop k) q out = some out := by
  rw [List.drop_eq_nil_of_le h]; rfl
end Go.Proofs.YtnchgeiinkaefaaGreatDoor.Tiers
end

section
/-
  spec.RuleStep.
-/
namespace Go.Proofs.YtnchgeiinkaefaaGreatDoor.Tiers
set_option linter.unusedVariables false
open Go.RowKit Coin

/-- what RuleStep answers -/
def stepB (l : List T) (q : Int) : Bool := rightB l && okB q && (stepF l q 0).isSome
def stepV (l : List T) (q : Int) : Int := if rightB l = true ∧ okB q = true then (stepF l q 0).getD 0 else 0
theorem stepB_bad {l : List T} {q : Int} (h : rightB l = false ∨ okB q = false) : stepB l q = false ∧ stepV l q = 0 := by
  unfold stepB stepV
  rcases h with h | h <;> simp [h]
theorem stepB_none {l : List T} {q : Int} (h : stepF l q 0 = none) : stepB l q = false ∧ stepV l q = 0 := by
  unfold stepB stepV
  simp [h]
theorem stepB_some {l : List T} {q x : Int} (h1 : rightB l = true) (h2 : okB q = true) (h : stepF l q 0 = some x) : stepB l q = true ∧ stepV l q = x := by
  unfold stepB stepV
  simp [h, h1, h2]

theorem okB_bd {n : Int} (h : okB n = true) : -1000000000000000 ≤ n ∧ n ≤ 1000000000000000 := okB_iff.1 h
theorem addB_parts {a b : Int} (h : addB a b = true) : okB a = true ∧ okB b = true ∧ okB (a + b) = true := by
  unfold addB at h; simp only [Bool.and_eq_true] at h; exact ⟨h.1.1, h.1.2, h.2⟩

set_option maxHeartbeats 2000000 in
set_option maxRecDepth 20000 in
theorem stepS (v : Value) (l : List T) (q : Int) (w : World) (h : TR w v l) (hl : l.length ≤ 1048576) :
    Calls Tryz.prog 89 #[v, .int .i64 q] w fun e w' => e = .returned (.tuple #[.int .i64 (stepV l q), .bool (stepB l q)]) ∧ Below w.heap.size w w' := by
  have H := hide h
  cases hr : rightB l
  · obtain ⟨e1, e2⟩ := stepB_bad (q := q) (.inl hr)
    rw [e1, e2]
    clear e1 e2 h
    go_enter Tryz.func89, Tryz.ntmps89
    go_wp2_with (fail)
    refine (rightS v l w (unhide H) hl).mono ?_
    rintro e w1 ⟨rfl, hb⟩
    have HB := hide hb; clear hb
    go_wp2_with (fail)
    go_ret2
    exact ⟨rfl, unhide HB⟩
  cases hq : okB q
  · obtain ⟨e1, e2⟩ := stepB_bad (l := l) (.inr hq)
    rw [e1, e2]
    clear e1 e2 h
    go_enter Tryz.func89, Tryz.ntmps89
    go_wp2_with (fail)
    refine (rightS v l w (unhide H) hl).mono ?_
    rintro e w1 ⟨rfl, hb⟩
    have HB := hide hb; clear hb
    go_wp2_with (fail)
    refine (okS q _).mono ?_
    rintro e w2 ⟨rfl, rfl⟩
    go_wp2_with (fail)
    go_ret2
    exact ⟨rfl, unhide HB⟩
  obtain ⟨z1, z2⟩ := rightB_len hr
  rcases h with ⟨rfl, a, c, rfl⟩ | ⟨b, o, cap, rfl, hc⟩
  · simp at z1
  have HC := hide hc
  have HAT : Hid (∀ k, k < l.length → okT l.length k (l.getD k T0) = true) := hide (fun k hk => rightB_at hr hk)
  obtain ⟨qb1, qb2⟩ := okB_bd hq
  have HV : Hid (∀ x, stepF l q 0 = some x → stepB l q = true ∧ stepV l q = x) := hide (fun x hx => stepB_some hr hq hx)
  have HN : Hid (stepF l q 0 = none → stepB l q = false ∧ stepV l q = 0) := hide stepB_none
  generalize stepB l q = rb at *
  generalize stepV l q = rv at *
  have HS : Hid (stepF l q 0 = stepF (l.drop 0) q 0) := hide rfl
  generalize stepF l q 0 = F at *
  clear hc
  go_enter Tryz.func89, Tryz.ntmps89
  go_wp2_with (fail)
  refine (rightS _ l w (unhide H) hl).mono ?_
  rintro e w1 ⟨rfl, hb⟩
  have HB := hide hb
  have HC1 := hide ((unhide HC).kept hb)
  clear hb HC
  go_wp2_with (fail)
  refine (okS q _).mono ?_
  rintro e w2 ⟨rfl, rfl⟩
  go_wp2_with (fail)
  go_loop [6, 7, 1] (fun t i p => ∃ (k : Nat) (out q' : Int), k ≤ l.length ∧ i = .int .i64 k ∧ t = .int .i64 out ∧ p = .int .i64 q' ∧ -1000000000000000 ≤ out ∧ out ≤ 1000000000000000 ∧ -1000000000000000 ≤ q' ∧ q' ≤ 1000000000000000 ∧ Hid (F = stepF (l.drop k) q' out)) (fun _ i _ => l.length - (intOf i).toNat)
  case atStart => exact ⟨0, 0, q, Nat.zero_le _, rfl, rfl, rfl, by omega, by omega, qb1, qb2, HS⟩
  case round =>
    obtain ⟨k, out, q', hk, rfl, rfl, rfl, o1, o2, q1, q2, hF⟩ := hrel
    clear hr hq qb1 qb2 HS
    by_cases hlt : k < l.length
    · by_cases hpos : 0 < q'
      · obtain ⟨c0, c1⟩ := (unhide HC1).2 k hlt
        obtain ⟨_, t1, t2, t3, t4⟩ := okT_of (unhide HAT k hlt)
        have i1 : (0 : Int) ≤ (k : Int) := by omega
        have i2 : (k : Int) < (l.length : Int) := by omega
        have HG := hide (fun hf ha => (unhide hF).trans (stepF_go (out := out) hlt hpos hf ha))
        have HO := hide (fun h => (unhide hF).trans (stepF_no (out := out) hlt hpos h))
        have e0 : l.getD k (0, 0) = l.getD k T0 := rfl
        rw [e0] at HG HO
        clear e0 hF
        generalize l.getD k T0 = t at *
        obtain ⟨x, y⟩ := t
        simp only at c0 c1 t1 t2 t3 t4 HG HO
        by_cases hx : 0 < x ∧ x < q'
        · rw [nOf_small hx.1 hx.2] at HG HO
          obtain ⟨hx1, hx2⟩ := hx
          go_wp2_with (fail)
          refine (timesS x y _).mono ?_
          rintro e w2 ⟨rfl, rfl⟩
          cases hf : fitB x y
          · generalize timesV x y = tv at *
            have hF := unhide HO (.inl hf)
            obtain ⟨rfl, rfl⟩ := unhide HN hF
            clear hF HO HG HN HV
            go_wp2_with (fail)
            refine (addS out tv _).mono ?_
            rintro e w3 ⟨rfl, rfl⟩
            generalize addB out tv = bb at *
            generalize addV out tv = bv at *
            go_wp2_with (fail)
            go_ret2
            exact ⟨rfl, unhide HB⟩
          · rw [timesV_yes hf]
            obtain ⟨_, _, p1, p2⟩ := fit_ok hf
            generalize x * y = pr at *
            go_wp2_with (fail)
            refine (addS out pr _).mono ?_
            rintro e w3 ⟨rfl, rfl⟩
            cases ha : addB out pr
            · rw [addV_no ha]
              have hF := unhide HO (.inr ha)
              obtain ⟨rfl, rfl⟩ := unhide HN hF
              clear hF HO HG HN HV
              go_wp2_with (fail)
              go_ret2
              exact ⟨rfl, unhide HB⟩
            · rw [addV_yes ha]
              obtain ⟨s1, s2⟩ := okB_bd (addB_parts ha).2.2
              have hF := hide (unhide HG hf ha)
              clear HO HG HN HV
              go_wp2_with (fail)
              exact ⟨⟨k + 1, out + pr, q' - x, by omega, by go_num, rfl, rfl, s1, s2, by omega, by omega, hF⟩, by simp [intOf]; omega⟩
        · rw [nOf_all hx] at HG HO
          by_cases hx1 : 0 < x
          · have hx2 : ¬ x < q' := fun h => hx ⟨hx1, h⟩
            clear hx
            go_wp2_with (fail)
            refine (timesS q' y _).mono ?_
            rintro e w2 ⟨rfl, rfl⟩
            cases hf : fitB q' y
            · generalize timesV q' y = tv at *
              have hF := unhide HO (.inl hf)
              obtain ⟨rfl, rfl⟩ := unhide HN hF
              clear hF HO HG HN HV
              go_wp2_with (fail)
              refine (addS out tv _).mono ?_
              rintro e w3 ⟨rfl, rfl⟩
              generalize addB out tv = bb at *
              generalize addV out tv = bv at *
              go_wp2_with (fail)
              go_ret2
              exact ⟨rfl, unhide HB⟩
            · rw [timesV_yes hf]
              obtain ⟨_, _, p1, p2⟩ := fit_ok hf
              generalize q' * y = pr at *
              go_wp2_with (fail)
              refine (addS out pr _).mono ?_
              rintro e w3 ⟨rfl, rfl⟩
              cases ha : addB out pr
              · rw [addV_no ha]
                have hF := unhide HO (.inr ha)
                obtain ⟨rfl, rfl⟩ := unhide HN hF
                clear hF HO HG HN HV
                go_wp2_with (fail)
                go_ret2
                exact ⟨rfl, unhide HB⟩
              · rw [addV_yes ha]
                obtain ⟨s1, s2⟩ := okB_bd (addB_parts ha).2.2
                have hF := hide (unhide HG hf ha)
                clear HO HG HN HV
                go_wp2_with (fail)
                exact ⟨⟨k + 1, out + pr, q' - q', by omega, by go_num, rfl, by simp, s1, s2, by omega, by omega, hF⟩, by simp [intOf]; omega⟩
          · clear hx
            go_wp2_with (fail)
            refine (timesS q' y _).mono ?_
            rintro e w2 ⟨rfl, rfl⟩
            cases hf : fitB q' y
            · generalize timesV q' y = tv at *
              have hF := unhide HO (.inl hf)
              obtain ⟨rfl, rfl⟩ := unhide HN hF
              clear hF HO HG HN HV
              go_wp2_with (fail)
              refine (addS out tv _).mono ?_
              rintro e w3 ⟨rfl, rfl⟩
              generalize addB out tv = bb at *
              generalize addV out tv = bv at *
              go_wp2_with (fail)
              go_ret2
              exact ⟨rfl, unhide HB⟩
            · rw [timesV_yes hf]
              obtain ⟨_, _, p1, p2⟩ := fit_ok hf
              generalize q' * y = pr at *
              go_wp2_with (fail)
              refine (addS out pr _).mono ?_
              rintro e w3 ⟨rfl, rfl⟩
              cases ha : addB out pr
              · rw [addV_no ha]
                have hF := unhide HO (.inr ha)
                obtain ⟨rfl, rfl⟩ := unhide HN hF
                clear hF HO HG HN HV
                go_wp2_with (fail)
                go_ret2
                exact ⟨rfl, unhide HB⟩
              · rw [addV_yes ha]
                obtain ⟨s1, s2⟩ := okB_bd (addB_parts ha).2.2
                have hF := hide (unhide HG hf ha)
                clear HO HG HN HV
                go_wp2_with (fail)
                exact ⟨⟨k + 1, out + pr, q' - q', by omega, by go_num, rfl, by simp, s1, s2, by omega, by omega, hF⟩, by simp [intOf]; omega⟩
      · have hF2 := (unhide hF).trans (stepF_end _ (by omega))
        obtain ⟨rfl, rfl⟩ := unhide HV _ hF2
        clear hF2 HN HV hF
        go_wp2_with (fail)
        go_ret2
        exact ⟨rfl, unhide HB⟩
    · have hF2 := (unhide hF).trans (stepF_nil (by omega))
      obtain ⟨rfl, rfl⟩ := unhide HV _ hF2
      clear hF2 HN HV hF
      go_wp2_with (fail)
      go_ret2
      exact ⟨rfl, unhide HB⟩
end Go.Proofs.YtnchgeiinkaefaaGreatDoor.Tiers
end

section
/-
  By steps more never costs less, and one unit more costs the price of a step; no program in it.
-/
namespace Go.Proofs.YtnchgeiinkaefaaGreatDoor.Tiers
set_option linter.unusedVariables false
open Coin

/-- what q units cost -/
def cost : List T → Int → Int
  | [], q => 0
  | t :: ts, q => if q ≤ 0 then 0 else nOf t.1 q * t.2 + cost ts (q - nOf t.1 q)

/-- prices and sizes are not below nought -/
def Fair (l : List T) : Prop := ∀ t ∈ l, 0 ≤ t.1 ∧ 0 ≤ t.2
theorem Fair.tail {t : T} {ts : List T} (h : Fair (t :: ts)) : Fair ts := fun u hu => h u (List.mem_cons_of_mem _ hu)
theorem stepB_parts {l : List T} {q : Int} (h : stepB l q = true) : rightB l = true ∧ okB q = true ∧ stepF l q 0 = some (stepV l q) := by
  unfold stepB at h
  simp only [Bool.and_eq_true] at h
  obtain ⟨x, hx⟩ := Option.isSome_iff_exists.1 h.2
  exact ⟨h.1.1, h.1.2, by rw [hx, (stepB_some h.1.1 h.1.2 hx).2]⟩
theorem stepF_bd : ∀ (l : List T) (q out x : Int), okB out = true → stepF l q out = some x → okB x = true
  | [], q, out, x, h, e => by simp only [stepF, Option.some.injEq] at e; rw [← e]; exact h
  | t :: ts, q, out, x, h, e => by
    unfold stepF at e
    split at e
    · simp only [Option.some.injEq] at e; rw [← e]; exact h
    · split at e
      · rename_i hh
        exact stepF_bd ts _ _ _ (addB_parts hh.2).2.2 e
      · cases e
theorem stepV_bd (l : List T) (q : Int) : -1000000000000000 ≤ stepV l q ∧ stepV l q ≤ 1000000000000000 := by
  cases h : stepB l q
  · unfold stepV
    split
    · rename_i hh
      unfold stepB at h
      rw [hh.1, hh.2] at h
      simp only [Bool.true_and, Option.isSome_eq_false_iff, Option.isNone_iff_eq_none] at h
      rw [h]; simp
    · omega
  · exact okB_bd (stepF_bd l q 0 _ (by decide) (stepB_parts h).2.2)
end Go.Proofs.YtnchgeiinkaefaaGreatDoor.Tiers
end
