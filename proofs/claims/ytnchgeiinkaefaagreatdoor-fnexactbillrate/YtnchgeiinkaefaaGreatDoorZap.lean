/-
  Texts of this proof laid together, in build order; each says of itself what it holds.
-/
import Derived.Test.YtnchgeiinkaefaaGreatDoorZao
import Derived.Test.YtnchgeiinkaefaaGreatDoorZam
import Derived.Test.YtnchgeiinkaefaaGreatDoorZak
import Derived.Test.YtnchgeiinkaefaaGreatDoorZaa
import Derived.Test.YtnchgeiinkaefaaGreatDoorZai
import Derived.Test.YtnchgeiinkaefaaGreatDoorZaf
import Derived.Test.YtnchgeiinkaefaaGreatDoorZaj
import Derived.Lib.Fields
import Derived.Lib.IndexMore
section
/-
  spec.RuleRead.
-/
namespace Go.Proofs.YtnchgeiinkaefaaGreatDoor.Rule
set_option linter.unusedVariables false
open Go.RowKit
open Boxes (At hide unhide)
open Tiers (T T0)

/-- e is the expression whose text this is -/
def IsRule (t : List UInt8) (e : Ex) : Prop := okE e = true ∧ wr e = t ∧ t.length ≤ 600
theorem wr_ne (e : Ex) (h : allB e = true) : wr e ≠ [] := by
  obtain ⟨k, n, m, ks, ts⟩ := e
  rw [allB, Bool.and_eq_true] at h
  rw [wr]
  by_cases k1 : k = 1
  · rw [if_pos k1]; exact itoa_ne n
  rw [if_neg k1]
  by_cases k2 : k = 2
  · rw [if_pos k2]; subst k2; exact (letters_of (node_name h.1).2.1).2.2
  · rw [if_neg k2]; simp
theorem IsRule.ne {t : List UInt8} {e : Ex} (h : IsRule t e) : t ≠ [] := by rw [← h.2.1]; exact wr_ne e (ok_all h.1).1
theorem IsRule.read {t : List UInt8} {e : Ex} (h : IsRule t e) : exprS 8 t = some (e, []) := by
  obtain ⟨h1, h2, h3⟩ := ok_all h.1
  have := expr_read 8 e [] h1 h3 (.inl rfl)
  rwa [List.append_nil, h.2.1] at this
theorem IsRule.one {t : List UInt8} {e e' : Ex} (h : IsRule t e) (h' : IsRule t e') : e = e' := by
  have := h.read.symm.trans h'.read
  simp only [Option.some.injEq, Prod.mk.injEq, and_true] at this
  exact this
theorem isRule_of {t : List UInt8} {e : Ex} (h : textE e = t) (hn : t ≠ []) (hl : t.length ≤ 600) : IsRule t e := by
  unfold textE at h
  split at h
  · next ho => exact ⟨ho, h, hl⟩
  · exact absurd h.symm hn
theorem left_all (s : ByteArray) : left s 0 = s.data.toList := by unfold left; simp

/-- what RuleRead hands out -/
def ReadOut (w w' : World) (t : List UInt8) (v : Value) (ok : Bool) : Prop :=
  (ok = true → ∃ e d, IsRule t e ∧ EV w.heap.size w'.heap.size w' d v e) ∧ (ok = false → v = .agg #[.int .i64 0, .int .i64 0, .string ⟨#[]⟩, .slice none 0 0, .slice none 0 0] ∧ ∀ e, ¬ IsRule t e)

set_option maxRecDepth 20000 in
set_option maxHeartbeats 1600000 in
theorem readS (s : ByteArray) (w : World) (hs : s.size ≤ maxLen) :
    Calls Tryz.prog 35 #[.string s] w fun x w' => ∃ v ok, x = .returned (.tuple #[v, .bool ok]) ∧ ReadOut w w' s.data.toList v ok ∧ Below w.heap.size w w' := by
  unfold maxLen at hs
  have hlen : s.data.toList.length = s.size := Array.length_toList
  by_cases hl : 600 < s.size
  · have HN : Hid (∀ e, ¬ IsRule s.data.toList e) := hide (fun e h => by have := h.2.2; omega)
    have i1 : (600 : Int) < (s.size : Int) := by omega
    go_enter Tryz.func35, Tryz.ntmps35
    go_wp2_with (fail)
    have oo := At.new w zero5L.toArray 77
    obtain ⟨t0, _⟩ := oo 0 _ rfl
    obtain ⟨t1, _⟩ := oo 1 _ rfl
    obtain ⟨t2, _⟩ := oo 2 _ rfl
    obtain ⟨t3, _⟩ := oo 3 _ rfl
    obtain ⟨t4, _⟩ := oo 4 _ rfl
    exact bodyPost_ret (v := .tuple #[.agg #[.int .i64 0, .int .i64 0, .string ⟨#[]⟩, .slice none 0 0, .slice none 0 0], .bool false]) (by simp [results, Tryz.results35, go_sem, t0, t1, t2, t3, t4]) rfl ⟨_, false, rfl, ⟨fun h => (by cases h), fun _ => ⟨rfl, unhide HN⟩⟩, below_alloc _ _⟩
  · have i1 : ¬ ((600 : Int) < (s.size : Int)) := by omega
    have hP : Ps ((w.alloc (.cells zero5L.toArray 77)).alloc (.cells #[.string s, .int .i64 0, .bool false] 101)) (w.heap.size + 1) s 0 false := by
      have := At.new (w.alloc (.cells zero5L.toArray 77)) #[.string s, .int .i64 0, .bool false] 101
      rw [World.size_alloc] at this
      exact this
    have HP := hide hP
    clear hP
    go_enter Tryz.func35, Tryz.ntmps35
    go_wp2_with (fail)
    refine (exprC 8 (by omega) (w.heap.size + 1) s 0 1 _ (by omega) (unhide HP) (by omega) (by omega)).mono ?_
    rintro x w1 ⟨v, rfl, e, a1, bad, hEV, ⟨hP1, hG1⟩, ha1, hgo, hno⟩
    rw [left_all] at hgo hno
    obtain ⟨ka, kc, ta, tc, rfl⟩ := hEV.form
    have hz1 : w.heap.size + 2 ≤ w1.heap.size := by have := hG1.size; simpa using this
    have B1 : Below w.heap.size w w1 := ⟨hG1.os, hG1.tape, hG1.output, by have := hG1.size; simp at this; omega, fun j hj => by
      rw [hG1.block j (by simp; omega) (by simp; omega), Below.heap_alloc _ _ _ (by simp; omega), Below.heap_alloc _ _ _ (by omega)]⟩
    have bx : At w1 w.heap.size zero5L := (At.new w zero5L.toArray 77).kept (by
      rw [hG1.block _ (by simp; omega) (by simp), Below.heap_alloc _ _ _ (by simp)])
    have HEV := hide (hEV.mono (lo' := w.heap.size + 1) (by simp) (Nat.le_refl _))
    have HB1 := hide B1
    have BX := hide bx
    obtain ⟨⟨c0, c1, c2⟩, f1, f2⟩ := hP1.cells
    have HGO := hide hgo
    have HNO := hide hno
    clear hEV hP1 hG1 B1 bx hgo hno HP
    have hb1 : w.heap.size + 1 < w1.heap.size := by omega
    have hb0 : w.heap.size < w1.heap.size := by omega
    cases bad with
    | true =>
      have HN : Hid (∀ e, ¬ IsRule s.data.toList e) := hide (fun e h => by rw [h.read] at HNO; exact absurd (unhide HNO rfl) (by simp))
      obtain ⟨u0, y0⟩ := (unhide BX) 0 _ rfl
      obtain ⟨u1, y1⟩ := (unhide BX) 1 _ rfl
      obtain ⟨u2, y2⟩ := (unhide BX) 2 _ rfl
      obtain ⟨u3, y3⟩ := (unhide BX) 3 _ rfl
      obtain ⟨u4, y4⟩ := (unhide BX) 4 _ rfl
      go_wp2_with (fail)
      have oo := (put5_at (unhide BX) (.int .i64 0) (.int .i64 0) (.string ⟨#[]⟩) (.slice none 0 0) (.slice none 0 0)).kept (show ((put5 w1 w.heap.size (.int .i64 0) (.int .i64 0) (.string ⟨#[]⟩) (.slice none 0 0) (.slice none 0 0)).alloc (.cells #[.int .i64 e.kind, .int .i64 e.num, .string e.meter, .slice ka e.kids.length kc, .slice ta e.tiers.length tc] 77)).heap[w.heap.size]? = _ from Below.heap_alloc _ _ _ (by simp; omega))
      obtain ⟨t0, _⟩ := oo 0 _ rfl
      obtain ⟨t1, _⟩ := oo 1 _ rfl
      obtain ⟨t2, _⟩ := oo 2 _ rfl
      obtain ⟨t3, _⟩ := oo 3 _ rfl
      obtain ⟨t4, _⟩ := oo 4 _ rfl
      refine bodyPost_ret (v := .tuple #[.agg #[.int .i64 0, .int .i64 0, .string ⟨#[]⟩, .slice none 0 0, .slice none 0 0], .bool false]) (by simp [results, Tryz.results35, go_sem, t0, t1, t2, t3, t4]) rfl ⟨_, false, rfl, ⟨fun h => (by cases h), fun _ => ⟨rfl, unhide HN⟩⟩, ?_⟩
      refine Below.alloc ?_ (by simp; omega) _
      iterate 5 refine Below.setCell ?_ (by simp) _
      exact unhide HB1
    | false =>
      obtain ⟨_, hx⟩ := unhide HGO rfl
      have hwt := exprS_wt 8 _ _ _ hx
      have HX := hide hx
      clear HGO HNO hx
      go_wp2_with (fail)
      refine (textS 8 _ _ _ e _ (keptE (unhide HEV) (Nat.le_refl _) (below_alloc _ _)) (by simp) (by omega)).mono ?_
      rintro x w2 ⟨rfl, hb2⟩
      obtain ⟨q2, hB2, hz2⟩ := Boxes.box1 hb2
      have HB2 := hide (Kinds.below_trans (unhide HB1) hB2)
      have BX2 := hide ((unhide BX).below hB2 (by omega))
      have EX2 := hide q2
      have HEV2 := hide (keptE (unhide HEV) (Nat.le_refl _) hB2)
      have hlt2 : w.heap.size < w2.heap.size := by omega
      clear hb2 hB2 q2 c0 c1 c2 f1 f2 BX HEV HB1
      obtain ⟨u0, y0⟩ := (unhide BX2) 0 _ rfl
      obtain ⟨u1, y1⟩ := (unhide BX2) 1 _ rfl
      obtain ⟨u2, y2⟩ := (unhide BX2) 2 _ rfl
      obtain ⟨u3, y3⟩ := (unhide BX2) 3 _ rfl
      obtain ⟨u4, y4⟩ := (unhide BX2) 4 _ rfl
      obtain ⟨g0, _⟩ := (unhide EX2) 0 _ rfl
      obtain ⟨g1, _⟩ := (unhide EX2) 1 _ rfl
      obtain ⟨g2, _⟩ := (unhide EX2) 2 _ rfl
      obtain ⟨g3, _⟩ := (unhide EX2) 3 _ rfl
      obtain ⟨g4, _⟩ := (unhide EX2) 4 _ rfl
      by_cases ht : bytesOf (textE e) = s
      case neg =>
        have hx1 := Kinds.neB ht
        have HN : Hid (∀ e, ¬ IsRule s.data.toList e) := hide (fun e' h => by
          have := (unhide HX).symm.trans h.read
          simp only [Option.some.injEq, Prod.mk.injEq] at this
          rw [this.1] at ht
          apply ht
          unfold textE
          rw [if_pos h.1, h.2.1, bytes_self])
        go_wp2_with (fail)
        have oo := put5_at (unhide BX2) (.int .i64 0) (.int .i64 0) (.string ⟨#[]⟩) (.slice none 0 0) (.slice none 0 0)
        obtain ⟨t0, _⟩ := oo 0 _ rfl
        obtain ⟨t1, _⟩ := oo 1 _ rfl
        obtain ⟨t2, _⟩ := oo 2 _ rfl
        obtain ⟨t3, _⟩ := oo 3 _ rfl
        obtain ⟨t4, _⟩ := oo 4 _ rfl
        refine bodyPost_ret (v := .tuple #[.agg #[.int .i64 0, .int .i64 0, .string ⟨#[]⟩, .slice none 0 0, .slice none 0 0], .bool false]) (by simp [results, Tryz.results35, go_sem, t0, t1, t2, t3, t4]) rfl ⟨_, false, rfl, ⟨fun h => (by cases h), fun _ => ⟨rfl, unhide HN⟩⟩, ?_⟩
        iterate 5 refine Below.setCell ?_ (by simp) _
        exact unhide HB2
      have hx1 := Kinds.eqB ht
      have htl : textE e = s.data.toList := by rw [← ht]; rfl
      by_cases h0 : s.size = 0
      · have HN : Hid (∀ e, ¬ IsRule s.data.toList e) := hide (fun e' h => h.ne (List.length_eq_zero_iff.1 (by omega)))
        have he0 : s.toList.isEmpty = true := by
          rw [Lib.toList_data, List.length_eq_zero_iff.1 (show s.data.toList.length = 0 by omega)]; rfl
        clear ht htl
        go_wp2_with (fail)
        have oo := put5_at (unhide BX2) (.int .i64 0) (.int .i64 0) (.string ⟨#[]⟩) (.slice none 0 0) (.slice none 0 0)
        obtain ⟨t0, _⟩ := oo 0 _ rfl
        obtain ⟨t1, _⟩ := oo 1 _ rfl
        obtain ⟨t2, _⟩ := oo 2 _ rfl
        obtain ⟨t3, _⟩ := oo 3 _ rfl
        obtain ⟨t4, _⟩ := oo 4 _ rfl
        refine bodyPost_ret (v := .tuple #[.agg #[.int .i64 0, .int .i64 0, .string ⟨#[]⟩, .slice none 0 0, .slice none 0 0], .bool false]) (by simp [results, Tryz.results35, go_sem, t0, t1, t2, t3, t4]) rfl ⟨_, false, rfl, ⟨fun h => (by cases h), fun _ => ⟨rfl, unhide HN⟩⟩, ?_⟩
        iterate 5 refine Below.setCell ?_ (by simp) _
        exact unhide HB2
      · have HOK := hide (isRule_of htl (fun h => h0 (by rw [← hlen, h]; rfl)) (by omega))
        have he0 : s.toList.isEmpty = false := by
          rw [Lib.toList_data]
          cases hh : s.data.toList with
          | nil => rw [hh] at hlen; simp at hlen; omega
          | cons a b => rfl
        clear ht htl
        go_wp2_with (fail)
        have oo := put5_at (unhide BX2) (.int .i64 e.kind) (.int .i64 e.num) (.string e.meter) (.slice ka e.kids.length kc) (.slice ta e.tiers.length tc)
        obtain ⟨t0, _⟩ := oo 0 _ rfl
        obtain ⟨t1, _⟩ := oo 1 _ rfl
        obtain ⟨t2, _⟩ := oo 2 _ rfl
        obtain ⟨t3, _⟩ := oo 3 _ rfl
        obtain ⟨t4, _⟩ := oo 4 _ rfl
        have hgg := put5_gb w2 w.heap.size (.int .i64 e.kind) (.int .i64 e.num) (.string e.meter) (.slice ka e.kids.length kc) (.slice ta e.tiers.length tc)
        refine bodyPost_ret (v := .tuple #[.agg #[.int .i64 e.kind, .int .i64 e.num, .string e.meter, .slice ka e.kids.length kc, .slice ta e.tiers.length tc], .bool true]) (by simp [results, Tryz.results35, go_sem, t0, t1, t2, t3, t4]) rfl ⟨_, true, rfl, ⟨fun _ => ⟨e, 8, unhide HOK, ?_⟩, fun h => (by cases h)⟩, ?_⟩
        · exact ((unhide HEV2).kept (fun b h1 h2 => hgg.block b (by omega) (by simp; omega))).mono (by omega) (by simp; omega)
        iterate 5 refine Below.setCell ?_ (by simp) _
        exact unhide HB2
end Go.Proofs.YtnchgeiinkaefaaGreatDoor.Rule
end

section
/-
  Lines and tariffs that are right: what that is.
-/
namespace Go.Proofs.YtnchgeiinkaefaaGreatDoor.Bill
set_option linter.unusedVariables false
open Go.RowKit Evs
open Rule (IsRule ReadOut)
open Kinds (nameB)

/-- whether a text is a rule's -/
noncomputable def ruleB (t : ByteArray) : Bool := @decide (∃ e, IsRule t.data.toList e) (Classical.propDecidable _)
/-- whether a line is right -/
noncomputable def lineB (x : E) : Bool := nameB x.1 && decide (0 ≤ x.2.2 ∧ x.2.2 ≤ 5000) && ruleB x.2.1


theorem rule_outS {w w' : World} {t : ByteArray} {v : Value} {ok : Bool} (h : ReadOut w w' t.data.toList v ok) : ok = ruleB t := by
  unfold ruleB
  cases ok with
  | true =>
    obtain ⟨e, _, h1, _⟩ := h.1 rfl
    exact (@decide_eq_true _ (Classical.propDecidable _) ⟨e, h1⟩).symm
  | false => exact (@decide_eq_false _ (Classical.propDecidable _) (fun ⟨e, he⟩ => (h.2 rfl).2 e he)).symm

noncomputable def badL (l : List E) (i : Nat) : Bool := !lineB (l.getD i E0) || (decide (0 < i) && !ltS (l.getD (i - 1) E0).1 (l.getD i E0).1)
/-- a tariff is right -/
noncomputable def okL (l : List E) : Bool := decide (l.length ≤ 6) && (List.range l.length).all fun i => !badL l i
theorem okL_long {l : List E} (h : 6 < l.length) : okL l = false := by unfold okL; rw [decide_eq_false (by omega)]; rfl
theorem okL_bad {l : List E} {k : Nat} (hk : k < l.length) (h : badL l k = true) : okL l = false := by
  have : ((List.range l.length).all fun i => !badL l i) = false := by
    rw [List.all_eq_false]
    exact ⟨k, by simpa using hk, by simp [h]⟩
  unfold okL; rw [this]; simp
theorem okL_true {l : List E} (h : l.length ≤ 6) (hl : ∀ i, i < l.length → badL l i = false) : okL l = true := by
  have : ((List.range l.length).all fun i => !badL l i) = true := by
    rw [List.all_eq_true]
    intro i hi
    rw [hl i (by simpa using hi)]; rfl
  unfold okL; rw [this, decide_eq_true h]; rfl
theorem badL_next {l : List E} {k : Nat} (h : ∀ j, j < k → badL l j = false) (hk : badL l k = false) : ∀ j, j < k + 1 → badL l j = false := fun j hj => by
  by_cases e : j < k
  · exact h j e
  · obtain rfl : j = k := by omega
    exact hk
end Go.Proofs.YtnchgeiinkaefaaGreatDoor.Bill
end

section
/-
  spec.l4Net: what a line comes to.
-/
namespace Go.Proofs.YtnchgeiinkaefaaGreatDoor.Bill
set_option linter.unusedVariables false
open Go.RowKit Evs
open Rule (IsRule ReadOut readS RunOf runS Ex EV)

/-- the text t, a rule's, comes to n, not below 0 -/
def NetOf (us : List Uses.U) (t : ByteArray) (n : Int) : Prop := ∃ e v f, IsRule t.data.toList e ∧ RunOf us e 1000 v 0 f ∧ n = if v < 0 then 0 else v
theorem NetOf.det {us : List Uses.U} {t : ByteArray} {n m : Int} (h : NetOf us t n) (k : NetOf us t m) : n = m := by
  obtain ⟨e, v, f, h1, h2, rfl⟩ := h
  obtain ⟨e', v', f', k1, k2, rfl⟩ := k
  obtain rfl := h1.one k1
  obtain ⟨rfl, _, _⟩ := h2.det k2
  rfl
theorem NetOf.bd {us : List Uses.U} {t : ByteArray} {n : Int} (h : NetOf us t n) : 0 ≤ n ∧ n ≤ 1000000000000000 := by
  obtain ⟨e, v, f, h1, h2, rfl⟩ := h
  unfold RunOf at h2
  rw [if_pos ⟨h1.1, by omega, by omega⟩] at h2
  obtain ⟨n', c', l', hE, hc, _, rfl, _⟩ := h2
  have hc' : c' = 0 := by omega
  have := Coin.okB_iff.1 (hE.amount (Rule.okE_all h1.1) hc')
  rw [if_pos hc']
  split <;> omega
open Classical in
/-- what a text comes to, if it comes to anything -/
noncomputable def netO (us : List Uses.U) (t : ByteArray) : Option Int := if h : ∃ n, NetOf us t n then some h.choose else none
theorem netO_some {us : List Uses.U} {t : ByteArray} {n : Int} (h : NetOf us t n) : netO us t = some n := by
  unfold netO
  have hx : ∃ n, NetOf us t n := ⟨n, h⟩
  rw [dif_pos hx]
  exact congrArg some (hx.choose_spec.det h)
theorem netO_none {us : List Uses.U} {t : ByteArray} (h : ∀ n, ¬ NetOf us t n) : netO us t = none := by
  unfold netO
  rw [dif_neg (fun ⟨n, hn⟩ => h n hn)]
theorem netO_bd {us : List Uses.U} {t : ByteArray} : 0 ≤ (netO us t).getD 0 ∧ (netO us t).getD 0 ≤ 1000000000000000 := by
  by_cases h : ∃ n, NetOf us t n
  · obtain ⟨n, hn⟩ := h
    rw [netO_some hn]; exact hn.bd
  · rw [netO_none (fun n hn => h ⟨n, hn⟩)]; simp

/-- what l4Net answers -/
def NetOut (us : List Uses.U) (m : ByteArray) (n : Int) (ok : Bool) : Prop := (ok = true → netO us m = some n ∧ 0 ≤ n ∧ n ≤ 1000000000000000) ∧ (ok = false → n = 0 ∧ netO us m = none)

set_option maxRecDepth 20000 in
set_option maxHeartbeats 1600000 in
theorem lineNetS (s m : ByteArray) (q : Int) (uv : Value) (us : List Uses.U) (w : World) (hm : m.size ≤ maxLen) (hr : ruleB m = true) (hU : Uses.UR w uv us) (hul : us.length ≤ 1048576) :
    Calls Tryz.prog 22 #[.agg #[.string s, .string m, .int .i64 q], uv] w fun x w' => ∃ n ok, x = .returned (.tuple #[.int .i64 n, .bool ok]) ∧ NetOut us m n ok ∧ Below w.heap.size w w' := by
  obtain ⟨ua, uc, rfl⟩ : ∃ a c, uv = .slice a us.length c := by
    rcases hU with ⟨rfl, a, c, rfl⟩ | ⟨b, o, cap, rfl, _⟩
    · exact ⟨_, _, rfl⟩
    · exact ⟨_, _, rfl⟩
  have HU := hide hU
  clear hU
  go_enter Tryz.func22, Tryz.ntmps22
  go_wp2_with (fail)
  refine (readS m _ hm).mono ?_
  rintro x w1 ⟨v, ok, rfl, hO, hb1⟩
  have hok := rule_outS hO
  rw [hr] at hok
  subst hok
  obtain ⟨e, d, hI, hE⟩ := hO.1 rfl
  obtain ⟨ka, kc, ta, tc, rfl⟩ := hE.form
  obtain ⟨hB, hz⟩ : Below w.heap.size w w1 ∧ w.heap.size + 1 ≤ w1.heap.size := (Boxes.box1 hb1).2
  have HB := hide hB
  have HI := hide hI
  have HEV := hide hE
  have hwt : Rule.wt e ≤ 1048576 := by
    have h3 := hI.2.2
    have h4 := Rule.exprS_wt 8 _ _ _ hI.read
    simp only [List.length_nil] at h4
    omega
  clear hO hE hB hI hb1
  have hbw := Rule.below_alloc w1 (.cells #[.int .i64 e.kind, .int .i64 e.num, .string e.meter, .slice ka e.kids.length kc, .slice ta e.tiers.length tc] 77)
  have HBW := hide (below_trans (unhide HB) hbw)
  have HU2 := hide ((unhide HU).kept (unhide HBW))
  have HEV2 := hide (Rule.keptE (unhide HEV) (Nat.le_refl _) hbw)
  clear hbw HB HU HEV
  go_wp2_with (fail)
  refine (runS us hul d _ _ _ _ e 1000 _ (unhide HEV2) (by simp) hwt (unhide HU2)).mono ?_
  rintro x w2 ⟨v, c, f, rfl, hR, hb2⟩
  have HB2 := hide (below_trans (unhide HBW) hb2)
  have hc0 : 0 ≤ c := by
    have h2 := hR
    unfold RunOf at h2
    rw [if_pos ⟨(unhide HI).1, by omega, by omega⟩] at h2
    obtain ⟨n', c', l', _, hc, _⟩ := h2
    omega
  by_cases hc : c = 0
  · subst hc
    have HN : Hid (NetOf us m (if v < 0 then 0 else v)) := hide ⟨e, v, f, unhide HI, hR, rfl⟩
    clear hR hb2 HBW HU2 HEV2
    by_cases hv : v < 0
    · rw [if_pos hv] at HN
      go_wp2_with (fail)
      go_ret2
      exact ⟨0, true, rfl, ⟨fun _ => ⟨netO_some (unhide HN), (unhide HN).bd⟩, fun h => (by cases h)⟩, unhide HB2⟩
    · rw [if_neg hv] at HN
      go_wp2_with (fail)
      go_ret2
      exact ⟨v, true, rfl, ⟨fun _ => ⟨netO_some (unhide HN), (unhide HN).bd⟩, fun h => (by cases h)⟩, unhide HB2⟩
  · have HN : Hid (netO us m = none) := hide (netO_none (fun n ⟨e', v', f', k1, k2, _⟩ => by
      obtain rfl := (unhide HI).one k1
      exact hc (hR.det k2).2.1))
    have hcp : 0 < c := by omega
    clear hR hb2 HBW HU2 HEV2 hc
    go_wp2_with (fail)
    go_ret2
    exact ⟨0, false, rfl, ⟨fun h => (by cases h), fun _ => ⟨rfl, unhide HN⟩⟩, unhide HB2⟩
end Go.Proofs.YtnchgeiinkaefaaGreatDoor.Bill
end

section
/-
  Tariffs that are right: spec.l4Line, spec.l4Tariff.
-/
namespace Go.Proofs.YtnchgeiinkaefaaGreatDoor.Bill
set_option linter.unusedVariables false
open Go.RowKit RegIn Evs
open Rule (ReadOut readS IsRule)
open Kinds (nameB nameS)

set_option maxRecDepth 20000 in
set_option maxHeartbeats 1000000 in
/-- spec.l4Line -/
theorem lineS (s m : ByteArray) (q : Int) (W : World) (h1 : s.size ≤ maxLen) (h2 : m.size ≤ maxLen) : Calls Tryz.prog 33 #[.agg #[.string s, .string m, .int .i64 q]] W fun x w' => x = .returned (.bool (lineB (s, m, q))) ∧ Below W.heap.size W w' := by
  generalize hr : lineB (s, m, q) = r
  have HR : Hid ((nameB s && decide (0 ≤ q ∧ q ≤ 5000) && ruleB m) = r) := hide hr
  clear hr
  go_enter Tryz.func33, Tryz.ntmps33
  go_wp2_with (fail)
  refine (readS m _ h2).mono ?_
  rintro x w1 ⟨v, ok, rfl, hO, hb1⟩
  have hok := rule_outS hO
  rw [← hok] at HR
  clear hok
  obtain ⟨e1, e2, e3, a4, n4, k4, a5, n5, k5, hv⟩ : ∃ e1 e2 e3 a4 n4 k4 a5 n5 k5, v = .agg #[.int .i64 e1, .int .i64 e2, .string e3, .slice a4 n4 k4, .slice a5 n5 k5] := by
    cases ok with
    | true =>
      obtain ⟨e, d, _, hE⟩ := hO.1 rfl
      obtain ⟨ka, kc, ta, tc, rfl⟩ := hE.form
      exact ⟨_, _, _, _, _, _, _, _, _, rfl⟩
    | false => exact ⟨_, _, _, _, _, _, _, _, _, (hO.2 rfl).1⟩
  subst hv
  obtain ⟨q1, hB, hz1⟩ := Boxes.box1 hb1
  have hbw := Rule.below_alloc w1 (.cells #[.int .i64 e1, .int .i64 e2, .string e3, .slice a4 n4 k4, .slice a5 n5 k5] 77)
  have q2 := q1.below hbw (by omega)
  obtain ⟨c0, _⟩ := q2 0 _ rfl
  have Q2 := hide q2
  have HB := hide (below_trans hB hbw)
  have HZ : Hid ((w1.alloc (.cells #[.int .i64 e1, .int .i64 e2, .string e3, .slice a4 n4 k4, .slice a5 n5 k5] 77)).heap.size = w1.heap.size + 1) := hide (by simp)
  clear hO hb1 hB q1 q2 hbw
  go_wp2_with (fail)
  clear c0
  generalize w1.alloc (.cells #[.int .i64 e1, .int .i64 e2, .string e3, .slice a4 n4 k4, .slice a5 n5 k5] 77) = W1 at *
  have hzz := unhide HZ
  refine (nameS s _ h1).mono ?_
  rintro x w2 ⟨rfl, hb2⟩
  have q3 := (unhide Q2).below hb2 (by omega)
  obtain ⟨d2, _⟩ := q3 2 _ rfl
  have HB2 := hide (below_trans (unhide HB) hb2)
  clear hb2 q3
  cases hn : nameB s
  · have hr : r = false := by rw [← unhide HR, hn]; rfl
    subst hr
    go_wp2_with (fail)
    go_ret
    exact ⟨rfl, unhide HB2⟩
  · cases ok
    · have hr : r = false := by rw [← unhide HR]; simp
      subst hr
      go_wp2_with (fail)
      go_ret
      exact ⟨rfl, unhide HB2⟩
    · by_cases b1 : 0 ≤ q
      · by_cases b2 : q ≤ 5000
        · have hr : r = true := by rw [← unhide HR, hn, decide_eq_true ⟨b1, b2⟩]; rfl
          have b2' : decide (q ≤ 5000) = true := decide_eq_true b2
          subst hr
          go_wp2_with (fail)
          go_ret
          exact ⟨rfl, unhide HB2⟩
        · have hr : r = false := by rw [← unhide HR, decide_eq_false (fun h => b2 h.2)]; simp
          have b2' : decide (q ≤ 5000) = false := decide_eq_false b2
          subst hr
          go_wp2_with (fail)
          go_ret
          exact ⟨rfl, unhide HB2⟩
      · have hr : r = false := by rw [← unhide HR, decide_eq_false (fun h => b1 h.1)]; simp
        have b1' : decide (0 ≤ q) = false := decide_eq_false b1
        subst hr
        go_wp2_with (fail)
        go_ret
        exact ⟨rfl, unhide HB2⟩

set_option maxHeartbeats 2000000 in
/-- spec.l4Tariff -/
theorem tarS (v : Value) (l : List E) (w : World) (h : ER w v l) (hl : l.length ≤ 1048576) (hs : ∀ u ∈ l, u.1.size ≤ maxLen ∧ u.2.1.size ≤ maxLen) :
    Calls Tryz.prog 19 #[v] w fun e w' => e = .returned (.bool (okL l)) ∧ Below w.heap.size w w' := by
  by_cases h6 : 6 < l.length
  · rw [okL_long h6]
    obtain ⟨a, c, rfl⟩ := h.slice
    have y : (6 : Int) < l.length := by omega
    clear h
    go_enter Tryz.func19, Tryz.ntmps19
    go_wp2
    go_ret
    exact ⟨rfl, Below.refl _ _⟩
  have y : (l.length : Int) ≤ 6 := by omega
  rcases h with ⟨rfl, a, c, rfl⟩ | ⟨b, o, cap, rfl, hc⟩
  · go_enter Tryz.func19, Tryz.ntmps19
    go_wp2
    refine wp_loop_rounds 1 ?_
    rw [rounds_succ]
    go_wp2
    go_ret
    exact ⟨rfl, Below.refl _ _⟩
  · have HC := hide hc
    have hbs := hc.1
    clear hc
    generalize hr : okL l = r
    have HR := hide hr; clear hr
    go_enter Tryz.func19, Tryz.ntmps19
    go_wp2
    go_loopw [3] (fun i wr => ∃ k : Nat, k ≤ l.length ∧ i = .int .i64 k ∧ Hid (∀ j, j < k → badL l j = false) ∧ Hid (Below w.heap.size w wr)) (fun i _ => l.length - (intOf i).toNat)
    case atStart => exact ⟨0, Nat.zero_le _, rfl, hide (fun j hj => by omega), hide (Below.refl _ _)⟩
    case round =>
      obtain ⟨k, hk, rfl, hd, hb⟩ := hrel
      by_cases hlt : k < l.length
      · obtain ⟨c0, c1, c2⟩ := ((unhide HC).kept (unhide hb)).2 k hlt
        obtain ⟨hsz, hmz⟩ : (l.getD k E0).1.size ≤ maxLen ∧ (l.getD k E0).2.1.size ≤ maxLen := hs _ (by simp [List.getD, hlt])
        have i1 : (0 : Int) ≤ (k : Int) := by omega
        have i2 : (k : Int) < (l.length : Int) := by omega
        have z1 : b < wr.heap.size := Nat.lt_of_lt_of_le hbs (unhide hb).size
        have HBA : Hid (badL l k = (!lineB (l.getD k E0) || (decide (0 < k) && !ltS (l.getD (k - 1) E0).1 (l.getD k E0).1))) := hide rfl
        have k1 : k - 1 < l.length := by omega
        obtain ⟨p0, _, _⟩ := ((unhide HC).kept (unhide hb)).2 (k - 1) k1
        generalize hx : l.getD k E0 = x at *
        generalize hp : (l.getD (k - 1) E0).1 = t at *
        clear hx hp
        obtain ⟨s, m, q⟩ := x
        simp only at c0 c1 c2 hsz hmz
        have HCA : Hid (∀ W : World, Calls Tryz.prog 33 #[.agg #[.string s, .string m, .int .i64 q]] W fun x w' => x = .returned (.bool (lineB (s, m, q))) ∧ Below W.heap.size W w') := hide (fun W => lineS s m q W hsz hmz)
        generalize hR : lineB (s, m, q) = rt at *
        clear hR
        have HK : Hid (∀ w2 w3 : World, (w2.cell? ⟨b, o + k * 3, none⟩ = some (.string s) ∧ w2.cell? ⟨b, o + k * 3 + 1, none⟩ = some (.string m) ∧ w2.cell? ⟨b, o + k * 3 + 2, none⟩ = some (.int .i64 q) ∧ w2.cell? ⟨b, o + (k - 1) * 3, none⟩ = some (.string t) ∧ b < w2.heap.size ∧ b < w2.heap.size ∧ Below w.heap.size w w2) → Below w2.heap.size w2 w3 → (w3.cell? ⟨b, o + k * 3, none⟩ = some (.string s) ∧ w3.cell? ⟨b, o + k * 3 + 1, none⟩ = some (.string m) ∧ w3.cell? ⟨b, o + k * 3 + 2, none⟩ = some (.int .i64 q) ∧ w3.cell? ⟨b, o + (k - 1) * 3, none⟩ = some (.string t) ∧ b < w3.heap.size ∧ b < w3.heap.size ∧ Below w.heap.size w w3)) := hide (fun w2 w3 ⟨a1, a2, a3, a4, a5, a6, a7⟩ hb => ⟨(hb.cell (p := ⟨b, o + k * 3, none⟩) a6).trans a1, (hb.cell (p := ⟨b, o + k * 3 + 1, none⟩) a6).trans a2, (hb.cell (p := ⟨b, o + k * 3 + 2, none⟩) a6).trans a3, (hb.cell (p := ⟨b, o + (k - 1) * 3, none⟩) a6).trans a4, Nat.lt_of_lt_of_le a5 hb.size, Nat.lt_of_lt_of_le a6 hb.size, below_trans a7 hb⟩)
        generalize hS : (fun w2 : World => w2.cell? ⟨b, o + k * 3, none⟩ = some (.string s) ∧ w2.cell? ⟨b, o + k * 3 + 1, none⟩ = some (.string m) ∧ w2.cell? ⟨b, o + k * 3 + 2, none⟩ = some (.int .i64 q) ∧ w2.cell? ⟨b, o + (k - 1) * 3, none⟩ = some (.string t) ∧ b < w2.heap.size ∧ b < w2.heap.size ∧ Below w.heap.size w w2) = S
        have HSI : Hid (∀ w2 : World, (w2.cell? ⟨b, o + k * 3, none⟩ = some (.string s) ∧ w2.cell? ⟨b, o + k * 3 + 1, none⟩ = some (.string m) ∧ w2.cell? ⟨b, o + k * 3 + 2, none⟩ = some (.int .i64 q) ∧ w2.cell? ⟨b, o + (k - 1) * 3, none⟩ = some (.string t) ∧ b < w2.heap.size ∧ b < w2.heap.size ∧ Below w.heap.size w w2) → S w2) := hide (fun w2 h => by rw [← hS]; exact h)
        have HSE : Hid (∀ w2 : World, S w2 → (w2.cell? ⟨b, o + k * 3, none⟩ = some (.string s) ∧ w2.cell? ⟨b, o + k * 3 + 1, none⟩ = some (.string m) ∧ w2.cell? ⟨b, o + k * 3 + 2, none⟩ = some (.int .i64 q) ∧ w2.cell? ⟨b, o + (k - 1) * 3, none⟩ = some (.string t) ∧ b < w2.heap.size ∧ b < w2.heap.size ∧ Below w.heap.size w w2)) := hide (fun w2 h => by rw [← hS] at h; exact h)
        clear hS
        have g0 : ∀ g : In S, g.x.cell? ⟨b, o + k * 3, none⟩ = some (.string s) := fun g => (unhide HSE _ g.h).1
        have g1 : ∀ g : In S, g.x.cell? ⟨b, o + k * 3 + 1, none⟩ = some (.string m) := fun g => (unhide HSE _ g.h).2.1
        have g2 : ∀ g : In S, g.x.cell? ⟨b, o + k * 3 + 2, none⟩ = some (.int .i64 q) := fun g => (unhide HSE _ g.h).2.2.1
        have g3 : ∀ g : In S, g.x.cell? ⟨b, o + (k - 1) * 3, none⟩ = some (.string t) := fun g => (unhide HSE _ g.h).2.2.2.1
        have HCB : Hid (∀ g : In S, Calls Tryz.prog 33 #[.agg #[.string s, .string m, .int .i64 q]] g.x fun x w' => x = .returned (.bool rt) ∧ S w') := hide (fun g => (unhide HCA g.x).mono (fun x w' ⟨hx, hb⟩ => ⟨hx, unhide HSI _ (unhide HK _ _ (unhide HSE _ g.h) hb)⟩))
        clear HCA
        cases rt with
        | false =>
          have hr : r = false := (unhide HR).symm.trans (okL_bad hlt ((unhide HBA).trans (by simp)))
          subst hr
          go_wp2
          refine wp_region_in S (by kernel_rfl) (by kernel_rfl) (unhide HSI _ ⟨?_, ?_, ?_, ?_, ?_, ?_, ?_⟩) ?_
          · go_keep
          · go_keep
          · go_keep
          · go_keep
          · exact z1
          · exact z1
          · exact below_drewN' (unhide hb) 1
          intro hne
          repeat (go_big_quiet_step (exact call_in _ (unhide HCB _)))
          refine wpQuiet_nil ?_
          rintro _ ⟨g, rfl⟩
          have HG := hide (unhide HSE _ g.h).2.2.2.2.2.2
          go_wp2
          go_ret
          exact ⟨rfl, unhide HG⟩
        | true =>
          by_cases k0 : k = 0
          · have hd' : Hid (∀ j, j < k + 1 → badL l j = false) := hide (badL_next (unhide hd) ((unhide HBA).trans (by simp [k0])))
            have kn : decide (0 < k) = false := by simp [k0]
            clear k0
            go_wp2
            refine wp_region_in S (by kernel_rfl) (by kernel_rfl) (unhide HSI _ ⟨?_, ?_, ?_, ?_, ?_, ?_, ?_⟩) ?_
            · go_keep
            · go_keep
            · go_keep
            · go_keep
            · exact z1
            · exact z1
            · exact below_drewN' (unhide hb) 1
            intro hne
            repeat (go_big_quiet_step (exact call_in _ (unhide HCB _)))
            refine wpQuiet_nil ?_
            rintro _ ⟨g, rfl⟩
            have HG := hide (unhide HSE _ g.h).2.2.2.2.2.2
            go_wp2
            exact ⟨⟨k + 1, by omega, by go_num, hd', HG⟩, by simp [intOf]; omega⟩
          · have kn : 0 < k := by omega
            have kk : (0 : Int) < (k : Int) := by omega
            have j1 : (0 : Int) ≤ (k : Int) - 1 := by omega
            have j2 : (k : Int) - 1 < (l.length : Int) := by omega
            have hwr : IntKind.i64.wrap ((k : Int) - 1) = (k : Int) - 1 := IntWalk.i64_in _ ⟨by omega, by omega⟩
            have htn : ((k : Int) - 1).toNat = k - 1 := by omega
            have hcmp := ltS_total t s
            cases hlx : ltS t s with
            | false =>
              have hr : r = false := (unhide HR).symm.trans (okL_bad hlt ((unhide HBA).trans (by simp [kn, hlx])))
              subst hr
              rw [hlx] at hcmp
              simp only [ltS, Bool.not_false] at hcmp
              go_wp2
              refine wp_region_in S (by kernel_rfl) (by kernel_rfl) (unhide HSI _ ⟨?_, ?_, ?_, ?_, ?_, ?_, ?_⟩) ?_
              · go_keep
              · go_keep
              · go_keep
              · go_keep
              · exact z1
              · exact z1
              · exact below_drewN' (unhide hb) 1
              intro hne
              repeat (go_big_quiet_step (exact call_in _ (unhide HCB _)))
              refine wpQuiet_nil ?_
              rintro _ ⟨g, rfl⟩
              have HG := hide (unhide HSE _ g.h).2.2.2.2.2.2
              go_wp2
              go_ret
              exact ⟨rfl, unhide HG⟩
            | true =>
              have hd' : Hid (∀ j, j < k + 1 → badL l j = false) := hide (badL_next (unhide hd) ((unhide HBA).trans (by simp [kn, hlx])))
              rw [hlx] at hcmp
              simp only [ltS, Bool.not_true] at hcmp
              go_wp2
              refine wp_region_in S (by kernel_rfl) (by kernel_rfl) (unhide HSI _ ⟨?_, ?_, ?_, ?_, ?_, ?_, ?_⟩) ?_
              · go_keep
              · go_keep
              · go_keep
              · go_keep
              · exact z1
              · exact z1
              · exact below_drewN' (unhide hb) 1
              intro hne
              repeat (go_big_quiet_step (exact call_in _ (unhide HCB _)))
              refine wpQuiet_nil ?_
              rintro _ ⟨g, rfl⟩
              have HG := hide (unhide HSE _ g.h).2.2.2.2.2.2
              go_wp2
              exact ⟨⟨k + 1, by omega, by go_num, hd', HG⟩, by simp [intOf]; omega⟩
      · have hr : r = true := (unhide HR).symm.trans (okL_true (by omega) (fun j hj => unhide hd j (by omega)))
        subst hr
        go_wp2
        go_ret
        exact ⟨rfl, unhide hb⟩
end Go.Proofs.YtnchgeiinkaefaaGreatDoor.Bill
end

section
/-
  What a tariff makes of events: the rows, if there are any.
-/
namespace Go.Proofs.YtnchgeiinkaefaaGreatDoor.Bill
set_option linter.unusedVariables false
open Go.RowKit Evs
open Tax
open BRow (R R0 RC ROwn RN XR)
open Uses (U)

/-- what line j comes to -/
noncomputable def netJ (us : List U) (t : List E) (j : Nat) : Int := if j < t.length then (netO us (t.getD j E0).2.1).getD 0 else 0
noncomputable def hasJ (us : List U) (t : List E) (j : Nat) : Bool := (netO us (t.getD j E0).2.1).isSome
/-- the rows without their tax -/
noncomputable def rowsN (us : List U) (t : List E) (k : Nat) : List R := (List.range k).map fun j => ((t.getD j E0).1, netJ us t j, 0)
/-- all together -/
def sumA (f : Nat → Int) (n : Nat) : Int := sumG (fun _ => true) f n
theorem sumA_succ (f : Nat → Int) (n : Nat) : sumA f (n + 1) = sumA f n + f n := by unfold sumA; rw [sumG, if_pos rfl]
/-- the tariff makes rows of these sums -/
noncomputable def rateB (us : List U) (t : List E) : Bool := ((List.range t.length).all fun j => hasJ us t j) && Coin.okB (sumA (netJ us t) t.length) && allTold (netJ us t) (rateF t) t.length && Coin.okB (sumA (netJ us t) t.length + sumA (owed (netJ us t) (rateF t) t.length) t.length)
noncomputable def rated (us : List U) (t : List E) : List R := rowsF (rowsN us t t.length) (owed (netJ us t) (rateF t) t.length)

theorem netJ_bd (us : List U) (t : List E) (j : Nat) : 0 ≤ netJ us t j ∧ netJ us t j ≤ 1000000000000000 := by
  unfold netJ; split
  · exact netO_bd
  · simp
theorem rowsN_len (us : List U) (t : List E) (k : Nat) : (rowsN us t k).length = k := by simp [rowsN]
theorem rowsN_succ (us : List U) (t : List E) (k : Nat) : rowsN us t (k + 1) = rowsN us t k ++ [((t.getD k E0).1, netJ us t k, 0)] := by
  unfold rowsN; rw [List.range_succ, List.map_append]; rfl
theorem rowsN_get (us : List U) (t : List E) {j n : Nat} (h : j < n) : (rowsN us t n).getD j R0 = ((t.getD j E0).1, netJ us t j, 0) := by simp [rowsN, List.getD, h]
theorem netF_rowsN (us : List U) (t : List E) : netF (rowsN us t t.length) = netJ us t := by
  funext j
  unfold netF
  by_cases h : j < t.length
  · rw [rowsN_get us t h]
  · have e : (rowsN us t t.length).getD j R0 = R0 := by simp [rowsN, List.getD, h]
    rw [e]; unfold netJ; rw [if_neg h]
theorem oldF_rowsN (us : List U) (t : List E) {j : Nat} (h : j < t.length) : oldF (rowsN us t t.length) j = 0 := by
  unfold oldF; rw [rowsN_get us t h]
theorem sumA_mono {f : Nat → Int} (h : ∀ j, 0 ≤ f j) {i n : Nat} (hi : i ≤ n) : sumA f i ≤ sumA f n := by
  induction n with
  | zero => have : i = 0 := by omega
            subst this; exact Int.le_refl _
  | succ n ih =>
    rw [sumA_succ]
    by_cases e : i = n + 1
    · subst e; rw [sumA_succ]; exact Int.le_refl _
    · have := ih (by omega); have := h n; omega
theorem sumA_nonneg {f : Nat → Int} (h : ∀ j, 0 ≤ f j) (n : Nat) : 0 ≤ sumA f n := by
  have := sumA_mono h (Nat.zero_le n); simpa [sumA, sumG] using this
theorem rateB_no {us : List U} {t : List E} {j : Nat} (hj : j < t.length) (h : hasJ us t j = false) : rateB us t = false := by
  have : ((List.range t.length).all fun j => hasJ us t j) = false := by
    rw [List.all_eq_false]; exact ⟨j, by simpa using hj, by simp [h]⟩
  unfold rateB; rw [this]; rfl
theorem rateB_over {us : List U} {t : List E} {i : Nat} (hi : i ≤ t.length) (h : Coin.okB (sumA (netJ us t) i) = false) : rateB us t = false := by
  have h0 := sumA_nonneg (fun j => (netJ_bd us t j).1) i
  have h1 := sumA_mono (fun j => (netJ_bd us t j).1) hi
  have h2 : Coin.okB (sumA (netJ us t) t.length) = false := by
    cases e : Coin.okB (sumA (netJ us t) t.length)
    · rfl
    · have := Coin.okB_iff.1 e
      have h3 : Coin.okB (sumA (netJ us t) i) = true := Coin.okB_true (by omega)
      rw [h3] at h; cases h
  unfold rateB; rw [h2]; simp
theorem rateB_told {us : List U} {t : List E} (h : allTold (netJ us t) (rateF t) t.length = false) : rateB us t = false := by
  unfold rateB; rw [h]; simp
theorem rateB_end {us : List U} {t : List E} (h1 : ∀ j, j < t.length → hasJ us t j = true) (h2 : Coin.okB (sumA (netJ us t) t.length) = true) (h3 : allTold (netJ us t) (rateF t) t.length = true) : rateB us t = Coin.okB (sumA (netJ us t) t.length + sumA (owed (netJ us t) (rateF t) t.length) t.length) := by
  have : ((List.range t.length).all fun j => hasJ us t j) = true := by
    rw [List.all_eq_true]; intro j hj; exact h1 j (by simpa using hj)
  unfold rateB; rw [this, h2, h3]; simp
theorem okL_parts {t : List E} (h : okL t = true) : t.length ≤ 6 ∧ ∀ j, j < t.length → ruleB (t.getD j E0).2.1 = true ∧ 0 ≤ rateF t j ∧ rateF t j ≤ 5000 := by
  unfold okL at h
  rw [Bool.and_eq_true, decide_eq_true_eq, List.all_eq_true] at h
  refine ⟨h.1, fun j hj => ?_⟩
  have h2 := h.2 j (by simpa using hj)
  unfold badL at h2
  simp only [Bool.not_or, Bool.not_not, Bool.and_eq_true] at h2
  have h3 := h2.1
  unfold lineB at h3
  simp only [Bool.and_eq_true, decide_eq_true_eq] at h3
  exact ⟨h3.2, h3.1.2.1, h3.1.2.2⟩
theorem owed_bd {net rate : Nat → Int} {n j : Nat} (hj : j < n) (hN : 0 ≤ net j ∧ net j ≤ 1000000000000000) (hQ : 0 ≤ rate j ∧ rate j ≤ 5000) : 0 ≤ owed net rate n j ∧ owed net rate n j ≤ 500000000005001 := by
  have := (partJ_bd hN.1 hN.2 hQ.1 hQ.2).2.2.2.2.2.1
  unfold owed spreadF
  split
  · split <;> omega
  · exact ⟨Int.le_refl _, by simp⟩
theorem newR (w : World) (s : ByteArray) (m q : Int) : BRow.RR (w.alloc (.cells #[.string s, .int .i64 m, .int .i64 q] 55)) (.slice (some ⟨w.heap.size, 0, none⟩) 1 1) [(s, m, q)] := by
  have e1 := (MapKept.heap_alloc w (.cells #[.string s, .int .i64 m, .int .i64 q] 55)).1
  refine .inr ⟨w.heap.size, 0, 1, rfl, by simp, fun i hi => ?_⟩
  have : i = 0 := by simpa using hi
  subst this
  simp only [World.cell?]
  rw [e1]
  exact ⟨rfl, rfl, rfl⟩
/-- what BillRate answers -/
def RateOut (w w' : World) (t evs : List E) (us : List U) (v : Value) (c : Int) : Prop :=
  ((okL t && Evs.okB evs) = false ∧ v = .slice none 0 0 ∧ c = 4) ∨ ((okL t && Evs.okB evs) = true ∧ rateB us t = false ∧ v = .slice none 0 0 ∧ c = 6) ∨ ((okL t && Evs.okB evs) = true ∧ rateB us t = true ∧ RN w.heap.size w' v (rated us t) ∧ c = 0)
end Go.Proofs.YtnchgeiinkaefaaGreatDoor.Bill
end

section
/-
  Texts of expressions, read as the program reads them: what may come of a text, as a relation; what is written is read back.
-/
namespace Go.Proofs.YtnchgeiinkaefaaGreatDoor.Rule
set_option linter.unusedVariables false
open Tiers
open Kinds hiding hide unhide below_trans ext_toList

def Low (t : List UInt8) : Prop := ∀ b ∈ t, b.toNat < 128
/-- what ends a word -/
def endB (b : UInt8) : Bool := b == 32 || b == 41
/-- a text parted: the word that it begins with, where all its bytes are below 128 -/
def CutW (t w r : List UInt8) : Prop := t = w ++ r ∧ (Low t → (∀ b ∈ w, endB b = false) ∧ (r = [] ∨ ∃ b u, r = b :: u ∧ endB b = true))
def LeafI (w : List UInt8) (e : Ex) : Prop := (∃ n, Lib.atoiAll w = .ok n ∧ e = .mk 1 n ByteArray.empty [] []) ∨ ((∀ n, Lib.atoiAll w ≠ .ok n) ∧ e = .mk 2 0 (bytesOf w) [] [])
def valI (w : List UInt8) (n : Int) : Prop := ∀ k, Lib.atoiAll w = .ok k → n = k
def trimSp (t : List UInt8) : List UInt8 := if t.head? = some 32 then t.tail else t
/-- kids, each behind a space or none -/
def KidsOf (R : List UInt8 → Ex → List UInt8 → Prop) : List UInt8 → List Ex → List UInt8 → Prop
  | t, [], r => r = t
  | t, e :: es, r => ∃ r1, R (trimSp t) e r1 ∧ KidsOf R r1 es r
theorem KidsOf.snoc {R : List UInt8 → Ex → List UInt8 → Prop} : ∀ {t : List UInt8} {ks : List Ex} {r r' : List UInt8} {e : Ex}, KidsOf R t ks r → R (trimSp r) e r' → KidsOf R t (ks ++ [e]) r'
  | t, [], r, r', e, h, h' => by
    obtain rfl : r = t := h
    exact ⟨r', h', rfl⟩
  | t, k :: ks, r, r', e, h, h' => by
    obtain ⟨r1, h1, h2⟩ := h
    exact ⟨r1, h1, h2.snoc h'⟩
/-- a word behind the kids -/
def OwnI (w : List UInt8) (n : Int) (ts : List (Int × Int)) (n' : Int) (ts' : List (Int × Int)) : Prop :=
  ((Lib.cut w [58]).2.2 = false ∧ valI (Lib.cut w [58]).1 n' ∧ ts' = ts) ∨ ((Lib.cut w [58]).2.2 = true ∧ n' = n ∧ ∃ a b, valI (Lib.cut w [58]).1 a ∧ valI (Lib.cut w [58]).2.1 b ∧ ts' = ts ++ [(a, b)])
def OwnsOf : List (List UInt8) → Int → List (Int × Int) → Int → List (Int × Int) → Prop
  | [], n, ts, n', ts' => n' = n ∧ ts' = ts
  | w :: ws, n, ts, n', ts' => ∃ n1 ts1, OwnI w n ts n1 ts1 ∧ OwnsOf ws n1 ts1 n' ts'
theorem OwnsOf.snoc : ∀ {ws : List (List UInt8)} {w : List UInt8} {n n1 n2 : Int} {ts ts1 ts2 : List (Int × Int)}, OwnsOf ws n ts n1 ts1 → OwnI w n1 ts1 n2 ts2 → OwnsOf (ws ++ [w]) n ts n2 ts2
  | [], w, n, n1, n2, ts, ts1, ts2, h, h' => by
    obtain ⟨rfl, rfl⟩ := h
    exact ⟨n2, ts2, h', rfl, rfl⟩
  | v :: ws, w, n, n1, n2, ts, ts1, ts2, h, h' => by
    obtain ⟨n3, ts3, h1, h2⟩ := h
    exact ⟨n3, ts3, h1, h2.snoc h'⟩
/-- what the program may read of a text -/
def ReadsI : Nat → List UInt8 → Ex → List UInt8 → Prop
  | 0, _, _, _ => False
  | n + 1, t, e, r => (t.head? ≠ some 40 ∧ ∃ w, CutW t w r ∧ LeafI w e) ∨ ∃ t', t = 40 :: t' ∧ ∃ w r1, CutW t' w r1 ∧
      ((opK (bytesOf w) = 0 ∧ e = .mk 0 0 ByteArray.empty [] [] ∧ r = r1) ∨ (opK (bytesOf w) ≠ 0 ∧ ∃ ks r2 ws num ts, (ks.length : Int) = kidsK (opK (bytesOf w)) ∧ KidsOf (ReadsI n) r1 ks r2 ∧ r = (Lib.cut r2 [41]).2.1 ∧ (Low (Lib.cut r2 [41]).1 → ws = Lib.fields (Lib.cut r2 [41]).1) ∧ ws.length ≤ (Lib.cut r2 [41]).1.length ∧ OwnsOf ws 0 [] num ts ∧ e = .mk (opK (bytesOf w)) num ByteArray.empty ks ts))

/-! ### what is written is read -/
theorem takeEnd {w r : List UInt8} (hw : ∀ b ∈ w, endB b = false) (hr : r = [] ∨ ∃ b u, r = b :: u ∧ endB b = true) : (w ++ r).takeWhile (fun b => !endB b) = w ∧ (w ++ r).dropWhile (fun b => !endB b) = r := by
  have h1 : ∀ x ∈ w, (fun b => !endB b) x = true := fun x hx => by simp [hw x hx]
  rcases hr with rfl | ⟨b, t, rfl, hb⟩
  · have e1 := List.takeWhile_append_of_pos (l₂ := []) h1
    have e2 := List.dropWhile_append_of_pos (l₂ := []) h1
    rw [List.append_nil] at e1 e2 ⊢
    rw [e1, e2]; simp
  · rw [List.takeWhile_append_of_pos h1, List.dropWhile_append_of_pos h1]
    simp [hb]
theorem CutW.one {w0 r0 w r : List UInt8} (h : CutW (w0 ++ r0) w r) (hl : Low (w0 ++ r0)) (hw : ∀ b ∈ w0, endB b = false) (hr : r0 = [] ∨ ∃ b u, r0 = b :: u ∧ endB b = true) : w = w0 ∧ r = r0 := by
  obtain ⟨h1, h2⟩ := h
  obtain ⟨h3, h4⟩ := h2 hl
  have a := takeEnd hw hr
  have b := takeEnd h3 h4
  rw [← h1] at b
  exact ⟨b.1.symm.trans a.1, b.2.symm.trans a.2⟩
theorem endB_of {b : UInt8} (h : stopB b = false) : endB b = false := by
  unfold stopB at h
  unfold endB
  simp only [Bool.or_eq_false_iff] at h ⊢
  exact ⟨h.1.1.1, h.1.2⟩
theorem Tail.fin {r : List UInt8} (h : Tail r) : r = [] ∨ ∃ b u, r = b :: u ∧ endB b = true := by
  rcases h with h | ⟨b, t, rfl, hb⟩
  · exact .inl h
  · exact .inr ⟨b, t, rfl, by rcases hb with rfl | rfl <;> decide⟩

theorem low_itoa (n : Int) : Low (Lib.itoa n) := fun b hb => by have := itoa_bytes n b hb; omega
theorem low_letters {l : List UInt8} (h : Letters l) : Low l := fun b hb => by have := h b hb; omega
theorem low_app {a b : List UInt8} (h : Low a) (h' : Low b) : Low (a ++ b) := fun x hx => by
  rcases List.mem_append.1 hx with h1 | h1
  · exact h x h1
  · exact h' x h1
theorem low_cons {c : UInt8} {a : List UInt8} (hc : c.toNat < 128) (h : Low a) : Low (c :: a) := fun x hx => by
  rcases List.mem_cons.1 hx with rfl | h1
  · exact hc
  · exact h x h1
theorem low_nil : Low [] := fun x hx => by cases hx
theorem low_wrT : ∀ ts : List (Int × Int), Low (wrT ts)
  | [] => low_nil
  | t :: ts => low_cons (by decide) (low_app (low_itoa _) (low_cons (by decide) (low_app (low_itoa _) (low_wrT ts))))
theorem low_wrO (k n : Int) (ts : List (Int × Int)) : Low (wrO k n ts) := by
  unfold wrO
  refine low_app ?_ (low_wrT ts)
  split
  · exact low_cons (by decide) (low_itoa _)
  · exact low_nil
mutual
theorem low_wr : ∀ e : Ex, allB e = true → Low (wr e)
  | .mk k n m ks ts, h => by
    rw [allB, Bool.and_eq_true] at h
    rw [wr]
    by_cases k1 : k = 1
    · rw [if_pos k1]; exact low_itoa n
    rw [if_neg k1]
    by_cases k2 : k = 2
    · rw [if_pos k2]; subst k2; exact low_letters (letters_of (node_name h.1).2.1).1
    rw [if_neg k2]
    have h3 := (node_more h.1 k1 k2).1
    exact low_cons (by decide) (low_app (low_letters (word_of h3).1) (low_app (low_wrS ks h.2) (low_app (low_wrO k n ts) (low_cons (by decide) low_nil))))
theorem low_wrS : ∀ l : List Ex, allL l = true → Low (wrS l)
  | [], _ => low_nil
  | e :: es, h => by
    rw [allL, Bool.and_eq_true] at h
    rw [wrS]
    exact low_cons (by decide) (low_app (low_wr e h.1) (low_wrS es h.2))
end
end Go.Proofs.YtnchgeiinkaefaaGreatDoor.Rule
end
