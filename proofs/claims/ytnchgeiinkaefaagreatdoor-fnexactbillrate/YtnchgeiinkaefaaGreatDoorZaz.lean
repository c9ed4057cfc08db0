/-
  Texts of this proof laid together, in build order; each says of itself what it holds.
-/
import Derived.Test.YtnchgeiinkaefaaGreatDoorZay
import Derived.Test.YtnchgeiinkaefaaGreatDoorZap
import Derived.Test.YtnchgeiinkaefaaGreatDoorZak
import Derived.Test.YtnchgeiinkaefaaGreatDoorZax
import Derived.Lib.LaidU8
import Derived.Test.YtnchgeiinkaefaaGreatDoorZas
import Derived.RangeFuncNested
import Derived.RangeFuncBound
import Derived.RangeFuncCalls
import Derived.RangeFuncLeaves
import Derived.Shelf.Abstract
import Derived.Shelf.RegionOpen
import Derived.OwnWalkIn
import Derived.TacticsInMore
import Derived.LoopNIn
import Derived.LoopIn
import Derived.Test.YtnchgeiinkaefaaGreatDoorZaj
import Derived.Test.YtnchgeiinkaefaaGreatDoorZaa
import Derived.Test.YtnchgeiinkaefaaGreatDoorZai
section
/-
  impl.RuleRead.
-/
namespace Go.Proofs.YtnchgeiinkaefaaGreatDoor.Rule
set_option linter.unusedVariables false
open Go.RowKit
open Tiers (T T0 TR hide unhide below_trans)
open Kinds hiding hide unhide below_trans ext_toList

/-- what the program's RuleRead hands out: its memory is its own -/
def ReadOutI (w w' : World) (t : List UInt8) (v : Value) (ok : Bool) : Prop :=
  (ok = true → ∃ e kv tv d, IsRule t e ∧ v = .agg #[.int .i64 e.kind, .int .i64 e.num, .string e.meter, kv, tv] ∧ OX w' d w.heap.size w'.heap.size (e, kv, tv)) ∧ (ok = false → v = .agg #[.int .i64 0, .int .i64 0, .string ⟨#[]⟩, .slice none 0 0, .slice none 0 0] ∧ ∀ e, ¬ IsRule t e)

theorem isRule_reads {t : List UInt8} {e e0 : Ex} {n : Nat} {r : List UInt8} (h : IsRule t e0) (hr : ReadsI n t e r) : textE e = t := by
  have h2 := h.2.1
  have ha := (ok_all h.1).1
  have := reads_wr n e0 [] e r ha (.inl rfl) low_nil (by rw [List.append_nil, h2]; exact hr)
  rw [this.1, textE, h.1]
  exact h2

set_option maxRecDepth 20000 in
set_option maxHeartbeats 1600000 in
theorem readRI (s : ByteArray) (w : World) (hs : s.size ≤ maxLen) (he : EnvR w) :
    Calls Tryz.prog 64 #[.string s] w fun x w' => ∃ v ok, x = .returned (.tuple #[v, .bool ok]) ∧ ReadOutI w w' s.data.toList v ok ∧ Below w.heap.size w w' := by
  unfold maxLen at hs
  have hlen : s.data.toList.length = s.size := Array.length_toList
  by_cases h0 : s.size = 0
  · have hx := isEmpty_yes h0
    have HN : Hid (∀ e, ¬ IsRule s.data.toList e) := hide (fun e h => h.ne (List.length_eq_zero_iff.1 (by omega)))
    go_enter Tryz.func64, Tryz.ntmps64
    go_wp2_with (fail)
    have oo := Boxes.At.new w #[.int .i64 0, .int .i64 0, .string ⟨#[]⟩, .slice none 0 0, .slice none 0 0] 77
    obtain ⟨t0, _⟩ := oo 0 _ rfl
    obtain ⟨t1, _⟩ := oo 1 _ rfl
    obtain ⟨t2, _⟩ := oo 2 _ rfl
    obtain ⟨t3, _⟩ := oo 3 _ rfl
    obtain ⟨t4, _⟩ := oo 4 _ rfl
    exact bodyPost_ret (v := .tuple #[.agg #[.int .i64 0, .int .i64 0, .string ⟨#[]⟩, .slice none 0 0, .slice none 0 0], .bool false]) (by simp [results, Tryz.results64, go_sem, t0, t1, t2, t3, t4]) rfl ⟨_, false, rfl, ⟨fun h => (by cases h), fun _ => ⟨rfl, unhide HN⟩⟩, below_alloc _ _⟩
  have hx := isEmpty_no h0
  by_cases hl : 600 < s.size
  · have HN : Hid (∀ e, ¬ IsRule s.data.toList e) := hide (fun e h => by have := h.2.2; omega)
    have i1 : (600 : Int) < (s.size : Int) := by omega
    go_enter Tryz.func64, Tryz.ntmps64
    go_wp2_with (fail)
    have oo := Boxes.At.new w #[.int .i64 0, .int .i64 0, .string ⟨#[]⟩, .slice none 0 0, .slice none 0 0] 77
    obtain ⟨t0, _⟩ := oo 0 _ rfl
    obtain ⟨t1, _⟩ := oo 1 _ rfl
    obtain ⟨t2, _⟩ := oo 2 _ rfl
    obtain ⟨t3, _⟩ := oo 3 _ rfl
    obtain ⟨t4, _⟩ := oo 4 _ rfl
    exact bodyPost_ret (v := .tuple #[.agg #[.int .i64 0, .int .i64 0, .string ⟨#[]⟩, .slice none 0 0, .slice none 0 0], .bool false]) (by simp [results, Tryz.results64, go_sem, t0, t1, t2, t3, t4]) rfl ⟨_, false, rfl, ⟨fun h => (by cases h), fun _ => ⟨rfl, unhide HN⟩⟩, below_alloc _ _⟩
  have i1 : ¬ (600 : Int) < (s.size : Int) := by omega
  have HR : Hid (∀ W : World, EnvR W → _) := hide (fun W hW => read_all (s.size + 1) s.data.toList W (by omega) (by omega) hW)
  rw [bytes_self] at HR
  have HEW := hide he
  clear he
  go_enter Tryz.func64, Tryz.ntmps64
  go_wp2_with (fail)
  refine (unhide HR _ ((unhide HEW).kept (below_alloc _ _))).mono ?_
  rintro x w1 ⟨e, kv, tv, r, rfl, hrd, hox, hb1⟩
  have hwt := reads_wt _ _ _ _ hrd
  obtain ⟨xa, xc, hxf, _⟩ := hox.2.choose_spec.1.es.form
  obtain ⟨ya, yc, hyf⟩ := hox.2.choose_spec.2.tl.form
  simp only at hxf hyf
  subst hxf hyf
  obtain ⟨q1, hB, hz1⟩ := Boxes.box1 hb1
  have Q1 := hide q1
  have B1 := hide hB
  have hox1 := hox
  rw [World.size_alloc] at hox1
  have HOX := hide hox1
  have HRD := hide hrd
  clear hb1 hB q1 hox hox1 hrd HR
  have hwt2 : wt e ≤ 1048576 := by omega
  go_wp2_with (fail)
  have hE1 : EnvR w1 := (unhide HEW).kept (unhide B1)
  refine (textI (s.size + 1) (w.heap.size + 1) w1.heap.size _ e _ ((unhide HOX).ev.kept (same_below (below_alloc _ _) (Nat.le_refl _))) (by simp) hwt2 (hE1.kept (below_alloc _ _)).1.1).mono ?_
  rintro x w3 ⟨rfl, hb3⟩
  obtain ⟨e0, e1, e2, e3, e4, hB3⟩ := box5 _ _ _ _ _ _ _ _ hb3
  have B3 := hide (below_trans (unhide B1) hB3)
  have hq := (unhide Q1).below hB3 (by omega)
  have Q3 := hide hq
  obtain ⟨c0, f0⟩ := hq 0 _ rfl
  obtain ⟨c1, f1⟩ := hq 1 _ rfl
  obtain ⟨c2, f2⟩ := hq 2 _ rfl
  obtain ⟨c3, f3⟩ := hq 3 _ rfl
  obtain ⟨c4, f4⟩ := hq 4 _ rfl
  have HOX3 : Hid (OX w3 (s.size + 1) (w.heap.size + 1) w1.heap.size (e, .slice xa e.kids.length xc, .slice ya e.tiers.length yc)) := hide ((unhide HOX).kept (same_below hB3 (Nat.le_refl _)))
  have hz3 := hB3.size
  clear hb3 hB3 hq hE1
  by_cases hT : textE e = s.data.toList
  · have hne : (!(bytesOf (textE e)).toList == s.toList) = false := by rw [hT, bytes_self]; simp
    have HI : Hid (IsRule s.data.toList e) := hide (isRule_of hT (fun h => by rw [h] at hlen; simp at hlen; omega) (by omega))
    clear hT
    generalize textE e = tx at *
    go_wp2_with (fail)
    have hA5 := at_put5 (unhide Q3) (.int .i64 e.kind) (.int .i64 e.num) (.string e.meter) (.slice xa e.kids.length xc) (.slice ya e.tiers.length yc)
    obtain ⟨s0, _⟩ := hA5 0 _ rfl
    obtain ⟨s1, _⟩ := hA5 1 _ rfl
    obtain ⟨s2, _⟩ := hA5 2 _ rfl
    obtain ⟨s3, _⟩ := hA5 3 _ rfl
    obtain ⟨s4, _⟩ := hA5 4 _ rfl
    have hfin := below_put5 (unhide B3) (b := w.heap.size) (Nat.le_refl _) (.int .i64 e.kind) (.int .i64 e.num) (.string e.meter) (.slice xa e.kids.length xc) (.slice ya e.tiers.length yc)
    have hW : ∀ c, c ≠ w.heap.size → (((((w3.setCell ⟨w.heap.size, 0, none⟩ (.int .i64 e.kind)).setCell ⟨w.heap.size, 1, none⟩ (.int .i64 e.num)).setCell ⟨w.heap.size, 2, none⟩ (.string e.meter)).setCell ⟨w.heap.size, 3, none⟩ (.slice xa e.kids.length xc)).setCell ⟨w.heap.size, 4, none⟩ (.slice ya e.tiers.length yc)).heap[c]? = w3.heap[c]? := fun c hc => by
      have k : ∀ (V : World) (o : Nat) (u : Value), (V.setCell ⟨w.heap.size, o, none⟩ u).heap[c]? = V.heap[c]? := fun V o u => Below.heap_setCell V ⟨w.heap.size, o, none⟩ u c (by simpa using hc)
      rw [k, k, k, k, k]
    exact bodyPost_ret (v := .tuple #[.agg #[.int .i64 e.kind, .int .i64 e.num, .string e.meter, .slice xa e.kids.length xc, .slice ya e.tiers.length yc], .bool true]) (by simp [results, Tryz.results64, go_sem, s0, s1, s2, s3, s4]) rfl ⟨_, true, rfl, ⟨fun _ => ⟨e, _, _, s.size + 1, unhide HI, rfl, ((unhide HOX3).kept (fun c c1 c2 => hW c (by omega))).mono (by omega) (by simp; omega)⟩, fun h => (by cases h)⟩, hfin⟩
  · have hne : (!(bytesOf (textE e)).toList == s.toList) = true := by
      have : (bytesOf (textE e)).toList ≠ s.toList := fun h => hT (by
        have h2 := Kinds.ext_toList h
        rw [← h2]; simp [bytesOf])
      simpa using this
    have HN : Hid (∀ e', ¬ IsRule s.data.toList e') := hide (fun e' h => hT (isRule_reads h (unhide HRD)))
    clear hT
    generalize textE e = tx at *
    go_wp2_with (fail)
    have hA5 := at_put5 (unhide Q3) (.int .i64 0) (.int .i64 0) (.string ⟨#[]⟩) (.slice none 0 0) (.slice none 0 0)
    obtain ⟨s0, _⟩ := hA5 0 _ rfl
    obtain ⟨s1, _⟩ := hA5 1 _ rfl
    obtain ⟨s2, _⟩ := hA5 2 _ rfl
    obtain ⟨s3, _⟩ := hA5 3 _ rfl
    obtain ⟨s4, _⟩ := hA5 4 _ rfl
    exact bodyPost_ret (v := .tuple #[.agg #[.int .i64 0, .int .i64 0, .string ⟨#[]⟩, .slice none 0 0, .slice none 0 0], .bool false]) (by simp [results, Tryz.results64, go_sem, s0, s1, s2, s3, s4]) rfl ⟨_, false, rfl, ⟨fun h => (by cases h), fun _ => ⟨rfl, unhide HN⟩⟩, below_put5 (unhide B3) (Nat.le_refl _) _ _ _ _ _⟩
end Go.Proofs.YtnchgeiinkaefaaGreatDoor.Rule
end

section
/-
  Lines of a tariff that are right: impl.lineRight.
-/
namespace Go.Proofs.YtnchgeiinkaefaaGreatDoor.Bill
set_option linter.unusedVariables false
open Go.RowKit Evs
open Rule (EnvR IsRule OX readRI ReadOutI)
open Kinds (nameB nameI)

theorem rule_out {w w' : World} {t : ByteArray} {v : Value} {ok : Bool} (h : ReadOutI w w' t.data.toList v ok) : ok = ruleB t := by
  unfold ruleB
  cases ok with
  | true =>
    obtain ⟨e, _, _, _, h1, _⟩ := h.1 rfl
    exact (@decide_eq_true _ (Classical.propDecidable _) ⟨e, h1⟩).symm
  | false => exact (@decide_eq_false _ (Classical.propDecidable _) (fun ⟨e, he⟩ => (h.2 rfl).2 e he)).symm

set_option maxRecDepth 20000 in
set_option maxHeartbeats 1000000 in
/-- impl.lineRight -/
theorem lineI (s m : ByteArray) (q : Int) (W : World) (h1 : s.size ≤ maxLen) (h2 : m.size ≤ maxLen) (he : EnvR W) : Calls Tryz.prog 58 #[.agg #[.string s, .string m, .int .i64 q]] W fun x w' => x = .returned (.bool (lineB (s, m, q))) ∧ Below W.heap.size W w' := by
  have HE := hide he
  generalize hr : lineB (s, m, q) = r
  have HR : Hid ((nameB s && decide (0 ≤ q ∧ q ≤ 5000) && ruleB m) = r) := hide hr
  clear he hr
  go_enter Tryz.func58, Tryz.ntmps58
  go_wp2_with (fail)
  refine (nameI s _ h1).mono ?_
  rintro x w1 ⟨rfl, hb1⟩
  obtain ⟨q1, hB, hz1⟩ := Boxes.box1 hb1
  obtain ⟨c0, _⟩ := q1 0 _ rfl
  obtain ⟨c1, _⟩ := q1 1 _ rfl
  obtain ⟨c2, _⟩ := q1 2 _ rfl
  have HB := hide hB
  clear hb1 hB q1
  cases hn : nameB s
  · have hr : r = false := by rw [← unhide HR, hn]; rfl
    subst hr
    go_wp2_with (fail)
    go_ret
    exact ⟨rfl, unhide HB⟩
  · by_cases hq : 0 ≤ q ∧ q ≤ 5000
    · obtain ⟨b1, b2⟩ := hq
      have b1' : ¬ q < 0 := by omega
      have b2' : ¬ (5000 : Int) < q := by omega
      have HR2 : Hid (ruleB m = r) := hide (by rw [← unhide HR, hn, decide_eq_true ⟨b1, b2⟩]; rfl)
      go_wp2_with (fail)
      refine (readRI m w1 h2 ((unhide HE).kept (unhide HB))).mono ?_
      rintro x w2 ⟨v, ok, rfl, hO, hb2⟩
      have hok := rule_out hO
      rw [unhide HR2] at hok
      subst hok
      have HB2 := hide (below_trans (unhide HB) hb2)
      obtain ⟨e1, e2, e3, a4, n4, k4, a5, n5, k5, hv⟩ : ∃ e1 e2 e3 a4 n4 k4 a5 n5 k5, v = .agg #[.int .i64 e1, .int .i64 e2, .string e3, .slice a4 n4 k4, .slice a5 n5 k5] := by
        cases ok with
        | true =>
          obtain ⟨e, kv, tv, d, _, rfl, hG⟩ := hO.1 rfl
          obtain ⟨xa, xc, hxf, _⟩ := hG.2.choose_spec.1.es.form
          obtain ⟨ya, yc, hyf⟩ := hG.2.choose_spec.2.tl.form
          simp only at hxf hyf
          subst hxf hyf
          exact ⟨_, _, _, _, _, _, _, _, _, rfl⟩
        | false => exact ⟨_, _, _, _, _, _, _, _, _, (hO.2 rfl).1⟩
      subst hv
      clear hO hb2
      go_wp2_with (fail)
      go_ret
      exact ⟨rfl, below_trans (unhide HB2) (Rule.below_alloc _ _)⟩
    · have hr : r = false := by rw [← unhide HR, decide_eq_false hq]; simp
      subst hr
      by_cases b1 : q < 0
      · go_wp2_with (fail)
        go_ret
        exact ⟨rfl, unhide HB⟩
      · have b2 : (5000 : Int) < q := by omega
        go_wp2_with (fail)
        go_ret
        exact ⟨rfl, unhide HB⟩
end Go.Proofs.YtnchgeiinkaefaaGreatDoor.Bill
end

section
/-
  Tariffs that are right: impl.rightInOrder at lines, impl.tariffRight.
-/
namespace Go.Proofs.YtnchgeiinkaefaaGreatDoor.Bill
set_option linter.unusedVariables false
open Go.RowKit RegIn Evs
open Rule (EnvR)

theorem calledL (s m : ByteArray) (q : Int) (W : World) : Calls Tryz.prog 59 #[.agg #[.string s, .string m, .int .i64 q]] W fun x w' => x = .returned (.string s) ∧ Below W.heap.size W w' := by
  go_enter Tryz.func59, Tryz.ntmps59
  go_wp2
  go_ret
  exact ⟨rfl, (Below.refl _ _).alloc (Nat.le_refl _) _⟩

set_option maxHeartbeats 2000000 in
/-- impl.rightInOrder at lines -/
theorem ordL (v : Value) (l : List E) (w : World) (h : ER w v l) (hl : l.length ≤ 1048576) (hs : ∀ u ∈ l, u.1.size ≤ maxLen ∧ u.2.1.size ≤ maxLen) (he : EnvR w) :
    Calls Tryz.prog 57 #[v, .int .i64 6, .func (.func 58) #[] #[], .func (.func 59) #[] #[]] w fun e w' => e = .returned (.bool (okL l)) ∧ Below w.heap.size w w' := by
  by_cases h6 : 6 < l.length
  · rw [okL_long h6]
    obtain ⟨a, c, rfl⟩ := h.slice
    have y : (6 : Int) < l.length := by omega
    clear h
    go_enter Tryz.func57, Tryz.ntmps57
    go_wp2
    go_ret
    exact ⟨rfl, Below.refl _ _⟩
  have y : (l.length : Int) ≤ 6 := by omega
  rcases h with ⟨rfl, a, c, rfl⟩ | ⟨b, o, cap, rfl, hc⟩
  · go_enter Tryz.func57, Tryz.ntmps57
    go_wp2
    refine wp_loop_rounds 1 ?_
    rw [rounds_succ]
    go_wp2
    go_ret
    exact ⟨rfl, Below.refl _ _⟩
  · have HC := hide hc
    have hbs := hc.1
    clear hc
    generalize hr : okL l = r
    have HR := hide hr; clear hr
    go_enter Tryz.func57, Tryz.ntmps57
    go_wp2
    go_loopw [17] (fun i wr => ∃ k : Nat, k ≤ l.length ∧ i = .int .i64 k ∧ Hid (∀ j, j < k → badL l j = false) ∧ Hid (Below w.heap.size w wr)) (fun i _ => l.length - (intOf i).toNat)
    case atStart => exact ⟨0, Nat.zero_le _, rfl, hide (fun j hj => by omega), hide (Below.refl _ _)⟩
    case round =>
      obtain ⟨k, hk, rfl, hd, hb⟩ := hrel
      by_cases hlt : k < l.length
      · obtain ⟨c0, c1, c2⟩ := ((unhide HC).kept (unhide hb)).2 k hlt
        obtain ⟨hsz, hmz⟩ : (l.getD k E0).1.size ≤ maxLen ∧ (l.getD k E0).2.1.size ≤ maxLen := hs _ (by simp [List.getD, hlt])
        have i1 : (0 : Int) ≤ (k : Int) := by omega
        have i2 : (k : Int) < (l.length : Int) := by omega
        have z1 : b < wr.heap.size := Nat.lt_of_lt_of_le hbs (unhide hb).size
        have HBA : Hid (badL l k = (!lineB (l.getD k E0) || (decide (0 < k) && !ltS (l.getD (k - 1) E0).1 (l.getD k E0).1))) := hide rfl
        have k1 : k - 1 < l.length := by omega
        obtain ⟨p0, p1, p2⟩ := ((unhide HC).kept (unhide hb)).2 (k - 1) k1
        generalize hx : l.getD k E0 = x at *
        generalize hp : l.getD (k - 1) E0 = y' at *
        clear hx hp
        obtain ⟨s, m, q⟩ := x
        obtain ⟨t, m', q'⟩ := y'
        simp only at c0 c1 c2 p0 p1 p2 hsz hmz HBA
        have HCA : Hid (∀ W : World, Below w.heap.size w W → Calls Tryz.prog 58 #[.agg #[.string s, .string m, .int .i64 q]] W fun x w' => x = .returned (.bool (lineB (s, m, q))) ∧ Below W.heap.size W w') := hide (fun W hW => lineI s m q W hsz hmz (he.kept hW))
        generalize hR : lineB (s, m, q) = rt at *
        clear hR
        generalize hS : Evs.SW w wr.heap.size b (o + (k - 1) * 3) s m q t m' q' = S
        have HSI : Hid (∀ w2 : World, Evs.SW w wr.heap.size b (o + (k - 1) * 3) s m q t m' q' w2 → S w2) := hide (fun w2 h => by rw [← hS]; exact h)
        have HSE : Hid (∀ w2 : World, S w2 → Evs.SW w wr.heap.size b (o + (k - 1) * 3) s m q t m' q' w2) := hide (fun w2 h => by rw [← hS] at h; exact h)
        clear hS
        have g0 : ∀ g : In S, g.x.cell? ⟨wr.heap.size, 0, none⟩ = some (.string s) := fun g => (unhide HSE _ g.h).1
        have g1 : ∀ g : In S, g.x.cell? ⟨wr.heap.size, 1, none⟩ = some (.string m) := fun g => (unhide HSE _ g.h).2.1
        have g2 : ∀ g : In S, g.x.cell? ⟨wr.heap.size, 2, none⟩ = some (.int .i64 q) := fun g => (unhide HSE _ g.h).2.2.1
        have g3 : ∀ g : In S, g.x.cell? ⟨b, o + (k - 1) * 3, none⟩ = some (.string t) := fun g => (unhide HSE _ g.h).2.2.2.1
        have g4 : ∀ g : In S, g.x.cell? ⟨b, o + (k - 1) * 3 + 1, none⟩ = some (.string m') := fun g => (unhide HSE _ g.h).2.2.2.2.1
        have g5 : ∀ g : In S, g.x.cell? ⟨b, o + (k - 1) * 3 + 2, none⟩ = some (.int .i64 q') := fun g => (unhide HSE _ g.h).2.2.2.2.2.1
        have HCB : Hid (∀ g : In S, Calls Tryz.prog 58 #[.agg #[.string s, .string m, .int .i64 q]] g.x fun x w' => x = .returned (.bool rt) ∧ S w') := hide (fun g => (unhide HCA g.x (unhide HSE _ g.h).2.2.2.2.2.2.2.2).mono (fun x w' ⟨hx, hb⟩ => ⟨hx, unhide HSI _ ((unhide HSE _ g.h).kept hb)⟩))
        have HCC : Hid (∀ (s m : ByteArray) (q : Int) (g : In S), Calls Tryz.prog 59 #[.agg #[.string s, .string m, .int .i64 q]] g.x fun x w' => x = .returned (.string s) ∧ S w') := hide (fun s m q g => (calledL s m q g.x).mono (fun x w' ⟨hx, hb⟩ => ⟨hx, unhide HSI _ ((unhide HSE _ g.h).kept hb)⟩))
        clear HCA
        cases rt with
        | false =>
          have hr : r = false := (unhide HR).symm.trans (okL_bad hlt ((unhide HBA).trans (by simp)))
          subst hr
          go_wp2
          refine wp_region_in S (by kernel_rfl) (by kernel_rfl) (unhide HSI _ ⟨?_, ?_, ?_, ?_, ?_, ?_, ?_, ?_, ?_⟩) ?_
          · go_keep
          · go_keep
          · go_keep
          · go_keep
          · go_keep
          · go_keep
          · simp
          · simp; omega
          · exact below_drewN' ((unhide hb).alloc (unhide hb).size _) 1
          intro hne
          repeat (go_big_quiet_step (first | exact call_in _ (unhide HCB _) | exact call_in _ (unhide HCC _ _ _ _)))
          refine wpQuiet_nil ?_
          rintro _ ⟨g, rfl⟩
          have HG := hide (unhide HSE _ g.h).2.2.2.2.2.2.2.2
          go_wp2
          go_ret
          exact ⟨rfl, unhide HG⟩
        | true =>
          by_cases k0 : k = 0
          · have hd' : Hid (∀ j, j < k + 1 → badL l j = false) := hide (badL_next (unhide hd) ((unhide HBA).trans (by simp [k0])))
            have kn : decide (0 < k) = false := by simp [k0]
            clear k0
            go_wp2
            refine wp_region_in S (by kernel_rfl) (by kernel_rfl) (unhide HSI _ ⟨?_, ?_, ?_, ?_, ?_, ?_, ?_, ?_, ?_⟩) ?_
            · go_keep
            · go_keep
            · go_keep
            · go_keep
            · go_keep
            · go_keep
            · simp
            · simp; omega
            · exact below_drewN' ((unhide hb).alloc (unhide hb).size _) 1
            intro hne
            repeat (go_big_quiet_step (first | exact call_in _ (unhide HCB _) | exact call_in _ (unhide HCC _ _ _ _)))
            refine wpQuiet_nil ?_
            rintro _ ⟨g, rfl⟩
            have HG := hide (unhide HSE _ g.h).2.2.2.2.2.2.2.2
            go_wp2
            exact ⟨⟨k + 1, by omega, by go_num, hd', HG⟩, by simp [intOf]; omega⟩
          · have kn : 0 < k := by omega
            have kk : (0 : Int) < (k : Int) := by omega
            have j1 : (0 : Int) ≤ (k : Int) - 1 := by omega
            have j2 : (k : Int) - 1 < (l.length : Int) := by omega
            have hwr : IntKind.i64.wrap ((k : Int) - 1) = (k : Int) - 1 := IntWalk.i64_in _ ⟨by omega, by omega⟩
            have htn : ((k : Int) - 1).toNat = k - 1 := by omega
            cases hlx : ltS t s with
            | false =>
              have hr : r = false := (unhide HR).symm.trans (okL_bad hlt ((unhide HBA).trans (by simp [kn, hlx])))
              subst hr
              go_wp2
              refine wp_region_in S (by kernel_rfl) (by kernel_rfl) (unhide HSI _ ⟨?_, ?_, ?_, ?_, ?_, ?_, ?_, ?_, ?_⟩) ?_
              · go_keep
              · go_keep
              · go_keep
              · go_keep
              · go_keep
              · go_keep
              · simp
              · simp; omega
              · exact below_drewN' ((unhide hb).alloc (unhide hb).size _) 1
              intro hne
              repeat (go_big_quiet_step (first | exact call_in _ (unhide HCB _) | exact call_in _ (unhide HCC _ _ _ _)))
              refine wpQuiet_nil ?_
              rintro _ ⟨g, rfl⟩
              have HG := hide (unhide HSE _ g.h).2.2.2.2.2.2.2.2
              go_wp2
              go_ret
              exact ⟨rfl, unhide HG⟩
            | true =>
              have hd' : Hid (∀ j, j < k + 1 → badL l j = false) := hide (badL_next (unhide hd) ((unhide HBA).trans (by simp [kn, hlx])))
              go_wp2
              refine wp_region_in S (by kernel_rfl) (by kernel_rfl) (unhide HSI _ ⟨?_, ?_, ?_, ?_, ?_, ?_, ?_, ?_, ?_⟩) ?_
              · go_keep
              · go_keep
              · go_keep
              · go_keep
              · go_keep
              · go_keep
              · simp
              · simp; omega
              · exact below_drewN' ((unhide hb).alloc (unhide hb).size _) 1
              intro hne
              repeat (go_big_quiet_step (first | exact call_in _ (unhide HCB _) | exact call_in _ (unhide HCC _ _ _ _)))
              refine wpQuiet_nil ?_
              rintro _ ⟨g, rfl⟩
              have HG := hide (unhide HSE _ g.h).2.2.2.2.2.2.2.2
              go_wp2
              exact ⟨⟨k + 1, by omega, by go_num, hd', HG⟩, by simp [intOf]; omega⟩
      · have hr : r = true := (unhide HR).symm.trans (okL_true (by omega) (fun j hj => unhide hd j (by omega)))
        subst hr
        go_wp2
        go_ret
        exact ⟨rfl, unhide hb⟩

/-- impl.tariffRight -/
theorem tarI (v : Value) (l : List E) (w : World) (h : ER w v l) (hl : l.length ≤ 1048576) (hs : ∀ u ∈ l, u.1.size ≤ maxLen ∧ u.2.1.size ≤ maxLen) (he : EnvR w) :
    Calls Tryz.prog 40 #[v] w fun e w' => e = .returned (.bool (okL l)) ∧ Below w.heap.size w w' := by
  have HO := hide (ordL v l w h hl hs he)
  generalize okL l = z at HO ⊢
  clear h hs he
  go_enter Tryz.func40, Tryz.ntmps40
  go_wp2_with (fail)
  refine (unhide HO).mono ?_
  rintro e w' ⟨rfl, hb⟩
  go_wp2
  go_ret
  exact ⟨rfl, hb⟩
end Go.Proofs.YtnchgeiinkaefaaGreatDoor.Bill
end

section
/-
  What the listed package variables give: all that the reader of tariffs reads.
-/
namespace Go.Proofs.YtnchgeiinkaefaaGreatDoor.Laid
open Go.RowKit

theorem gAS : Tryz.prog.globalNamed "strings.asciiSpace" = some 1 := by kernel_rfl
theorem tAS : (Tryz.prog.globals[1]?).map (·.type) = some 228 := by kernel_rfl
theorem cAS : Tryz.prog.cellsOf 228 = 256 := by kernel_rfl
theorem cU8 : Tryz.prog.cellsOf 5 = 1 := by kernel_rfl
theorem dAS : (Rows.laid_strings_asciiSpace : DataW Unit) = Lib.tabData .u8 Lib.asciiSpaceTab := by kernel_rfl
theorem dWS : (Rows.laid_unicode_White_Space : DataW Unit) = Lib.whiteData := by kernel_rfl

theorem env7 {W : World} {x y : String × DataW Unit} {rest : List (String × DataW Unit)} (hsh : W.ShapedOpen Tryz.prog) (h : laidMet Tryz.prog (x :: y :: ("internal/strconv.uint64pow10", Rows.laid_internal_strconv_uint64pow10) :: ("strconv.ErrRange", Rows.laid_strconv_ErrRange) :: ("strconv.ErrSyntax", Rows.laid_strconv_ErrSyntax) :: ("unicode.White_Space", Rows.laid_unicode_White_Space) :: ("strings.asciiSpace", Rows.laid_strings_asciiSpace) :: rest) W) : Rule.EnvR W := by
  refine ⟨env5 hsh h, ?_, ?_⟩
  · have h6 := h.tail.tail.tail.tail.tail.tail
    rw [dAS] at h6
    exact Lib.tabIs_of_head gAS tAS Tryz.underlying228 Tryz.underlying5 cU8 cAS h6
  · have h5 := Lib.laidMet.reads h (n := "unicode.White_Space") (d := Rows.laid_unicode_White_Space) (.tail _ (.tail _ (.tail _ (.tail _ (.tail _ (.head _))))))
    rw [dWS] at h5
    exact whiteTab_of_reads { Tryz.lays157 with } ⟨by kernel_rfl, by kernel_rfl, by kernel_rfl, by kernel_rfl, by kernel_rfl, by kernel_rfl, by kernel_rfl, by kernel_rfl⟩ h5
end Go.Proofs.YtnchgeiinkaefaaGreatDoor.Laid
end

section
/-
  The closure that netRows hands out: the row of each line, without its tax, or the error with which its rule ends.
-/
namespace Go.Proofs.YtnchgeiinkaefaaGreatDoor.Bill
set_option linter.unusedVariables false
open Go.RowKit Evs Go.Shelf
open Rule (EnvR IsRule OX readRI ReadOutI RunOf runS runI)
open Uses (U UR UC)

attribute [local go_sem] Oper.semAt_some

/-- what a round keeps: all that lies below B, and every row of cells from B2 on -/
structure KpC (B B2 : Nat) (W W' : World) : Prop where
  os : W'.os = W.os
  tape : W'.tape = W.tape
  output : W'.output = W.output
  size : W.heap.size ≤ W'.heap.size
  same : ∀ (j : Nat) (o : Obj), W.heap[j]? = some o → (j < B ∨ B2 ≤ j ∧ o.isCells = true) → W'.heap[j]? = some o
theorem KpC.trans {B B2 : Nat} {A C D : World} (h : KpC B B2 A C) (k : KpC B B2 C D) : KpC B B2 A D :=
  ⟨k.os.trans h.os, k.tape.trans h.tape, k.output.trans h.output, Nat.le_trans h.size k.size, fun j o hj ho => k.same j o (h.same j o hj ho) ho⟩
theorem KpC.put {B B2 : Nat} {n : Nat} (hn : B ≤ n) (W : World) (l : Nat) (o o' : Obj) (hl : n ≤ l) (h : W.heap[l]? = some o) (hc : o.isCells = false) (_ : o.isWalk = false) : KpC B B2 W (W.putObj l o') := by
  have hg := grownBy_putObj' W l o'
  refine ⟨hg.os, hg.tape, hg.output, hg.size, fun j x hj hx => ?_⟩
  have hjs : j < W.heap.size := by
    refine Nat.lt_of_not_le fun hle => ?_
    rw [Array.getElem?_eq_none hle] at hj; simp at hj
  have hne : some j ≠ some l := by
    intro e
    simp only [Option.some.injEq] at e
    subst e
    rw [hj] at h
    simp only [Option.some.injEq] at h
    subst h
    rcases hx with hx | ⟨_, hx⟩
    · omega
    · rw [hc] at hx; simp at hx
  exact (hg.block j hjs hne).trans hj
theorem KpC.cell {B B2 : Nat} {W W' : World} (h : KpC B B2 W W') {j o : Nat} {v : Value} (hc : W.cell? ⟨j, o, none⟩ = some v) (hj : j < B ∨ B2 ≤ j) : W'.cell? ⟨j, o, none⟩ = some v := by
  obtain ⟨x, hx, hxc⟩ := cells_of_cell hc
  have := h.same j x hx (hj.imp id (fun e => ⟨e, hxc⟩))
  exact (World.cell?_of_block (this.trans hx.symm)).trans hc
theorem KpC.below {B B2 : Nat} {W W' : World} (h : KpC B B2 W W') (hB : B ≤ W.heap.size) : Below B W W' :=
  ⟨h.os, h.tape, h.output, h.size, fun j hj => by
    have hjs : j < W.heap.size := by omega
    have hx : W.heap[j]? = some W.heap[j] := Array.getElem?_eq_getElem hjs
    rw [h.same j _ hx (.inl hj), hx]⟩
theorem KpC.grown {B B2 : Nat} {W W' : World} {r : Option Nat} (hg : W.grownBy W' r) (hr : ∀ j, r = some j → B ≤ j ∧ j < B2) : KpC B B2 W W' :=
  ⟨hg.os, hg.tape, hg.output, hg.size, fun j o hj ho => by
    have hjs : j < W.heap.size := by
      refine Nat.lt_of_not_le fun hle => ?_
      rw [Array.getElem?_eq_none hle] at hj; simp at hj
    refine (hg.block j hjs ?_).trans hj
    intro e
    have := hr j e.symm
    omega⟩
theorem KpC.ofBelow {B B2 : Nat} {W W' : World} (h : Below W.heap.size W W') : KpC B B2 W W' := KpC.grown (growB h none) (by simp)
theorem UC.keptC {B B2 : Nat} {W W' : World} {b o : Nat} {l : List U} (h : UC W b o l) (hk : KpC B B2 W W') (hb : B2 ≤ b) : UC W' b o l :=
  ⟨Nat.lt_of_lt_of_le h.1 hk.size, fun i hi => ⟨hk.cell (h.2 i hi).1 (.inr hb), hk.cell (h.2 i hi).2 (.inr hb)⟩⟩

/-- what is yielded: a row's name, what it comes to, and whether its rule came to anything -/
abbrev Y := ByteArray × Int × Bool
abbrev yV (x : Y) : Array Value := #[.agg #[.string x.1, .int .i64 x.2.1, .int .i64 0], if x.2.2 then .nilIface else .iface 84 (.int .i64 6)]
noncomputable def seqY (us : List U) (t : List E) (k : Nat) : List Y := (List.range k).map fun j => ((t.getD j E0).1, netJ us t j, hasJ us t j)
theorem seqY_len (us : List U) (t : List E) (k : Nat) : (seqY us t k).length = k := by simp [seqY]
theorem seqY_succ (us : List U) (t : List E) (k : Nat) : seqY us t (k + 1) = seqY us t k ++ [((t.getD k E0).1, netJ us t k, hasJ us t k)] := by
  unfold seqY; rw [List.range_succ, List.map_append]; rfl
theorem seqY_pre (us : List U) (t : List E) {k n : Nat} (h : k ≤ n) : seqY us t k <+: seqY us t n := by
  unfold seqY
  obtain ⟨m, rfl⟩ : ∃ m, n = k + m := ⟨n - k, by omega⟩
  rw [List.range_add, List.map_append]
  exact ⟨_, rfl⟩

set_option maxRecDepth 100000 in
set_option maxHeartbeats 4000000 in
theorem net1 (n : Nat) (hn : 1 ≤ n) (lp Bt Bu B2 : Nat) (w0 : World) (ta : Option Addr) (tc : Nat) (t : List E) (uv : Value) (us : List U) (hT : ER w0 (.slice ta t.length tc) t) (hts : ∀ u ∈ t, u.1.size ≤ maxLen ∧ u.2.1.size ≤ maxLen) (hEn : EnvR w0) (hrb : ∀ j, j < t.length → ruleB (t.getD j E0).2.1 = true) (hul : us.length ≤ 1048576) (h6 : t.length ≤ 6)
    (h02 : w0.heap.size ≤ B2) (hBt2 : B2 ≤ Bt) (hBu2 : B2 ≤ Bu) (J Jx : List Y → World → Prop)
    (W : World) (hW0 : Below w0.heap.size w0 W) (hJa : AbidesFrom W.heap.size J)
    (hY : ∀ pre x W1, J pre W1 → pre.length < t.length → YieldAt Fence.wide (n - 1) Tryz.prog lp (yV x) W1 fun e W' =>
      (e = .returned (.bool true) ∧ J (pre ++ [x]) W' ∧ KpC w0.heap.size B2 W1 W') ∨ (e = .returned (.bool false) ∧ Jx (pre ++ [x]) W'))
    (hBt : W.cell? ⟨Bt, 0, none⟩ = some (.slice ta t.length tc)) (hBu : W.cell? ⟨Bu, 0, none⟩ = some uv) (hU : (us = [] ∧ ∃ a c, uv = .slice a 0 c) ∨ ∃ b o cap, uv = .slice (some ⟨b, o, none⟩) us.length cap ∧ UC W b o us ∧ B2 ≤ b) (h0 : J [] W) :
    CallsIn Fence.wide n Tryz.prog 63 #[.func (.yield lp) #[] #[], .pointer (some ⟨Bt, 0, none⟩), .pointer (some ⟨Bu, 0, none⟩)] W fun e W' => (∃ v, e = .returned v) ∧
      ((∃ ys, ys = seqY us t t.length ∧ J ys W') ∨ (∃ pre, pre <+: seqY us t t.length ∧ Jx pre W')) := by
  have HJ := hide hJa
  have HY := hide hY
  have H0 := hide h0
  have HT := hide hT
  have HTS := hide hts
  have HE := hide hEn
  have HRB := hide hrb
  have HW0 := hide hW0
  have HBU := hide hBu
  obtain ⟨ua, uc, hUF⟩ : ∃ a c, uv = .slice a us.length c := by
    rcases hU with ⟨rfl, a, c, rfl⟩ | ⟨b, o, cap, rfl, _⟩
    · exact ⟨_, _, rfl⟩
    · exact ⟨_, _, rfl⟩
  have HUK : Hid (∀ W', KpC w0.heap.size B2 W W' → UR W' uv us) := hide (fun W' hk => by
    rcases hU with ⟨rfl, a, c, rfl⟩ | ⟨b, o, cap, rfl, hc, hb⟩
    · exact .inl ⟨rfl, a, c, rfl⟩
    · exact .inr ⟨b, o, cap, rfl, UC.keptC hc hk hb⟩)
  subst hUF
  have hz0 := hW0.size
  clear hJa hY h0 hT hts hEn hrb hW0 hU hBu
  refine callsIn_of_wp Tryz.func63 rfl trivial ?_ rfl
  simp only [Tryz.ntmps63, List.size_toArray, List.length_cons, List.length_nil, Nat.reduceAdd, Nat.reduceSub, Array.replicate_succ, Array.replicate_zero, List.push_toArray, List.append_toArray, List.nil_append, List.cons_append]
  gi_wp2
  gi_loopw [14] (fun i wr => ∃ k : Nat, k ≤ t.length ∧ i = .int .i64 k ∧ Hid (J (seqY us t k) wr) ∧ Hid (KpC w0.heap.size B2 W wr)) (fun i _ => t.length - (intOf i).toNat)
  case atStart => exact ⟨0, Nat.zero_le _, rfl, H0, hide ⟨rfl, rfl, rfl, Nat.le_refl _, fun _ _ h _ => h⟩⟩
  case round =>
    obtain ⟨k, hk, rfl, hJs, hnx⟩ := hrel
    have hbw : Below w0.heap.size w0 wr := (unhide HW0).trans ((unhide hnx).below hz0)
    have HBW := hide hbw
    by_cases hlt : k < t.length
    · obtain ⟨b2, o2, cap2, hcf, hc⟩ : ∃ b2 o2 cap2, Value.slice ta t.length tc = .slice (some ⟨b2, o2, none⟩) t.length cap2 ∧ EC w0 b2 o2 t := by
        rcases unhide HT with ⟨h, _⟩ | h
        · rw [h] at hlt; simp at hlt
        · exact h
      simp only [Value.slice.injEq, true_and] at hcf
      obtain ⟨rfl, rfl⟩ := hcf
      obtain ⟨c0, c1, c2⟩ := (hc.kept hbw).2 k hlt
      have i1 : (0 : Int) ≤ (k : Int) := by omega
      have i2 : (k : Int) < (t.length : Int) := by omega
      obtain ⟨_, hmz⟩ := unhide HTS (t.getD k E0) (by simp [List.getD, hlt])
      have hrbk := unhide HRB k hlt
      have HSC := hide (seqY_succ us t k)
      have HNJ : Hid (netJ us t k = (netO us (t.getD k E0).2.1).getD 0) := hide (by unfold netJ; rw [if_pos hlt])
      have HHJ : Hid (hasJ us t k = (netO us (t.getD k E0).2.1).isSome) := hide rfl
      have hBuc := (unhide hnx).cell (unhide HBU) (.inr hBu2)
      clear hc hbw
      generalize t.getD k E0 = y at *
      obtain ⟨s, m, q⟩ := y
      simp only at c0 c1 c2 hmz hrbk HSC HNJ HHJ
      gi_wp2_with (fail)
      have ba := Rule.below_alloc wr (.cells #[.string s, .string m, .int .i64 q] 52)
      refine ⟨trivial, (callsIn_wide.2 (readRI m _ hmz ((unhide HE).kept ((unhide HBW).trans (ba.mono (unhide HBW).size))))).mono ?_⟩
      rintro x w1 ⟨v, ok, rfl, hO, hb1⟩
      have hok := rule_out hO
      rw [hrbk] at hok
      subst hok
      obtain ⟨e, kv, tv, d, hI, rfl, hOX⟩ := hO.1 rfl
      have hE := hOX.ev
      simp only at hE
      obtain ⟨ka, kc, ya, yc, hf⟩ := hE.form
      simp only [Rule.exV, Value.agg.injEq, Array.mk.injEq, List.cons.injEq, and_true, true_and] at hf
      obtain ⟨rfl, rfl⟩ := hf
      obtain ⟨q1, hB1, hz1⟩ := Boxes.box1 hb1
      have hwt : Rule.wt e ≤ 1048576 := by
        have h3 := hI.2.2
        have h4 := Rule.exprS_wt 8 _ _ _ hI.read
        simp only [List.length_nil] at h4
        omega
      have HI := hide hI
      have bw := Rule.below_alloc w1 (.cells #[.int .i64 e.kind, .int .i64 e.num, .string e.meter, .slice ka e.kids.length kc, .slice ya e.tiers.length yc] 77)
      have HB2 := hide (hB1.trans (bw.mono (by omega)))
      have n0 := ((q1.below bw (by omega)) 0 _ rfl).1
      have HEV2 := hide (Rule.keptE hE (Nat.le_refl _) bw)
      have HU2 := hide (unhide HUK _ ((unhide hnx).trans (KpC.ofBelow (unhide HB2))))
      have hBu2 := ((unhide HB2).cell (p := ⟨Bu, 0, none⟩) (Rule.lt_of_cell hBuc)).trans hBuc
      clear hO hOX hb1 q1 hB1 c0 c1 c2 bw ba hBuc
      obtain ⟨_, _, _, ⟨sv, sc, st, _, hRun, _⟩, _⟩ := runS us hul d _ _ _ _ e 1000 _ (unhide HEV2) (by simp) hwt (unhide HU2) []
      have HRN := hide hRun
      clear hRun hE hI
      gi_wp2_with (fail)
      refine ⟨trivial, (callsIn_wide.2 (runI us hul d _ _ _ _ e 1000 _ (unhide HEV2) (by simp) hwt (unhide HU2) sv sc st (unhide HRN))).mono ?_⟩
      rintro x w2 ⟨rfl, hb2⟩
      have HK2 := hide ((unhide hnx).trans (KpC.ofBelow ((unhide HB2).trans (hb2.mono (unhide HB2).size))))
      have HJ2 := hide (unhide HJ (seqY us t k) wr w2 none (unhide hJs) (growB ((unhide HB2).trans (hb2.mono (unhide HB2).size)) none) (by simp))
      have n1 := (hb2.cell (p := ⟨wr.heap.size, 0, none⟩) (by simp; omega)).trans n0
      have hsc : 0 ≤ sc ∧ (sc ≠ 0 → sv = 0) := by
        have h2 := unhide HRN
        unfold RunOf at h2
        rw [if_pos ⟨(unhide HI).1, by omega, by omega⟩] at h2
        obtain ⟨n', c', l', _, hc, _, hv, _⟩ := h2
        refine ⟨by omega, fun h => ?_⟩
        rw [hv, if_neg (by omega)]
      obtain ⟨hsc0, hsv0⟩ := hsc
      by_cases hc : sc = 0
      · subst hc
        have HN : NetOf us m (if sv < 0 then 0 else sv) := ⟨e, sv, st, unhide HI, unhide HRN, rfl⟩
        have hnj : netJ us t k = max sv 0 := by
          rw [unhide HNJ, netO_some HN]
          simp only [Option.getD_some]
          split <;> omega
        have hhj : hasJ us t k = true := by rw [unhide HHJ, netO_some HN]; rfl
        have HSQ : Hid (seqY us t (k + 1) = seqY us t k ++ [(s, max sv 0, true)]) := hide (by rw [unhide HSC, hnj, hhj])
        clear HN hnj hhj n0 hBu2 hsv0 hsc0
        obtain ⟨nj, hnj⟩ : ∃ nj, max sv 0 = nj := ⟨_, rfl⟩
        rw [hnj] at HSQ
        obtain ⟨fn, tmps, assign, body, hy, hR⟩ := unhide HY (seqY us t k) (s, nj, true) w2 (unhide HJ2) (by rw [seqY_len]; exact hlt)
        simp only [yV, ↓reduceIte] at hy
        have HR := hide hR
        clear hR hb2
        gi_wp2
        refine (unhide HR).mono ?_
        rintro e3 W3 (⟨rfl, hJ3, hk3⟩ | ⟨rfl, hJx3⟩)
        · have HJ3 : Hid (J (seqY us t (k + 1)) W3) := hide (by rw [unhide HSQ]; exact hJ3)
          have HK3 := hide ((unhide HK2).trans hk3)
          clear hJ3 hk3
          gi_wp2
          go_roundw
          case rel => exact ⟨k + 1, by omega, by go_num, HJ3, HK3⟩
          case measure => simp [intOf]; omega
        · have HJ3 : Hid (Jx (seqY us t (k + 1)) W3) := hide (by rw [unhide HSQ]; exact hJx3)
          clear hJx3
          gi_wp2
          refine bodyPost_ret (results_none rfl _ _ _) rfl ?_
          exact ⟨⟨_, rfl⟩, .inr ⟨_, seqY_pre us t hlt, unhide HJ3⟩⟩
      · have HN : netO us m = none := netO_none (fun n ⟨e', v', f', k1, k2, _⟩ => by
          obtain rfl := (unhide HI).one k1
          exact hc ((unhide HRN).det k2).2.1)
        have hnj : netJ us t k = 0 := by rw [unhide HNJ, HN]; rfl
        have hhj : hasJ us t k = false := by rw [unhide HHJ, HN]; rfl
        have HSQ : Hid (seqY us t (k + 1) = seqY us t k ++ [(s, 0, false)]) := hide (by rw [unhide HSC, hnj, hhj])
        obtain rfl := hsv0 hc
        have hbc : (sc != 0) = true := bne_iff_ne.2 hc
        clear HN hnj hhj n0 hBu2 hsv0 hsc0 hc
        obtain ⟨fn, tmps, assign, body, hy, hR⟩ := unhide HY (seqY us t k) (s, 0, false) w2 (unhide HJ2) (by rw [seqY_len]; exact hlt)
        simp only [yV, ↓reduceIte, Bool.false_eq_true] at hy
        have HR := hide hR
        clear hR hb2
        gi_wp2
        refine (unhide HR).mono ?_
        rintro e3 W3 (⟨rfl, hJ3, hk3⟩ | ⟨rfl, hJx3⟩)
        · have HJ3 : Hid (J (seqY us t (k + 1)) W3) := hide (by rw [unhide HSQ]; exact hJ3)
          have HK3 := hide ((unhide HK2).trans hk3)
          clear hJ3 hk3
          gi_wp2
          go_roundw
          case rel => exact ⟨k + 1, by omega, by go_num, HJ3, HK3⟩
          case measure => simp [intOf]; omega
        · have HJ3 : Hid (Jx (seqY us t (k + 1)) W3) := hide (by rw [unhide HSQ]; exact hJx3)
          clear hJx3
          gi_wp2
          refine bodyPost_ret (results_none rfl _ _ _) rfl ?_
          exact ⟨⟨_, rfl⟩, .inr ⟨_, seqY_pre us t hlt, unhide HJ3⟩⟩
    · have HE2 := hide (show k = t.length by omega)
      have hk2 := unhide HE2
      subst hk2
      gi_wp2
      go_end0
      exact ⟨⟨_, rfl⟩, .inl (unhide hJs)⟩

/-- what netRows hands out, as the loop over it wants it -/
theorem net_stops (n : Nat) (hn : 1 ≤ n) (Bt Bu B2 : Nat) (w0 : World) (ta : Option Addr) (tc : Nat) (t : List E) (uv : Value) (us : List U) (hT : ER w0 (.slice ta t.length tc) t) (hts : ∀ u ∈ t, u.1.size ≤ maxLen ∧ u.2.1.size ≤ maxLen) (hEn : EnvR w0) (hrb : ∀ j, j < t.length → ruleB (t.getD j E0).2.1 = true) (hul : us.length ≤ 1048576) (h6 : t.length ≤ 6)
    (h02 : w0.heap.size ≤ B2) (hBt2 : B2 ≤ Bt) (hBu2 : B2 ≤ Bu) (w : World) (hW0 : Below w0.heap.size w0 w)
    (hBts : Bt < w.heap.size) (hBus : Bu < w.heap.size) (hBt : w.cell? ⟨Bt, 0, none⟩ = some (.slice ta t.length tc)) (hBu : w.cell? ⟨Bu, 0, none⟩ = some uv) (hU : (us = [] ∧ ∃ a c, uv = .slice a 0 c) ∨ ∃ b o cap, uv = .slice (some ⟨b, o, none⟩) us.length cap ∧ UC w b o us ∧ B2 ≤ b) :
    SeqStopsK Fence.wide n Tryz.prog 63 #[.pointer (some ⟨Bt, 0, none⟩), .pointer (some ⟨Bu, 0, none⟩)] yV (KpC w0.heap.size B2) (fun ys => ys = seqY us t t.length) (fun pre => pre <+: seqY us t t.length) t.length w :=
  fun lp J Jx W hW hJ _ hY h0 =>
    net1 n hn lp Bt Bu B2 w0 ta tc t uv us hT hts hEn hrb hul h6 h02 hBt2 hBu2 J Jx W (hW0.trans (hW.mono hW0.size)) hJ hY ((hW.cell (p := ⟨Bt, 0, none⟩) hBts).trans hBt) ((hW.cell (p := ⟨Bu, 0, none⟩) hBus).trans hBu)
      (by
        rcases hU with h | ⟨b, o, cap, rfl, hc, hb⟩
        · exact .inl h
        · exact .inr ⟨b, o, cap, rfl, UC.keptC hc (KpC.ofBelow (B := w0.heap.size) (B2 := B2) hW) hb, hb⟩) h0

theorem netRows (n : Nat) (v u : Value) (hv : v.oneCell' = true) (hu : u.oneCell' = true) (w : World) :
    CallsIn Fence.wide n Tryz.prog 42 #[v, u] w fun e w' => e = .returned (.func (.func 63) #[] #[.pointer (some ⟨w.heap.size, 0, none⟩), .pointer (some ⟨w.heap.size + 1, 0, none⟩)]) ∧ w' = (w.alloc (.cells #[v] 29)).alloc (.cells #[u] 48) := by
  refine callsIn_of_wp Tryz.func42 rfl trivial ?_ rfl
  simp only [Tryz.ntmps42, List.size_toArray, List.length_cons, List.length_nil, Nat.reduceAdd, Nat.reduceSub, Array.replicate_succ, Array.replicate_zero, List.push_toArray, List.append_toArray, List.nil_append, List.cons_append]
  gi_wp2
  go_ret
  exact ⟨rfl, rfl⟩
end Go.Proofs.YtnchgeiinkaefaaGreatDoor.Bill
end

section
/-
  impl.rateRows: the rows while they are filled; a code as an error.
-/
namespace Go.Proofs.YtnchgeiinkaefaaGreatDoor.Bill
set_option linter.unusedVariables false
open Go.RowKit Evs Go.Shelf
open Tax
open BRow (R R0 RC RR ROwn RN infoR)

theorem makeRC (n : Nat) (hn : n ≤ 1048576) (w : World) : (Instr.makeSlice 26 (.int .i64 0) (.int .i64 (n : Int))).run Tryz.prog w = .ok (.slice (some ⟨w.heap.size, 0, none⟩) 0 n) (w.alloc (.cells (madeCells #[.string ByteArray.empty, .int .i64 0, .int .i64 0] (n * 3)) 55)) := by
  obtain ⟨i, hi, h2⟩ := Option.map_eq_some_iff.1 infoR
  simp only [Prod.mk.injEq] at h2
  obtain ⟨hz, hs, hb⟩ := h2
  have := run_make (P := Tryz.prog) w 26 55 i _ Tryz.underlying26 hi hz .i64 .i64 0 n (by omega) (by omega) (by rw [hb]; omega) (by omega)
  have e : (Value.agg #[.string ByteArray.empty, .int .i64 0, .int .i64 0]).cells = #[.string ByteArray.empty, .int .i64 0, .int .i64 0] := rfl
  rw [hs, e] at this
  simpa using this

/-- a code as an error -/
def errV (c : Int) : Value := if c = 0 then .nilIface else .iface 84 (.int .i64 c)

/-- the row while it is filled -/
def padR (n : Nat) (pre : List R) : List R := pre ++ List.replicate (n - pre.length) R0
theorem padR_len {n : Nat} {pre : List R} (h : pre.length ≤ n) : (padR n pre).length = n := by unfold padR; simp; omega
theorem padR_pos {n : Nat} (pre : List R) (h : 0 < n) : 0 < (padR n pre).length := by unfold padR; simp; omega
theorem padR_step {n : Nat} {pre : List R} (h : pre.length < n) (x : R) : (padR n pre).set pre.length x = padR n (pre ++ [x]) := by
  unfold padR
  have e : n - pre.length = (n - (pre.length + 1)) + 1 := by omega
  rw [e, List.replicate_succ, List.set_append_right _ _ (Nat.le_refl _), Nat.sub_self, List.set_cons_zero]
  simp
theorem padR_full {n : Nat} {pre : List R} (h : pre.length = n) : padR n pre = pre := by unfold padR; simp [h]

theorem rown_keptR {W W' : World} {b : Nat} {L : List R} {row : Option Nat} (h : ROwn W b L) (hL : 0 < L.length) (hg : W.grownBy W' row) (hr : ∀ r, row = some r → ∃ o : Obj, W.heap[r]? = some o ∧ o.isCells = false) : ROwn W' b L := by
  obtain ⟨o, ho, hc⟩ := cells_of_cell (h.1.2 0 hL).1
  have hk := grownBy_keeps_cells hg hr ho hc
  refine ⟨⟨Nat.lt_of_lt_of_le h.1.1 hg.size, fun i hi => ?_⟩, fun j => ?_⟩
  · obtain ⟨c0, c1, c2⟩ := h.1.2 i hi
    have key : ∀ o : Nat, W'.cell? ⟨b, o, none⟩ = W.cell? ⟨b, o, none⟩ := fun o => World.cell?_of_block hk
    exact ⟨(key _).trans c0, (key _).trans c1, (key _).trans c2⟩
  · have key : W'.frozen? ⟨b, j, none⟩ = W.frozen? ⟨b, j, none⟩ := World.frozen?_of_block hk
    exact key.trans (h.2 j)

/-- one more, where there is room -/
theorem app_runR {W : World} {S n : Nat} {pre : List R} (s : ByteArray) (m q : Int) (h : ROwn W S (padR n pre)) (hp : pre.length < n) (ty : TypeId) :
    (Builtin.append_ #[26, 26] ty #[.slice (some ⟨S, 0, none⟩) pre.length n, .slice (some ⟨W.heap.size, 0, none⟩) 1 1]).run Tryz.prog (W.alloc (.cells #[.string s, .int .i64 m, .int .i64 q] 55)) =
      .ok (.slice (some ⟨S, 0, none⟩) (pre.length + 1) n) ((((W.alloc (.cells #[.string s, .int .i64 m, .int .i64 q] 55)).setCell ⟨S, pre.length * 3, none⟩ (.string s)).setCell ⟨S, pre.length * 3 + 1, none⟩ (.int .i64 m)).setCell ⟨S, pre.length * 3 + 2, none⟩ (.int .i64 q)) := by
  obtain ⟨i, hi, h2⟩ := Option.map_eq_some_iff.1 infoR
  simp only [Prod.mk.injEq] at h2
  obtain ⟨hz, hs, hb⟩ := h2
  have hk := h.kept ((Below.refl W.heap.size W).alloc (Nat.le_refl _) (.cells #[.string s, .int .i64 m, .int .i64 q] 55))
  have hlt : pre.length < (padR n pre).length := by rw [padR_len (by omega)]; exact hp
  obtain ⟨c0, c1, c2⟩ := hk.1.2 pre.length hlt
  rw [Nat.zero_add] at c0 c1 c2
  have e1 := (MapKept.heap_alloc W (.cells #[.string s, .int .i64 m, .int .i64 q] 55)).1
  have := run_append_room_cells (P := Tryz.prog) (W.alloc (.cells #[.string s, .int .i64 m, .int .i64 q] 55)) 26 ty 55 i Tryz.underlying26 hi S 0 pre.length n ⟨W.heap.size, 0, none⟩ 1 1 [.string s, .int .i64 m, .int .i64 q] (by rw [hs]; rfl)
    (World.news_of_block e1)
    (by simp [Value.oneCell']) (by omega)
    (fun j hj => by
      rw [hs]
      match j, hj with
      | 0, _ => simp [c0]
      | 1, _ => simp [c1]
      | 2, _ => simp [c2]
      | j + 3, hj => simp only [List.length_cons, List.length_nil] at hj; omega)
    (fun j _ => hk.2 _)
  rw [hs, Nat.zero_add] at this
  exact this
end Go.Proofs.YtnchgeiinkaefaaGreatDoor.Bill
end

section
/-
  The closure that placesByRate hands out: each rate with the places of all lines that have it.
-/
namespace Go.Proofs.YtnchgeiinkaefaaGreatDoor.Bill
set_option linter.unusedVariables false
open Go.RowKit Evs Go.Shelf
open Tax (plc plc_mem plc_lt plc_len rateF getD_map')
open Ints (Cells vals infoEx)
open RangeP (SeqP)

attribute [local go_sem] Oper.semAt_some

/-- line i is the first of its rate -/
def isF (rate : Nat → Int) (i : Nat) : Bool := (List.range i).all fun m => !decide (rate m = rate i)
/-- the first lines of their rates among the first k -/
def fsU (rate : Nat → Int) (k : Nat) : List Nat := (List.range k).filter (isF rate)
theorem fsU_succ (rate : Nat → Int) (k : Nat) : fsU rate (k + 1) = fsU rate k ++ if isF rate k then [k] else [] := by
  unfold fsU; rw [List.range_succ, List.filter_append]
  cases h : isF rate k <;> simp [h]
theorem fsU_at {rate : Nat → Int} {n i : Nat} (hi : i < n) (h : isF rate i = true) : (fsU rate n)[(fsU rate i).length]? = some i := by
  obtain ⟨m, rfl⟩ : ∃ m, n = (i + 1) + m := ⟨n - (i + 1), by omega⟩
  have e : fsU rate (i + 1 + m) = fsU rate (i + 1) ++ ((List.range m).map fun x => i + 1 + x).filter (isF rate) := by
    unfold fsU; rw [List.range_add, List.filter_append]
  rw [e, fsU_succ, h, if_pos rfl]
  simp
theorem plc_succ (rate : Nat → Int) (q : Int) (k : Nat) : plc rate q (k + 1) = plc rate q k ++ if rate k = q then [k] else [] := by
  unfold plc; rw [List.range_succ, List.filter_append]
  by_cases h : rate k = q <;> simp [h]
theorem plc_head {rate : Nat → Int} {n i : Nat} (hi : i < n) : ((plc rate (rate i) n).getD 0 0 = i) ↔ isF rate i = true := by
  have hm : i ∈ plc rate (rate i) n := plc_mem.2 ⟨hi, rfl⟩
  have hpos : 0 < (plc rate (rate i) n).length := List.length_pos_of_mem hm
  obtain ⟨h1, h2⟩ := plc_lt (rate := rate) (q := rate i) (n := n) hpos
  obtain ⟨k, hk, hke⟩ := List.getElem_of_mem hm
  have hge : (plc rate (rate i) n).getD k 0 = i := by simp [List.getD, hk, hke]
  have hle : (plc rate (rate i) n).getD 0 0 ≤ i := by
    by_cases e : k = 0
    · subst e; omega
    · have := (Tax.plc_ord (rate := rate) (q := rate i) (n := n) hpos hk).2 (by omega)
      omega
  constructor
  · intro h
    unfold isF
    rw [List.all_eq_true]
    intro m hmm
    have hml : m < i := by simpa using hmm
    by_cases e : rate m = rate i
    · have hm2 : m ∈ plc rate (rate i) n := plc_mem.2 ⟨by omega, e⟩
      obtain ⟨k2, hk2, hke2⟩ := List.getElem_of_mem hm2
      have hge2 : (plc rate (rate i) n).getD k2 0 = m := by simp [List.getD, hk2, hke2]
      have : (plc rate (rate i) n).getD 0 0 ≤ m := by
        by_cases e2 : k2 = 0
        · subst e2; omega
        · have := (Tax.plc_ord (rate := rate) (q := rate i) (n := n) hpos hk2).2 (by omega)
          omega
      omega
    · simp [e]
  · intro h
    unfold isF at h
    rw [List.all_eq_true] at h
    rcases Nat.lt_or_ge ((plc rate (rate i) n).getD 0 0) i with hlt | hge'
    · have := h _ (List.mem_range.2 hlt)
      rw [decide_eq_true h2] at this
      cases this
    · omega

/-- a slice of ints of the call's own, nil or not -/
def OwnN (W : World) (B : Nat) (v : Value) (l : List Int) : Prop := W.ownsRow B 3 1 v l.length (vals l)
theorem OwnN.kept {W W' : World} {B : Nat} {v : Value} {l : List Int} (h : OwnN W B v l) (hg : W.grownBy W' none) : OwnN W' B v l :=
  World.ownsRow.kept h hg (by cases e : v.ownBlock with | none => exact .inl rfl | some b => exact .inr (by simp))
theorem OwnN.nil (W : World) (B : Nat) : OwnN W B (.slice none 0 0) [] := ⟨by simp, .inl ⟨rfl, rfl⟩⟩
theorem OwnN.cells {W : World} {B g c : Nat} {l : List Int} (h : OwnN W B (.slice (some ⟨g, 0, none⟩) l.length c) l) : B ≤ g ∧ Cells W g 0 l :=
  ⟨(Ints.Own.lt (show Ints.Own W B g c l from h)).1, Ints.Own.cells (show Ints.Own W B g c l from h)⟩

/-- one more, inside a fence -/
theorem wpListIn_appN {F : Fence} {nF : Nat} {w : World} {ops : Array Oper} {rest : List Oper} {o : Oper} {a : Act} {Q : Exit → Act → World → Prop} (hgd : o.guard = none) (s x : Operand)
    (ho : o.op = .call { callee := .builtin .append, args := #[s, x], argTypes := #[91, 91] }) (B : Nat) (v : Value) (l : List Int) (q : Int) (N : Nat) (hs : a.eval s = v) (hown : OwnN w B v l) (hx : a.eval x = .slice (some ⟨N, 0, none⟩) 1 1) (hN : w.heap[N]? = some (.cells #[.int .i64 q] 3 (0, 0)))
    (hl : l.length ≤ 1000000) (hB : B ≤ w.heap.size)
    (h : ∀ g c w', OwnN w' B (.slice (some ⟨g, 0, none⟩) (l.length + 1) c) (l ++ [q]) → w.grownBy w' v.ownBlock → g < w'.heap.size → wpListIn F nF Tryz.prog ops Q rest (a.put o.dst (.slice (some ⟨g, 0, none⟩) (l.length + 1) c)) w') : wpListIn F nF Tryz.prog ops Q (o :: rest) a w := by
  obtain ⟨infoInt, hinfo, hzero, hsize, hbytes⟩ := infoEx
  obtain ⟨g, c, w', hr, h1, h2, _, h4⟩ := run_append_lies (P := Tryz.prog) w 91 o.type B 3 infoInt (.int .i64 0) 1 8 Tryz.underlying91 hinfo hzero hsize hbytes rfl (by omega) v l.length (vals l) hown ⟨N, 0, none⟩ 1 1 (vals [q]) rfl (Ints.news w N q hN) (by simp [Value.oneCell']) (by omega) (by unfold maxLen; omega) (by omega) hB _ rfl
  refine wpListIn_plain hgd fun K hK => ?_
  unfold Oper.wpIn
  refine ⟨by simp [Oper.about, ho, resolve, Target.leads, Sem.run_pure], ?_⟩
  rw [Oper.semAt_plain F _ _ (by rw [ho]; intro c hc'; cases hc')]
  simp [execOp, ho, resolve, invoke, builtin, hs, hx, hr, Result.andThen]
  exact hK _ _ (h g c w' (by unfold OwnN; simpa using h1) h2 h4)

/-- what round k is told: the rate and the places of the k-th rate -/
def PrP (rate : Nat → Int) (n B2 : Nat) (k : Nat) (args : Array Value) (W : World) : Prop :=
  ∃ i g cap, i < n ∧ isF rate i = true ∧ k = (fsU rate i).length ∧ args = #[.int .i64 (rate i), .slice (some ⟨g, 0, none⟩) (plc rate (rate i) n).length cap] ∧ Cells W g 0 ((plc rate (rate i) n).map fun (j : Nat) => (j : Int)) ∧ B2 ≤ g
end Go.Proofs.YtnchgeiinkaefaaGreatDoor.Bill
end
