/-
  Texts of this proof laid together, in build order; each says of itself what it holds.
-/
import Derived.Test.YtkdaljonmkfdaaaGreatDoorZae
import Derived.Test.YtkdaljonmkfdaaaGreatDoorZah
import Derived.Test.YtkdaljonmkfdaaaGreatDoorZaf
import Derived.Deep.QuietTactic
import Derived.BigQuiet
import Derived.Deep.RegionHeld3
import Derived.Test.YtkdaljonmkfdaaaGreatDoorProg
import Derived.WalkKit
import Derived.WalkLawsBesides
import Derived.Below
import Derived.Deep.OwnRows
import Derived.Deep.AppendLies
import Derived.Deep.RegionHeldLaw
import Derived.OwnWalk
import Derived.Test.YtkdaljonmkfdaaaGreatDoorZab
section
/-
  spec's reader of expressions: see, want, word, num.
-/
namespace Go.Proofs.YtkdaljonmkfdaaaGreatDoor.Rule
set_option linter.unusedVariables false
open Go.RowKit
open Boxes (At)
open RegIn

/-- the reader's box: the text, where it is, whether something could not stand -/
def Ps (W : World) (b : Nat) (s : ByteArray) (a : Nat) (bad : Bool) : Prop := At W b [.string s, .int .i64 a, .bool bad]
theorem Ps.cells {W : World} {b : Nat} {s : ByteArray} {a : Nat} {bad : Bool} (h : Ps W b s a bad) : (W.cell? ⟨b, 0, none⟩ = some (.string s) ∧ W.cell? ⟨b, 1, none⟩ = some (.int .i64 a) ∧ W.cell? ⟨b, 2, none⟩ = some (.bool bad)) ∧ W.frozen? ⟨b, 1, none⟩ = false ∧ W.frozen? ⟨b, 2, none⟩ = false :=
  ⟨⟨(h 0 _ rfl).1, (h 1 _ rfl).1, (h 2 _ rfl).1⟩, (h 1 _ rfl).2, (h 2 _ rfl).2⟩
theorem Ps.lt {W : World} {b : Nat} {s : ByteArray} {a : Nat} {bad : Bool} (h : Ps W b s a bad) : b < W.heap.size := At.lt h
/-- what is still to be read -/
def left (s : ByteArray) (a : Nat) : List UInt8 := s.data.toList.drop a
theorem left_cons {s : ByteArray} {a : Nat} (h : a < s.size) : left s a = s[a] :: left s (a + 1) := by
  have hs : s.data.toList.length = s.size := Array.length_toList
  unfold left
  rw [List.drop_eq_getElem_cons (by omega)]
  simp
  rfl
theorem left_nil {s : ByteArray} {a : Nat} (h : s.size ≤ a) : left s a = [] := by
  have hs : s.data.toList.length = s.size := Array.length_toList
  unfold left
  rw [List.drop_eq_nil_iff]; omega
theorem left_len (s : ByteArray) (a : Nat) : (left s a).length = s.size - a := by
  have hs : s.data.toList.length = s.size := Array.length_toList
  unfold left
  simp [hs]
/-- the next byte, or 0 -/
def seeB (s : ByteArray) (a : Nat) : UInt8 := (left s a).head?.getD 0

theorem below_dn {w : World} (n : Nat) : Below w.heap.size w (w.drewN n) := ⟨rfl, rfl, rfl, Nat.le_refl _, fun _ _ => rfl⟩
theorem Ps.kept {W W' : World} {b : Nat} {s : ByteArray} {a : Nat} {bad : Bool} (h : Ps W b s a bad) (hb : Below W.heap.size W W') : Ps W' b s a bad := At.below h hb h.lt

theorem see (b : Nat) (s : ByteArray) (a : Nat) (bad : Bool) (w : World) (h : Ps w b s a bad) (hs : s.size ≤ 1000000) (ha : a ≤ 2000000) :
    Calls Tryz.prog 49 #[.pointer (some ⟨b, 0, none⟩)] w fun e w' => e = .returned (.int .u8 ((seeB s a).toNat : Int)) ∧ Below w.heap.size w w' := by
  obtain ⟨⟨c0, c1, c2⟩, f1, f2⟩ := h.cells
  clear h
  by_cases hl : a < s.size
  · have e : seeB s a = s[a] := by unfold seeB; rw [left_cons hl]; rfl
    rw [e]
    clear e
    go_enter Tryz.func49, Tryz.ntmps49
    go_wp2
    go_quiet (fail)
    go_wp2
    go_quiet (fail)
    go_wp2
    go_ret
    exact ⟨rfl, ⟨rfl, rfl, rfl, Nat.le_refl _, fun _ _ => rfl⟩⟩
  · have e : seeB s a = 0 := by unfold seeB; rw [left_nil (by omega)]; rfl
    rw [e]
    clear e
    go_enter Tryz.func49, Tryz.ntmps49
    go_wp2
    go_quiet (fail)
    go_wp2
    go_ret
    exact ⟨rfl, ⟨rfl, rfl, rfl, Nat.le_refl _, fun _ _ => rfl⟩⟩

/-- where the reader is, off its box -/
def atOf (W : World) (b : Nat) : Nat := match W.cell? ⟨b, 1, none⟩ with | some (.int _ x) => x.toNat | _ => 0
theorem Ps.atOf {W : World} {b : Nat} {s : ByteArray} {a : Nat} {bad : Bool} (h : Ps W b s a bad) : atOf W b = a := by unfold Rule.atOf; rw [h.cells.1.2.1]; rfl

theorem gb_below {w w1 w2 : World} {b : Nat} (h : Below w.heap.size w w1) (k : w1.grownBy w2 (some b)) : w.grownBy w2 (some b) :=
  ⟨k.os.trans h.os, k.tape.trans h.tape, k.output.trans h.output, Nat.le_trans h.size k.size, fun j hj hne => (k.block j (Nat.lt_of_lt_of_le hj h.size) hne).trans (h.block j hj)⟩
theorem gb_trans {w w1 w2 : World} {b : Nat} (h : w.grownBy w1 (some b)) (k : w1.grownBy w2 (some b)) : w.grownBy w2 (some b) :=
  ⟨k.os.trans h.os, k.tape.trans h.tape, k.output.trans h.output, Nat.le_trans h.size k.size, fun j hj hne => (k.block j (Nat.lt_of_lt_of_le hj h.size) hne).trans (h.block j hj hne)⟩
theorem gb_of {w w1 : World} (b : Nat) (h : Below w.heap.size w w1) : w.grownBy w1 (some b) := ⟨h.os, h.tape, h.output, h.size, fun j hj _ => h.block j hj⟩
theorem gb_set (w : World) (b o : Nat) (u : Value) : w.grownBy (w.setCell ⟨b, o, none⟩ u) (some b) := by
  refine ⟨rfl, rfl, rfl, by simp, fun j hj hne => Below.heap_setCell w ⟨b, o, none⟩ u j (fun e => hne (by rw [e]))⟩

theorem want (b : Nat) (s : ByteArray) (a : Nat) (bad : Bool) (c : UInt8) (w : World) (h : Ps w b s a bad) (hs : s.size ≤ 1000000) (ha : a ≤ 2000000) :
    Calls Tryz.prog 52 #[.pointer (some ⟨b, 0, none⟩), .int .u8 (c.toNat : Int)] w fun e w' => e = .returned (.tuple #[]) ∧ Ps w' b s (a + 1) (bad || !(seeB s a == c)) ∧ w.grownBy w' (some b) := by
  have HP := Boxes.hide h
  clear h
  generalize hr : (bad || !(seeB s a == c)) = r
  have HR := Boxes.hide hr
  clear hr
  go_enter Tryz.func52, Tryz.ntmps52
  go_wp2_with (fail)
  refine (see b s a bad w (Boxes.unhide HP) hs ha).mono ?_
  rintro e w1 ⟨rfl, hb1⟩
  have hp1 := (Boxes.unhide HP).kept hb1
  have P1 := Boxes.hide hp1
  have HB := Boxes.hide hb1
  obtain ⟨⟨c0, c1, c2⟩, f1, f2⟩ := hp1.cells
  clear hb1 HP hp1
  generalize seeB s a = x at *
  by_cases hx : x = c
  · subst hx
    have b1 : ((x.toNat : Int) != (x.toNat : Int)) = false := by simp
    obtain rfl : bad = r := by rw [← Boxes.unhide HR]; simp
    clear HR
    go_wp2_with (fail)
    go_end0
    exact ⟨rfl, (Boxes.unhide P1).set 1 _, gb_below (Boxes.unhide HB) (gb_set _ _ _ _)⟩
  · have b1 : ((x.toNat : Int) != (c.toNat : Int)) = true := by
      simp only [bne_iff_ne, ne_eq]
      intro e; apply hx; apply UInt8.toNat_inj.1; omega
    obtain rfl : r = true := by rw [← Boxes.unhide HR]; simp [hx]
    clear HR hx
    go_wp2_with (fail)
    go_end0
    exact ⟨rfl, ((Boxes.unhide P1).set 2 _).set 1 _, gb_below (Boxes.unhide HB) (gb_trans (gb_set _ _ _ _) (gb_set _ _ _ _))⟩

/-- a world under way: the reader at a, all but its box as it was -/
def Sw (w : World) (b : Nat) (s : ByteArray) (a : Nat) (bad : Bool) (w2 : World) : Prop := Ps w2 b s a bad ∧ w.grownBy w2 (some b)
theorem Sw.see {w : World} {b : Nat} {s : ByteArray} {a : Nat} {bad : Bool} (hs : s.size ≤ 1000000) (ha : a ≤ 2000000) (g : In (Sw w b s a bad)) :
    Calls Tryz.prog 49 #[.pointer (some ⟨b, 0, none⟩)] g.x fun e w' => e = .returned (.int .u8 ((seeB s a).toNat : Int)) ∧ Sw w b s a bad w' :=
  (Rule.see b s a bad g.x g.h.1 hs ha).mono fun e w' ⟨he, hb⟩ => ⟨he, g.h.1.kept hb, gb_trans g.h.2 (gb_of _ hb)⟩

theorem left_drop (s : ByteArray) (a k : Nat) : left s (a + k) = (left s a).drop k := by
  unfold left; rw [List.drop_drop]
theorem ext_take (s : ByteArray) (a k : Nat) : (s.extract a (a + k)).data.toList = (left s a).take k := by
  unfold left
  rw [ByteArray.data_extract, Array.toList_extract]
  rw [List.extract_eq_take_drop]
  congr 1
  omega

/-- the bytes up to a stop -/
theorem take_more {s : ByteArray} {a k : Nat} (h : a + k < s.size) (hk : ∀ j, j < k → ∃ c, (left s a)[j]? = some c ∧ stopB c = false) (hc : stopB s[a + k] = false) : ∀ j, j < k + 1 → ∃ c, (left s a)[j]? = some c ∧ stopB c = false := by
  intro j hj
  by_cases e : j = k
  · subst e
    refine ⟨s[a + j], ?_, hc⟩
    have hs : s.data.toList.length = s.size := Array.length_toList
    unfold left
    rw [List.getElem?_drop, List.getElem?_eq_getElem (by omega)]
    simp; rfl
  · exact hk j (by omega)
theorem word_at {t : List UInt8} {k : Nat} (hk : ∀ j, j < k → ∃ c, t[j]? = some c ∧ stopB c = false) (he : k = t.length ∨ ∃ c, t[k]? = some c ∧ stopB c = true) : wordOf t = t.take k ∧ restOf t = t.drop k := by
  have hl : k ≤ t.length := by
    rcases he with h | ⟨c, h, _⟩
    · omega
    · have := List.getElem?_eq_some_iff.1 h; obtain ⟨h', _⟩ := this; omega
  have := word_split (w := t.take k) (r := t.drop k) (fun b hb => by
    obtain ⟨j, hj⟩ := List.getElem?_of_mem hb
    have hj' : j < k := by
      have := (List.getElem?_eq_some_iff.1 hj).1
      simp at this; omega
    obtain ⟨c, h1, h2⟩ := hk j hj'
    rw [List.getElem?_take, if_pos hj', h1] at hj
    obtain rfl := Option.some.inj hj
    exact h2) (by
    rcases he with h | ⟨c, h, hc⟩
    · exact .inl (by rw [List.drop_eq_nil_iff]; omega)
    · obtain ⟨h1, h2⟩ := List.getElem?_eq_some_iff.1 h
      exact .inr ⟨c, t.drop (k + 1), by rw [List.drop_eq_getElem_cons h1, h2], hc⟩)
  rwa [List.take_append_drop] at this

set_option maxHeartbeats 1600000 in
theorem word (b : Nat) (s : ByteArray) (a : Nat) (bad : Bool) (w : World) (h : Ps w b s a bad) (hs : s.size ≤ 1000000) (ha : a ≤ 2000000) :
    Calls Tryz.prog 50 #[.pointer (some ⟨b, 0, none⟩)] w fun e w' => ∃ x a' bad', e = .returned (.string x) ∧ Ps w' b s a' bad' ∧ w.grownBy w' (some b) ∧
      (s.size < a → bad' = true ∧ a' = a ∧ x.size = 0) ∧ (a ≤ s.size → bad' = bad ∧ x.data.toList = wordOf (left s a) ∧ left s a' = restOf (left s a) ∧ a ≤ a' ∧ a' ≤ s.size) := by
  have HP := Boxes.hide h
  obtain ⟨⟨c0, c1, c2⟩, f1, f2⟩ := h.cells
  clear h
  by_cases hl : s.size < a
  · have g1 : (s.size : Int) < (a : Int) := by omega
    go_enter Tryz.func50, Tryz.ntmps50
    go_wp2_with (fail)
    go_quiet (fail)
    go_wp2_with (fail)
    go_ret
    refine ⟨_, a, true, rfl, ?_, ?_, fun _ => ⟨rfl, rfl, rfl⟩, fun h => by omega⟩
    · exact ((Boxes.unhide HP).kept (below_dn _)).set 2 _
    · exact gb_below (below_dn _) (gb_set _ _ _ _)
  · have g1 : ¬ (s.size : Int) < (a : Int) := by omega
    go_enter Tryz.func50, Tryz.ntmps50
    go_wp2_with (fail)
    go_quiet (fail)
    go_wp2_with (fail)
    go_loopw [] (fun wr => ∃ k : Nat, a + k ≤ s.size ∧ Hid (Ps wr b s (a + k) bad) ∧ Hid (w.grownBy wr (some b)) ∧ Hid (∀ j, j < k → ∃ c, (left s a)[j]? = some c ∧ stopB c = false)) (fun wr => s.size - atOf wr b)
    case atStart => exact ⟨0, by omega, Boxes.hide ((Boxes.unhide HP).kept (below_dn _)), Boxes.hide (gb_of _ (below_dn _)), Boxes.hide (fun j hj => by omega)⟩
    case round =>
      obtain ⟨k, hk, hp, hg, hst⟩ := hrel
      have HX : Hid (Sw w b s (a + k) bad wr.drew) := Boxes.hide ⟨(Boxes.unhide hp).kept (below_dn 1), gb_trans (Boxes.unhide hg) (gb_of _ (below_dn 1))⟩
      have HME := Boxes.hide (Boxes.unhide hp).atOf
      have g0 : ∀ g : In (Sw w b s (a + k) bad), g.x.cell? ⟨b, 0, none⟩ = some (.string s) := fun g => g.h.1.cells.1.1
      have g1 : ∀ g : In (Sw w b s (a + k) bad), g.x.cell? ⟨b, 1, none⟩ = some (.int .i64 ((a + k : Nat) : Int)) := fun g => g.h.1.cells.1.2.1
      have HS : Hid (∀ g : In (Sw w b s (a + k) bad), Calls Tryz.prog 49 #[.pointer (some ⟨b, 0, none⟩)] g.x fun e w' => e = .returned (.int .u8 ((seeB s (a + k)).toNat : Int)) ∧ Sw w b s (a + k) bad w') := Boxes.hide (fun g => Sw.see hs (by omega) g)
      have HN : Hid (∀ g : In (Sw w b s (a + k) bad), Ps g.x b s (a + k) bad ∧ w.grownBy g.x (some b)) := Boxes.hide (fun g => g.h)
      generalize hA : a + k = A at *
      generalize hS : Sw w b s A bad = S at *
      by_cases hlt : A < s.size
      · have hx : seeB s A = s[A] := by unfold seeB; rw [left_cons hlt]; rfl
        have i1 : (A : Int) < (s.size : Int) := by omega
        rw [hx] at HS
        have HTM : Hid (stopB s[A] = false → ∀ j, j < k + 1 → ∃ c, (left s a)[j]? = some c ∧ stopB c = false) := Boxes.hide (fun h => by subst hA; exact take_more hlt (Boxes.unhide hst) h)
        have HDN : Hid (stopB s[A] = true → wordOf (left s a) = (left s a).take k ∧ restOf (left s a) = (left s a).drop k) := Boxes.hide (fun h => by
          subst hA
          refine word_at (Boxes.unhide hst) (.inr ⟨s[a + k], ?_, h⟩)
          have hl : s.data.toList.length = s.size := Array.length_toList
          unfold left
          rw [List.getElem?_drop, List.getElem?_eq_getElem (by omega)]
          simp; rfl)
        clear hst hp hg hx
        generalize s[A] = x at *
        cases hst : stopB x with
        | false =>
          have HT := Boxes.hide (Boxes.unhide HTM hst)
          have y32 : ((x.toNat : Int) != 32) = true := by simp only [bne_iff_ne, ne_eq]; intro e; rw [show x = 32 from UInt8.toNat_inj.1 (by simp; omega)] at hst; exact absurd hst (by decide)
          have y40 : ((x.toNat : Int) != 40) = true := by simp only [bne_iff_ne, ne_eq]; intro e; rw [show x = 40 from UInt8.toNat_inj.1 (by simp; omega)] at hst; exact absurd hst (by decide)
          have y41 : ((x.toNat : Int) != 41) = true := by simp only [bne_iff_ne, ne_eq]; intro e; rw [show x = 41 from UInt8.toNat_inj.1 (by simp; omega)] at hst; exact absurd hst (by decide)
          have y58 : ((x.toNat : Int) != 58) = true := by simp only [bne_iff_ne, ne_eq]; intro e; rw [show x = 58 from UInt8.toNat_inj.1 (by simp; omega)] at hst; exact absurd hst (by decide)
          clear HDN HTM hst
          go_wp2
          refine wp_region_in S (by kernel_rfl) (by kernel_rfl) (Boxes.unhide HX) ?_
          intro hne
          repeat (go_big_quiet_step (exact call_in _ (Boxes.unhide HS _)))
          refine wpQuiet_nil ?_
          rintro _ ⟨g, rfl⟩
          obtain ⟨hp, hg⟩ := Boxes.unhide HN g
          have HPg := Boxes.hide hp
          have HGg := Boxes.hide hg
          obtain ⟨⟨d0, d1, d2⟩, e1, e2⟩ := hp.cells
          generalize g.x = gx at *
          clear hp hg g0 g1 HS HN hne
          go_wp2
          refine ⟨⟨k + 1, by omega, ?_, Boxes.hide (gb_trans (Boxes.unhide HGg) (gb_set _ _ _ _)), HT⟩, ?_⟩
          · have := (Boxes.unhide HPg).set 1 (.int .i64 ((A : Int) + 1))
            subst hA
            exact Boxes.hide this
          · have hq : Ps (gx.setCell ⟨b, 1, none⟩ (.int .i64 ((A : Int) + 1))) b s (A + 1) bad := (Boxes.unhide HPg).set 1 (.int .i64 ((A : Int) + 1))
            have e1 := hq.atOf
            have e2 := Boxes.unhide HME
            rw [e1, e2]; omega
        | true =>
          have HD := Boxes.hide (Boxes.unhide HDN hst)
          have hc : x = 32 ∨ x = 40 ∨ x = 41 ∨ x = 58 := by
            unfold stopB at hst
            simp only [Bool.or_eq_true, beq_iff_eq] at hst
            rcases hst with ((h | h) | h) | h
            · exact .inl h
            · exact .inr (.inl h)
            · exact .inr (.inr (.inl h))
            · exact .inr (.inr (.inr h))
          clear HDN HTM
          rcases hc with hc | hc | hc | hc
          · subst hc
            have y32 : ((((32 : UInt8).toNat : Nat) : Int) != 32) = false := by decide
            have y40 : ((((32 : UInt8).toNat : Nat) : Int) != 40) = true := by decide
            have y41 : ((((32 : UInt8).toNat : Nat) : Int) != 41) = true := by decide
            have y58 : ((((32 : UInt8).toNat : Nat) : Int) != 58) = true := by decide
            clear hst
            go_wp2
            refine wp_region_in S (by kernel_rfl) (by kernel_rfl) (Boxes.unhide HX) ?_
            intro hne
            repeat (go_big_quiet_step (exact call_in _ (Boxes.unhide HS _)))
            refine wpQuiet_nil ?_
            rintro _ ⟨g, rfl⟩
            obtain ⟨hp, hg⟩ := Boxes.unhide HN g
            have HPg := Boxes.hide hp
            have HGg := Boxes.hide hg
            obtain ⟨⟨d0, d1, d2⟩, e1, e2⟩ := hp.cells
            have i3 : (a : Int) ≤ (A : Int) := by omega
            have i4 : (A : Int) ≤ (s.size : Int) := by omega
            have i5 : (0 : Int) ≤ (a : Int) := by omega
            generalize g.x = gx at *
            clear hp hg g0 g1 HS HN hne
            go_wp2
            go_quiet (fail)
            go_wp2
            go_ret
            exact ⟨s.extract a A, A, bad, rfl, (Boxes.unhide HPg).kept (below_dn _), gb_trans (Boxes.unhide HGg) (gb_of _ (below_dn _)), fun h => by omega, fun _ => ⟨rfl, (by subst hA; rw [(Boxes.unhide HD).1]; exact ext_take _ _ _), (by subst hA; rw [(Boxes.unhide HD).2]; exact left_drop _ _ _), by omega, by omega⟩⟩
          · subst hc
            have y32 : ((((40 : UInt8).toNat : Nat) : Int) != 32) = true := by decide
            have y40 : ((((40 : UInt8).toNat : Nat) : Int) != 40) = false := by decide
            have y41 : ((((40 : UInt8).toNat : Nat) : Int) != 41) = true := by decide
            have y58 : ((((40 : UInt8).toNat : Nat) : Int) != 58) = true := by decide
            clear hst
            go_wp2
            refine wp_region_in S (by kernel_rfl) (by kernel_rfl) (Boxes.unhide HX) ?_
            intro hne
            repeat (go_big_quiet_step (exact call_in _ (Boxes.unhide HS _)))
            refine wpQuiet_nil ?_
            rintro _ ⟨g, rfl⟩
            obtain ⟨hp, hg⟩ := Boxes.unhide HN g
            have HPg := Boxes.hide hp
            have HGg := Boxes.hide hg
            obtain ⟨⟨d0, d1, d2⟩, e1, e2⟩ := hp.cells
            have i3 : (a : Int) ≤ (A : Int) := by omega
            have i4 : (A : Int) ≤ (s.size : Int) := by omega
            have i5 : (0 : Int) ≤ (a : Int) := by omega
            generalize g.x = gx at *
            clear hp hg g0 g1 HS HN hne
            go_wp2
            go_quiet (fail)
            go_wp2
            go_ret
            exact ⟨s.extract a A, A, bad, rfl, (Boxes.unhide HPg).kept (below_dn _), gb_trans (Boxes.unhide HGg) (gb_of _ (below_dn _)), fun h => by omega, fun _ => ⟨rfl, (by subst hA; rw [(Boxes.unhide HD).1]; exact ext_take _ _ _), (by subst hA; rw [(Boxes.unhide HD).2]; exact left_drop _ _ _), by omega, by omega⟩⟩
          · subst hc
            have y32 : ((((41 : UInt8).toNat : Nat) : Int) != 32) = true := by decide
            have y40 : ((((41 : UInt8).toNat : Nat) : Int) != 40) = true := by decide
            have y41 : ((((41 : UInt8).toNat : Nat) : Int) != 41) = false := by decide
            have y58 : ((((41 : UInt8).toNat : Nat) : Int) != 58) = true := by decide
            clear hst
            go_wp2
            refine wp_region_in S (by kernel_rfl) (by kernel_rfl) (Boxes.unhide HX) ?_
            intro hne
            repeat (go_big_quiet_step (exact call_in _ (Boxes.unhide HS _)))
            refine wpQuiet_nil ?_
            rintro _ ⟨g, rfl⟩
            obtain ⟨hp, hg⟩ := Boxes.unhide HN g
            have HPg := Boxes.hide hp
            have HGg := Boxes.hide hg
            obtain ⟨⟨d0, d1, d2⟩, e1, e2⟩ := hp.cells
            have i3 : (a : Int) ≤ (A : Int) := by omega
            have i4 : (A : Int) ≤ (s.size : Int) := by omega
            have i5 : (0 : Int) ≤ (a : Int) := by omega
            generalize g.x = gx at *
            clear hp hg g0 g1 HS HN hne
            go_wp2
            go_quiet (fail)
            go_wp2
            go_ret
            exact ⟨s.extract a A, A, bad, rfl, (Boxes.unhide HPg).kept (below_dn _), gb_trans (Boxes.unhide HGg) (gb_of _ (below_dn _)), fun h => by omega, fun _ => ⟨rfl, (by subst hA; rw [(Boxes.unhide HD).1]; exact ext_take _ _ _), (by subst hA; rw [(Boxes.unhide HD).2]; exact left_drop _ _ _), by omega, by omega⟩⟩
          · subst hc
            have y32 : ((((58 : UInt8).toNat : Nat) : Int) != 32) = true := by decide
            have y40 : ((((58 : UInt8).toNat : Nat) : Int) != 40) = true := by decide
            have y41 : ((((58 : UInt8).toNat : Nat) : Int) != 41) = true := by decide
            have y58 : ((((58 : UInt8).toNat : Nat) : Int) != 58) = false := by decide
            clear hst
            go_wp2
            refine wp_region_in S (by kernel_rfl) (by kernel_rfl) (Boxes.unhide HX) ?_
            intro hne
            repeat (go_big_quiet_step (exact call_in _ (Boxes.unhide HS _)))
            refine wpQuiet_nil ?_
            rintro _ ⟨g, rfl⟩
            obtain ⟨hp, hg⟩ := Boxes.unhide HN g
            have HPg := Boxes.hide hp
            have HGg := Boxes.hide hg
            obtain ⟨⟨d0, d1, d2⟩, e1, e2⟩ := hp.cells
            have i3 : (a : Int) ≤ (A : Int) := by omega
            have i4 : (A : Int) ≤ (s.size : Int) := by omega
            have i5 : (0 : Int) ≤ (a : Int) := by omega
            generalize g.x = gx at *
            clear hp hg g0 g1 HS HN hne
            go_wp2
            go_quiet (fail)
            go_wp2
            go_ret
            exact ⟨s.extract a A, A, bad, rfl, (Boxes.unhide HPg).kept (below_dn _), gb_trans (Boxes.unhide HGg) (gb_of _ (below_dn _)), fun h => by omega, fun _ => ⟨rfl, (by subst hA; rw [(Boxes.unhide HD).1]; exact ext_take _ _ _), (by subst hA; rw [(Boxes.unhide HD).2]; exact left_drop _ _ _), by omega, by omega⟩⟩
      · have i1 : ¬ ((A : Int) < (s.size : Int)) := by omega
        have HD : Hid (wordOf (left s a) = (left s a).take k ∧ restOf (left s a) = (left s a).drop k) := Boxes.hide (word_at (Boxes.unhide hst) (.inl (by rw [left_len]; omega)))
        clear hst hp hg
        go_wp2
        refine wp_region_in S (by kernel_rfl) (by kernel_rfl) (Boxes.unhide HX) ?_
        intro hne
        repeat (go_big_quiet_step (exact call_in _ (Boxes.unhide HS _)))
        refine wpQuiet_nil ?_
        rintro _ ⟨g, rfl⟩
        obtain ⟨hp, hg⟩ := Boxes.unhide HN g
        have HPg := Boxes.hide hp
        have HGg := Boxes.hide hg
        obtain ⟨⟨d0, d1, d2⟩, e1, e2⟩ := hp.cells
        have i3 : (a : Int) ≤ (A : Int) := by omega
        have i4 : (A : Int) ≤ (s.size : Int) := by omega
        have i5 : (0 : Int) ≤ (a : Int) := by omega
        generalize g.x = gx at *
        clear hp hg g0 g1 HS HN hne
        go_wp2
        go_quiet (fail)
        go_wp2
        go_ret
        exact ⟨s.extract a A, A, bad, rfl, (Boxes.unhide HPg).kept (below_dn _), gb_trans (Boxes.unhide HGg) (gb_of _ (below_dn _)), fun h => by omega, fun _ => ⟨rfl, (by subst hA; rw [(Boxes.unhide HD).1]; exact ext_take _ _ _), (by subst hA; rw [(Boxes.unhide HD).2]; exact left_drop _ _ _), by omega, by omega⟩⟩
end Go.Proofs.YtkdaljonmkfdaaaGreatDoor.Rule
end

section
/-
  spec.l18Num.
-/
namespace Go.Proofs.YtkdaljonmkfdaaaGreatDoor.Rule
set_option linter.unusedVariables false
open Go.RowKit
open Boxes (hide unhide)

/-- what l18Num tells -/
def numV (s : List UInt8) : Value := .tuple #[.int .i64 ((numL s).getD 0), .bool (numL s).isSome]
theorem numV_none {s : List UInt8} (h : numL s = none) : numV s = .tuple #[.int .i64 0, .bool false] := by unfold numV; rw [h]; rfl
theorem numV_some {s : List UInt8} {n : Int} (h : numL s = some n) : numV s = .tuple #[.int .i64 n, .bool true] := by unfold numV; rw [h]; rfl
theorem by_at {y : ByteArray} {k : Nat} (h : k < y.size) : y.data.toList[k]? = some y[k] := by
  have hl : y.data.toList.length = y.size := Array.length_toList
  rw [List.getElem?_eq_getElem (by omega)]; simp; rfl
theorem df_bad : ∀ (l : List UInt8) (acc k : Nat) (b : UInt8), l[k]? = some b → Lib.digitVal b = none → Lib.decFrom acc l = none
  | [], _, _, _, h, _ => by simp at h
  | a :: l, acc, 0, b, h, hb => by
    simp at h; subst h
    simp [Lib.decFrom, hb]
  | a :: l, acc, k + 1, b, h, hb => by
    simp only [List.getElem?_cons_succ] at h
    simp only [Lib.decFrom]
    cases Lib.digitVal a with
    | none => rfl
    | some d => exact df_bad l _ k b h hb
theorem df_more {l : List UInt8} {k m : Nat} {b : UInt8} (h : Lib.decFrom 0 (l.take k) = some m) (hb : l[k]? = some b) (h1 : 48 ≤ b.toNat) (h2 : b.toNat ≤ 57) : Lib.decFrom 0 (l.take (k + 1)) = some (m * 10 + (b.toNat - 48)) :=
  Lib.decFrom_take l k 0 m b (b.toNat - 48) h hb (by unfold Lib.digitVal; simp; omega)
theorem dv_none {b : UInt8} (h : ¬ (48 ≤ b.toNat ∧ b.toNat ≤ 57)) : Lib.digitVal b = none := by unfold Lib.digitVal; simp; omega

set_option maxHeartbeats 3200000 in
theorem num_pos (y : ByteArray) (w : World) (hs : y.size ≤ 2000000) (h0 : y.data.toList.head? ≠ some 45) :
    Calls Tryz.prog 51 #[.string y] w fun e w' => e = .returned (numV y.data.toList) ∧ Below w.heap.size w w' := by
  have hlen : y.data.toList.length = y.size := Array.length_toList
  generalize hv : numV y.data.toList = V
  have HNO : Hid ((y.size = 0 ∨ 17 < y.size ∨ y.data.toList.head? = some 48 ∧ 1 < y.size) → V = .tuple #[.int .i64 0, .bool false]) := hide (fun h => by
    rw [← hv]; apply numV_none; unfold numL; rw [if_neg h0, if_pos (by rw [hlen]; exact h)])
  have HYE : Hid (¬ (y.size = 0 ∨ 17 < y.size ∨ y.data.toList.head? = some 48 ∧ 1 < y.size) → (∀ m, Lib.decFrom 0 y.data.toList = some m → V = .tuple #[.int .i64 (m : Int), .bool true]) ∧ (Lib.decFrom 0 y.data.toList = none → V = .tuple #[.int .i64 0, .bool false])) := hide (fun h => by
    have e : numL y.data.toList = (Lib.decFrom 0 y.data.toList).map fun (n : Nat) => (n : Int) := by unfold numL; rw [if_neg h0, if_neg (by rw [hlen]; exact h)]
    refine ⟨fun m hm => ?_, fun hm => ?_⟩
    · rw [← hv]; apply numV_some; rw [e, hm]; rfl
    · rw [← hv]; apply numV_none; rw [e, hm]; rfl)
  clear hv
  by_cases e0 : y.size = 0
  · obtain rfl : V = .tuple #[.int .i64 0, .bool false] := unhide HNO (.inl e0)
    clear HNO HYE h0
    go_enter Tryz.func51, Tryz.ntmps51
    go_wp2
    go_ret2
    exact ⟨rfl, Below.refl _ _⟩
  have hz := by_at (y := y) (k := 0) (by omega)
  have h45 : ((y[0]'(by omega)).toNat : Int) ≠ 45 := by
    intro e; apply h0
    rw [List.head?_eq_getElem?, hz]
    congr 1; apply UInt8.toNat_inj.1; show _ = 45; omega
  have HZ := hide (show y.data.toList.head? = some (y[0]'(by omega)) from by rw [List.head?_eq_getElem?, hz])
  clear hz h0
  have hp0 : 0 < y.size := by omega
  have hpi : (0 : Int) < (y.size : Int) := by omega
  have b45 : (((y[0]'hp0).toNat : Int) == 45) = false := by simpa using h45
  by_cases e1 : 17 < y.size
  · obtain rfl : V = .tuple #[.int .i64 0, .bool false] := unhide HNO (.inr (.inl e1))
    clear HNO HYE HZ
    have j1 : (17 : Int) < (y.size : Int) := by omega
    go_enter Tryz.func51, Tryz.ntmps51
    go_wp2
    go_ret2
    exact ⟨rfl, Below.refl _ _⟩
  by_cases e2 : (y[0]'hp0).toNat = 48 ∧ 1 < y.size
  · obtain rfl : V = .tuple #[.int .i64 0, .bool false] := unhide HNO (.inr (.inr ⟨by rw [unhide HZ]; congr 1; apply UInt8.toNat_inj.1; show _ = 48; omega, e2.2⟩))
    have b48 : (((y[0]'hp0).toNat : Int) == 48) = true := by simp; omega
    have j2 : (1 : Int) < (y.size : Int) := by omega
    clear HNO HYE HZ
    go_enter Tryz.func51, Tryz.ntmps51
    go_wp2
    go_ret2
    exact ⟨rfl, Below.refl _ _⟩
  obtain ⟨hy1, hy2⟩ := unhide HYE (by
    rintro (h | h | ⟨h, h'⟩)
    · exact e0 h
    · exact e1 h
    · rw [unhide HZ] at h
      exact e2 ⟨by rw [Option.some.inj h]; rfl, h'⟩)
  have HY1 := hide hy1
  have HY2 := hide hy2
  clear hy1 hy2 HNO HYE HZ
  have key : (((y[0]'hp0).toNat : Int) == 48) = false ∨ (((y[0]'hp0).toNat : Int) == 48) = true ∧ ¬ (1 : Int) < (y.size : Int) := by
    by_cases h : (y[0]'hp0).toNat = 48
    · exact .inr ⟨by simp; omega, by omega⟩
    · exact .inl (by simp; omega)
  clear e2
  have j1 : ¬ (17 : Int) < (y.size : Int) := by omega
  rcases key with b48 | ⟨b48, j2⟩
  all_goals
    go_enter Tryz.func51, Tryz.ntmps51
    go_wp2
    go_loopw [5, 6] (fun n i wr => ∃ (k m : Nat), k ≤ y.size ∧ i = .int .i64 k ∧ n = .int .i64 m ∧ m < 100000000000000000 ∧ wr = w ∧ Hid (m < 10 ^ k) ∧ Hid (Lib.decFrom 0 (y.data.toList.take k) = some m)) (fun _ i _ => y.size - (intOf i).toNat)
    case atStart => exact ⟨0, 0, by omega, rfl, rfl, by omega, rfl, hide (by simp), hide (by simp [Lib.decFrom])⟩
    case round =>
      obtain ⟨k, m, hk, rfl, rfl, hm, rfl, hp, hd⟩ := hrel
      clear b45 b48
      by_cases hlt : k < y.size
      · have HB := hide (by_at hlt)
        have i1 : (k : Int) < (y.size : Int) := by omega
        by_cases hx : 48 ≤ y[k].toNat ∧ y[k].toNat ≤ 57
        · have x1 : ¬ ((y[k].toNat : Int) < 48) := by omega
          have x2 : ¬ (57 < (y[k].toNat : Int)) := by omega
          have x3 : (48 : Int) ≤ (y[k].toNat : Int) := by omega
          have x4 : (y[k].toNat : Int) ≤ 57 := by omega
          have HD := hide (df_more (unhide hd) (unhide HB) hx.1 hx.2)
          have hp1 : m * 10 + (y[k].toNat - 48) < 10 ^ (k + 1) := by have := unhide hp; rw [Nat.pow_succ]; omega
          have hp2 : (10 : Nat) ^ (k + 1) ≤ 10 ^ 17 := Nat.pow_le_pow_right (by omega) (by omega)
          have hm2 : m * 10 + (y[k].toNat - 48) < 100000000000000000 := by omega
          have HP1 := hide hp1
          clear hp1 hp2 hp hd
          go_wp2
          exact ⟨⟨k + 1, m * 10 + (y[k].toNat - 48), by omega, by go_num, by go_num, hm2, trivial, HP1, HD⟩, by simp [intOf]; omega⟩
        · obtain rfl := unhide HY2 (df_bad _ 0 k _ (unhide HB) (dv_none hx))
          clear HY1 HY2 hp hd
          by_cases hx1 : y[k].toNat < 48
          · have x1 : (y[k].toNat : Int) < 48 := by omega
            go_wp2
            go_ret2
            exact ⟨rfl, Below.refl _ _⟩
          · have x1 : ¬ ((y[k].toNat : Int) < 48) := by omega
            have x2 : 57 < (y[k].toNat : Int) := by omega
            go_wp2
            go_ret2
            exact ⟨rfl, Below.refl _ _⟩
      · obtain rfl : k = y.size := by omega
        obtain rfl := unhide HY1 m (by have := unhide hd; rwa [← hlen, List.take_length] at this)
        clear HY1 HY2 hp hd
        go_wp2
        go_ret2
        exact ⟨rfl, Below.refl _ _⟩

set_option maxHeartbeats 3200000 in
theorem num_neg (x : ByteArray) (w : World) (hs : x.size ≤ 2000000) (h0 : x.data.toList.head? = some 45) :
    Calls Tryz.prog 51 #[.string x] w fun e w' => e = .returned (numV x.data.toList) ∧ Below w.heap.size w w' := by
  have hxl : x.data.toList.length = x.size := Array.length_toList
  have hx1 : 1 ≤ x.size := by
    cases h : x.data.toList with
    | nil => rw [h] at h0; cases h0
    | cons a b => rw [h] at hxl; simp at hxl; omega
  have hx0 : (x[0]'(by omega)).toNat = 45 := by
    have := by_at (y := x) (k := 0) (by omega)
    rw [List.head?_eq_getElem?, this] at h0
    rw [Option.some.inj h0]; rfl
  have hxi : (0 : Int) < (x.size : Int) := by omega
  have b45 : (((x[0]'(by omega)).toNat : Int) == 45) = true := by simp; omega
  have hx2 : (1 : Int) ≤ (x.size : Int) := by omega
  obtain ⟨y, hE⟩ : ∃ y, x.extract 1 x.size = y := ⟨_, rfl⟩
  have hyd : y.data.toList = x.data.toList.tail := by
    rw [← hE, ByteArray.data_extract, Array.toList_extract, List.extract_eq_take_drop, ← hxl]
    cases x.data.toList with
    | nil => rfl
    | cons a b => simp
  have hlen : y.data.toList.length = y.size := Array.length_toList
  have hys : y.size = x.size - 1 := by rw [← hlen, hyd]; simp [hxl]
  generalize hv : numV x.data.toList = V
  have HNO : Hid ((y.size = 0 ∨ 17 < y.size ∨ y.data.toList.head? = some 48) → V = .tuple #[.int .i64 0, .bool false]) := hide (fun h => by
    rw [← hv]; apply numV_none; unfold numL; rw [if_pos h0, ← hyd, if_pos (by rw [hlen]; exact h)])
  have HYE : Hid (¬ (y.size = 0 ∨ 17 < y.size ∨ y.data.toList.head? = some 48) → (∀ m, Lib.decFrom 0 y.data.toList = some m → V = .tuple #[.int .i64 (-(m : Int)), .bool true]) ∧ (Lib.decFrom 0 y.data.toList = none → V = .tuple #[.int .i64 0, .bool false])) := hide (fun h => by
    have e : numL x.data.toList = (Lib.decFrom 0 y.data.toList).map fun (n : Nat) => -(n : Int) := by unfold numL; rw [if_pos h0, ← hyd, if_neg (by rw [hlen]; exact h)]
    refine ⟨fun m hm => ?_, fun hm => ?_⟩
    · rw [← hv]; apply numV_some; rw [e, hm]; rfl
    · rw [← hv]; apply numV_none; rw [e, hm]; rfl)
  have HYS := hide hys
  have hs' : y.size ≤ 2000000 := by omega
  clear hv hyd hys h0
  by_cases e0 : y.size = 0
  · obtain rfl : V = .tuple #[.int .i64 0, .bool false] := unhide HNO (.inl e0)
    clear HNO HYE
    go_enter Tryz.func51, Tryz.ntmps51
    go_wp2
    go_ret2
    exact ⟨rfl, Below.refl _ _⟩
  have hz := by_at (y := y) (k := 0) (by omega)
  have HZ := hide (show y.data.toList.head? = some (y[0]'(by omega)) from by rw [List.head?_eq_getElem?, hz])
  clear hz
  have hp0 : 0 < y.size := by omega
  have hpi : (0 : Int) < (y.size : Int) := by omega
  by_cases e1 : 17 < y.size
  · obtain rfl : V = .tuple #[.int .i64 0, .bool false] := unhide HNO (.inr (.inl e1))
    clear HNO HYE HZ
    have j1 : (17 : Int) < (y.size : Int) := by omega
    go_enter Tryz.func51, Tryz.ntmps51
    go_wp2
    go_ret2
    exact ⟨rfl, Below.refl _ _⟩
  by_cases e2 : (y[0]'hp0).toNat = 48
  · obtain rfl : V = .tuple #[.int .i64 0, .bool false] := unhide HNO (.inr (.inr (by rw [unhide HZ]; congr 1; apply UInt8.toNat_inj.1; show _ = 48; omega)))
    have b48 : (((y[0]'hp0).toNat : Int) == 48) = true := by simp; omega
    clear HNO HYE HZ
    by_cases j2 : (1 : Int) < (y.size : Int)
    · go_enter Tryz.func51, Tryz.ntmps51
      go_wp2
      go_ret2
      exact ⟨rfl, Below.refl _ _⟩
    · go_enter Tryz.func51, Tryz.ntmps51
      go_wp2
      go_ret2
      exact ⟨rfl, Below.refl _ _⟩
  obtain ⟨hy1, hy2⟩ := unhide HYE (by
    rintro (h | h | h)
    · exact e0 h
    · exact e1 h
    · rw [unhide HZ] at h
      exact e2 (by rw [Option.some.inj h]; rfl))
  have HY1 := hide hy1
  have HY2 := hide hy2
  clear hy1 hy2 HNO HYE HZ
  have b48 : (((y[0]'hp0).toNat : Int) == 48) = false := by simp; omega
  clear e2
  have j1 : ¬ (17 : Int) < (y.size : Int) := by omega
  go_enter Tryz.func51, Tryz.ntmps51
  go_wp2
  go_loopw [5, 6] (fun n i wr => ∃ (k m : Nat), k ≤ y.size ∧ i = .int .i64 k ∧ n = .int .i64 m ∧ m < 100000000000000000 ∧ wr = w ∧ Hid (m < 10 ^ k) ∧ Hid (Lib.decFrom 0 (y.data.toList.take k) = some m)) (fun _ i _ => y.size - (intOf i).toNat)
  case atStart => exact ⟨0, 0, by omega, rfl, rfl, by omega, rfl, hide (by simp), hide (by simp [Lib.decFrom])⟩
  case round =>
    obtain ⟨k, m, hk, rfl, rfl, hm, rfl, hp, hd⟩ := hrel
    clear b45 b48 hE
    by_cases hlt : k < y.size
    · have HB := hide (by_at hlt)
      have i1 : (k : Int) < (y.size : Int) := by omega
      by_cases hx : 48 ≤ y[k].toNat ∧ y[k].toNat ≤ 57
      · have x1 : ¬ ((y[k].toNat : Int) < 48) := by omega
        have x2 : ¬ (57 < (y[k].toNat : Int)) := by omega
        have x3 : (48 : Int) ≤ (y[k].toNat : Int) := by omega
        have x4 : (y[k].toNat : Int) ≤ 57 := by omega
        have HD := hide (df_more (unhide hd) (unhide HB) hx.1 hx.2)
        have hp1 : m * 10 + (y[k].toNat - 48) < 10 ^ (k + 1) := by have := unhide hp; rw [Nat.pow_succ]; omega
        have hp2 : (10 : Nat) ^ (k + 1) ≤ 10 ^ 17 := Nat.pow_le_pow_right (by omega) (by omega)
        have hm2 : m * 10 + (y[k].toNat - 48) < 100000000000000000 := by omega
        have HP1 := hide hp1
        clear hp1 hp2 hp hd
        go_wp2
        exact ⟨⟨k + 1, m * 10 + (y[k].toNat - 48), by omega, by go_num, by go_num, hm2, trivial, HP1, HD⟩, by simp [intOf]; omega⟩
      · obtain rfl := unhide HY2 (df_bad _ 0 k _ (unhide HB) (dv_none hx))
        clear HY1 HY2 hp hd
        by_cases hx1 : y[k].toNat < 48
        · have x1 : (y[k].toNat : Int) < 48 := by omega
          go_wp2
          go_ret2
          exact ⟨rfl, Below.refl _ _⟩
        · have x1 : ¬ ((y[k].toNat : Int) < 48) := by omega
          have x2 : 57 < (y[k].toNat : Int) := by omega
          go_wp2
          go_ret2
          exact ⟨rfl, Below.refl _ _⟩
    · obtain rfl : k = y.size := by omega
      obtain rfl := unhide HY1 m (by have := unhide hd; rwa [← hlen, List.take_length] at this)
      clear HY1 HY2 hp hd
      go_wp2
      go_ret2
      exact ⟨rfl, Below.refl _ _⟩

theorem numC (x : ByteArray) (w : World) (hs : x.size ≤ 2000000) :
    Calls Tryz.prog 51 #[.string x] w fun e w' => e = .returned (numV x.data.toList) ∧ Below w.heap.size w w' := by
  by_cases h : x.data.toList.head? = some 45
  · exact num_neg x w hs h
  · exact num_pos x w hs h
end Go.Proofs.YtkdaljonmkfdaaaGreatDoor.Rule
end

section
/-
  spec's reader of expressions: a byte that must stand, a number, steps.
-/
namespace Go.Proofs.YtkdaljonmkfdaaaGreatDoor.Rule
set_option linter.unusedVariables false
open Go.RowKit
open Boxes (At hide unhide)
open RegIn

/-- how far a part of the reader came: o is what should be left of the text, if it can stand -/
def Far (s : ByteArray) (a : Nat) (bad : Bool) (o : Option (List UInt8)) (a' : Nat) (bad' : Bool) : Prop :=
  (bad = true → bad' = true) ∧ (bad' = false → a' ≤ s.size ∧ o = some (left s a')) ∧ (bad' = true → bad = true ∨ o = none) ∧ a ≤ a'

theorem want_far {s : ByteArray} {a : Nat} {bad : Bool} {c : UInt8} (hc : c ≠ 0) : Far s a bad (wantS c (left s a)) (a + 1) (bad || !(seeB s a == c)) := by
  unfold Far seeB
  by_cases hl : a < s.size
  · rw [left_cons hl]
    simp only [List.head?_cons, Option.getD_some, wantS]
    refine ⟨fun h => by simp [h], fun h => ?_, fun h => ?_, by omega⟩
    · simp only [Bool.or_eq_false_iff, Bool.not_eq_false', beq_iff_eq] at h
      rw [if_pos h.2]; exact ⟨by omega, rfl⟩
    · simp only [Bool.or_eq_true, Bool.not_eq_true', beq_eq_false_iff_ne] at h
      rcases h with h | h
      · exact .inl h
      · exact .inr (if_neg h)
  · rw [left_nil (by omega)]
    simp only [List.head?_nil, Option.getD_none, wantS]
    refine ⟨fun h => by simp [h], fun h => ?_, fun _ => .inr trivial, by omega⟩
    simp only [Bool.or_eq_false_iff, Bool.not_eq_false', beq_iff_eq] at h
    exact absurd h.2.symm hc

theorem wantR (b : Nat) (s : ByteArray) (a : Nat) (bad : Bool) (c : UInt8) (w : World) (h : Ps w b s a bad) (hs : s.size ≤ 1000000) (ha : a ≤ 2000000) (hc : c ≠ 0) :
    Calls Tryz.prog 52 #[.pointer (some ⟨b, 0, none⟩), .int .u8 (c.toNat : Int)] w fun e w' => e = .returned (.tuple #[]) ∧ ∃ bad', Ps w' b s (a + 1) bad' ∧ w.grownBy w' (some b) ∧ Far s a bad (wantS c (left s a)) (a + 1) bad' :=
  (want b s a bad c w h hs ha).mono fun e w' ⟨he, hp, hg⟩ => ⟨he, _, hp, hg, want_far hc⟩

set_option maxHeartbeats 1600000 in
theorem numR (b : Nat) (s : ByteArray) (a : Nat) (bad : Bool) (w : World) (h : Ps w b s a bad) (hs : s.size ≤ 1000000) (ha : a ≤ 1000000) :
    Calls Tryz.prog 55 #[.pointer (some ⟨b, 0, none⟩)] w fun e w' => ∃ n a' bad', e = .returned (.int .i64 n) ∧ (Ps w' b s a' bad' ∧ w.grownBy w' (some b)) ∧ (a' ≤ a ∨ a' ≤ s.size) ∧ Far s a bad ((numS (left s a)).map (·.2)) a' bad' ∧ (bad' = false → ∃ r, numS (left s a) = some (n, r)) := by
  have HP := hide h
  clear h
  go_enter Tryz.func55, Tryz.ntmps55
  go_wp2_with (fail)
  refine (word b s a bad w (unhide HP) hs (by omega)).mono ?_
  rintro e w1 ⟨x, a1, bad1, rfl, hp1, hg1, h1, h2⟩
  have P1 := hide hp1
  have G1 := hide hg1
  have H1 := hide h1
  have H2 := hide h2
  have hx : x.size ≤ 2000000 := by
    by_cases hl : s.size < a
    · have := (h1 hl).2.2; omega
    · have := (h2 (by omega)).2.1
      have e1 := congrArg List.length this
      have e2 := restOf_len (left s a)
      have e3 := left_len s a
      have e4 : x.data.toList.length = x.size := Array.length_toList
      omega
  have ha1 : a1 ≤ a ∨ a1 ≤ s.size := by
    by_cases hl : s.size < a
    · have := (h1 hl).2.1; omega
    · exact .inr (h2 (by omega)).2.2.2.2
  clear hp1 hg1 h1 h2 HP
  go_wp2_with (fail)
  refine (numC x w1 hx).mono ?_
  rintro e w2 ⟨rfl, hb2⟩
  have P2 := hide ((unhide P1).kept hb2)
  have G2 := hide (gb_trans (unhide G1) (gb_of _ hb2))
  clear hb2 P1 G1
  obtain ⟨⟨c0, c1, c2⟩, f1, f2⟩ := (unhide P2).cells
  have HF0 : Hid (numL x.data.toList = none → Far s a bad ((numS (left s a)).map (·.2)) a1 true) := hide (fun hn => by
    refine ⟨fun _ => rfl, fun h => (by cases h), fun _ => ?_, ?_⟩
    · by_cases hl : s.size < a
      · right
        rw [left_nil (by omega)]; rfl
      · right
        unfold numS; rw [← (unhide H2 (by omega)).2.1, hn]; rfl
    · by_cases hl : s.size < a
      · rw [(unhide H1 hl).2.1]; omega
      · exact (unhide H2 (by omega)).2.2.2.1)
  have HF1 : Hid (∀ n, numL x.data.toList = some n → Far s a bad ((numS (left s a)).map (·.2)) a1 bad1 ∧ ∃ r, numS (left s a) = some (n, r)) := hide (fun n hn => by
    have hl : ¬ s.size < a := fun hl => by
      have := (unhide H1 hl).2.2
      have e : x.data.toList = [] := List.length_eq_zero_iff.1 (by rw [Array.length_toList]; exact this)
      rw [e] at hn; simp [numL] at hn
    obtain ⟨e1, e2, e3, e4, e5⟩ := unhide H2 (by omega)
    have e6 : numS (left s a) = some (n, left s a1) := by unfold numS; rw [← e2, hn, e3]; rfl
    refine ⟨⟨fun h => by rw [e1]; exact h, fun _ => ⟨e5, by rw [e6]; rfl⟩, fun h => .inl (by rw [← e1]; exact h), e4⟩, _, e6⟩)
  clear H1 H2
  cases hn : numL x.data.toList with
  | none =>
    rw [numV_none hn]
    have HF := hide (unhide HF0 hn)
    clear HF0 HF1 hn
    go_wp2_with (fail)
    go_ret
    exact ⟨0, a1, true, rfl, ⟨(unhide P2).set 2 _, gb_trans (unhide G2) (gb_set _ _ _ _)⟩, ha1, unhide HF, fun h => by cases h⟩
  | some n =>
    rw [numV_some hn]
    have HF := hide (unhide HF1 n hn)
    clear HF0 HF1 hn
    go_wp2_with (fail)
    go_ret
    exact ⟨n, a1, bad1, rfl, ⟨unhide P2, unhide G2⟩, ha1, (unhide HF).1, fun _ => (unhide HF).2⟩
end Go.Proofs.YtkdaljonmkfdaaaGreatDoor.Rule
end

section
/-
  The reader of drawn codes (spec.l18Rd): what its calls leave behind, and that each pick is in its range.
-/
namespace Go.Proofs.YtkdaljonmkfdaaaGreatDoor.Draw
set_option linter.unusedVariables false
open Go.RowKit

theorem xor_i64 (a b : Nat) (ha : a < 9223372036854775808) (hb : b < 9223372036854775808) : bits .xor .i64 (a : Int) (b : Int) = ((a ^^^ b : Nat) : Int) := by
  have hx : a ^^^ b < 2 ^ 63 := Nat.xor_lt_two_pow (by omega) (by omega)
  have h1 : (BitVec.ofInt 64 (a : Int)).toNat = a := by
    rw [BitVec.ofInt_natCast, BitVec.toNat_ofNat]; exact Nat.mod_eq_of_lt (by omega)
  have h2 : (BitVec.ofInt 64 (b : Int)).toNat = b := by
    rw [BitVec.ofInt_natCast, BitVec.toNat_ofNat]; exact Nat.mod_eq_of_lt (by omega)
  show IntKind.i64.wrap ((BitVec.ofInt 64 (a : Int) ^^^ BitVec.ofInt 64 (b : Int)).toNat : Int) = _
  rw [BitVec.toNat_xor, h1, h2]
  simp [IntKind.wrap, IntKind.bits, IntKind.signed]
  omega
theorem xor_pos (a b : Int) (ha : 0 ≤ a) (ha' : a < 9223372036854775808) (hb : 0 ≤ b) (hb' : b < 9223372036854775808) : 0 ≤ bits .xor .i64 a b := by
  obtain ⟨m, rfl⟩ := Int.eq_ofNat_of_zero_le ha
  obtain ⟨n, rfl⟩ := Int.eq_ofNat_of_zero_le hb
  rw [xor_i64 m n (by omega) (by omega)]; omega

/-- In the world W block b is a reader that has taken p bytes: at most 2000 bytes, in an elder block. -/
def Rd (W : World) (b p : Nat) : Prop := ∃ (a : Option Addr) (len cap : Nat), len ≤ 2000 ∧ W.cell? ⟨b, 0, none⟩ = some (.slice a len cap) ∧ W.cell? ⟨b, 1, none⟩ = some (.int .i64 p) ∧ W.frozen? ⟨b, 1, none⟩ = false ∧
  (len = 0 ∨ ∃ blk off, a = some ⟨blk, off, none⟩ ∧ blk < b ∧ ∀ i, i < len → ∃ c : Int, 0 ≤ c ∧ c ≤ 255 ∧ W.cell? ⟨blk, off + i, none⟩ = some (.int .u8 c))

theorem Rd.lt {W : World} {b p : Nat} (h : Rd W b p) : b < W.heap.size := by
  obtain ⟨a, len, cap, hl, h0, h1, hf, hr⟩ := h
  refine Nat.lt_of_not_le fun hn => ?_
  have : W.heap[b]? = none := by simp; omega
  simp [World.cell?, this] at h0

/-- a step of the reader: its own block alone has turned -/
theorem grown_pick (w : World) (b k : Nat) (v : Value) : w.grownBy ((w.setCell ⟨b, 1, none⟩ v).drewN k) (some b) := by
  refine ⟨rfl, rfl, rfl, ?_, ?_⟩
  · simp [World.drewN]
  · intro j hj hne
    exact Below.heap_setCell w ⟨b, 1, none⟩ v j (fun e => hne (by rw [e]))

theorem Rd.step {w : World} {b p : Nat} (h : Rd w b p) (k : Nat) : Rd ((w.setCell ⟨b, 1, none⟩ (.int .i64 (p + 1))).drewN k) b (p + 1) := by
  obtain ⟨a, len, cap, hl, h0, h1, hf, hr⟩ := h
  refine ⟨a, len, cap, hl, ?_, ?_, ?_, ?_⟩
  · show (w.setCell ⟨b, 1, none⟩ (.int .i64 (p + 1))).cell? _ = _
    go_simp
  · show (w.setCell ⟨b, 1, none⟩ (.int .i64 (p + 1))).cell? _ = _
    go_simp
  · show (w.setCell ⟨b, 1, none⟩ (.int .i64 (p + 1))).frozen? _ = _
    go_simp
  · rcases hr with h | ⟨blk, off, e, hb, hc⟩
    · exact .inl h
    · refine .inr ⟨blk, off, e, hb, fun i hi => ?_⟩
      obtain ⟨c, c0, c1, hc⟩ := hc i hi
      refine ⟨c, c0, c1, ?_⟩
      show (w.setCell ⟨b, 1, none⟩ (.int .i64 (p + 1))).cell? _ = _
      have : blk ≠ b := by omega
      go_simp

end Go.Proofs.YtkdaljonmkfdaaaGreatDoor.Draw
end

section
/-
  The reader of drawn codes: its opening, numbers of a list, words.
-/
namespace Go.Proofs.YtkdaljonmkfdaaaGreatDoor.Draw
set_option linter.unusedVariables false
open Go.RowKit

theorem hide {p : Prop} (h : p) : Hid p := h
theorem unhide {p : Prop} (h : Hid p) : p := h
theorem below_drewN' {B : Nat} {a w : World} (h : Below B a w) (k : Nat) : Below B a (w.drewN k) := ⟨h.os, h.tape, h.output, h.size, h.block⟩
theorem grown_trans {a b c : World} {r : Option Nat} (h : a.grownBy b r) (k : b.grownBy c r) : a.grownBy c r :=
  ⟨k.os.trans h.os, k.tape.trans h.tape, k.output.trans h.output, Nat.le_trans h.size k.size, fun j hj hne => (k.block j (Nat.lt_of_lt_of_le hj h.size) hne).trans (h.block j hj hne)⟩
theorem grown_none {a b : World} {r : Option Nat} (h : a.grownBy b none) : a.grownBy b r := ⟨h.os, h.tape, h.output, h.size, fun j hj _ => h.block j hj (by simp)⟩
theorem grown_of_below {a b : World} (h : Below a.heap.size a b) (r : Option Nat) : a.grownBy b r := ⟨h.os, h.tape, h.output, h.size, fun j hj _ => h.block j hj⟩

/-- the reader is still what it was where only other blocks, all younger than it, have turned -/
theorem Rd.kept {w w' : World} {b p : Nat} {r : Option Nat} (h : Rd w b p) (hg : w.grownBy w' r) (hr : ∀ k, r = some k → b < k) : Rd w' b p := by
  have hb := h.lt
  have hne : ∀ j, j ≤ b → some j ≠ r := fun j hj e => by have := hr j e.symm; omega
  obtain ⟨a, len, cap, hl, h0, h1, hf, hr⟩ := h
  refine ⟨a, len, cap, hl, hg.cell h0 (hne _ (Nat.le_refl _)), hg.cell h1 (hne _ (Nat.le_refl _)), ?_, ?_⟩
  · rw [World.frozen?_of_block (hg.block b hb (hne _ (Nat.le_refl _)))]; exact hf
  · rcases hr with h | ⟨blk, off, e, hb, hc⟩
    · exact .inl h
    · refine .inr ⟨blk, off, e, hb, fun i hi => ?_⟩
      obtain ⟨c, c0, c1, hc⟩ := hc i hi
      exact ⟨c, c0, c1, hg.cell hc (hne blk (by omega))⟩

/-- bytes that came in: at most len are read -/
def Bytes (W : World) (a : Option Addr) (len cap : Nat) : Prop := len ≤ cap ∧ cap ≤ 9223372036854775807 ∧ (len = 0 ∨ ∃ blk off, a = some ⟨blk, off, none⟩ ∧ blk < W.heap.size ∧ ∀ i, i < len → ∃ c : Int, 0 ≤ c ∧ c ≤ 255 ∧ W.cell? ⟨blk, off + i, none⟩ = some (.int .u8 c))

theorem bytes_of {w : World} {a : Option Addr} {len cap : Nat} {zs : List Int} (h : (a = none ∧ len = 0 ∧ cap = 0 ∧ zs = []) ∨ ∃ x, a = some x ∧ len ≤ cap ∧ cap ≤ maxLen ∧ zs.length = cap ∧ (∀ i, i < zs.length → w.cell? (x.add i) = some (.int .u8 (zs.getD i 0))) ∧ ∀ n ∈ zs, (Lit.int .u8 n).wf = true) : Bytes w a len cap := by
  rcases h with ⟨rfl, rfl, rfl, rfl⟩ | ⟨x, rfl, hl, hm, hz, hc, hw⟩
  · exact ⟨Nat.le_refl _, by omega, .inl rfl⟩
  · refine ⟨hl, by unfold maxLen at hm; omega, ?_⟩
    by_cases h0 : len = 0
    · exact .inl h0
    · obtain ⟨b, off, spot⟩ := x
      have hspot : spot = none := by simpa [Addr.add] using World.cell?_spot (hc 0 (by omega))
      subst hspot
      refine .inr ⟨b, off, rfl, ?_, fun i hi => ?_⟩
      · have h1 := hc 0 (by omega)
        refine Nat.lt_of_not_le fun hn => ?_
        have h2 : w.heap[b]? = none := by simp; omega
        simp [World.cell?, Addr.add, h2] at h1
      · have h1 := hc i (by omega)
        have h2 : zs.getD i 0 ∈ zs := by
          rw [List.getD_eq_getElem?_getD, List.getElem?_eq_getElem (by omega)]; simp
        have h3 : 0 ≤ zs.getD i 0 ∧ zs.getD i 0 ≤ 255 := by simpa [Lit.wf, IntKind.min, IntKind.max, IntKind.signed, IntKind.bits] using hw _ h2
        rw [Addr.add_lit] at h1
        exact ⟨_, h3.1, h3.2, h1⟩

theorem Bytes.kept {w w' : World} {a : Option Addr} {len cap : Nat} (h : Bytes w a len cap) (hb : Below w.heap.size w w') : Bytes w' a len cap := by
  obtain ⟨h1, h2, hr⟩ := h
  refine ⟨h1, h2, ?_⟩
  rcases hr with h | ⟨blk, off, e, hlt, hc⟩
  · exact .inl h
  · refine .inr ⟨blk, off, e, Nat.lt_of_lt_of_le hlt hb.size, fun i hi => ?_⟩
    obtain ⟨c, c0, c1, hc⟩ := hc i hi
    exact ⟨c, c0, c1, by rw [hb.cell (p := ⟨blk, off + i, none⟩) hlt]; exact hc⟩
theorem below_trans {w w1 w2 : World} (h : Below w.heap.size w w1) (k : Below w1.heap.size w1 w2) : Below w.heap.size w w2 := h.trans (k.mono h.size)

theorem cell_alloc {w : World} {q : Addr} {v : Value} (o : Obj) (h : w.cell? q = some v) (hq : q.block < w.heap.size) : (w.alloc o).cell? q = some v := by
  rw [World.cell?_of_block (w := w) (Below.heap_alloc w o q.block hq)]; exact h

theorem rd_new (w : World) (a : Option Addr) (len cap : Nat) (t : TypeId) (hl : len ≤ 2000) (h : Bytes w a len cap) : Rd (w.alloc (.cells #[.slice a len cap, .int .i64 0] t)) w.heap.size 0 := by
  obtain ⟨h1, h2, hr⟩ := h
  refine ⟨a, len, cap, hl, ?_, ?_, ?_, ?_⟩
  · go_simp
  · go_simp
  · go_simp
  · rcases hr with h | ⟨blk, off, e, hb, hc⟩
    · exact .inl h
    · refine .inr ⟨blk, off, e, hb, fun i hi => ?_⟩
      obtain ⟨c, c0, c1, hc⟩ := hc i hi
      exact ⟨c, c0, c1, cell_alloc _ hc hb⟩

theorem wrapU (n : Int) : 0 ≤ IntKind.u64.wrap n ∧ IntKind.u64.wrap n < 18446744073709551616 := by
  have h : IntKind.u64.wrap n = n % 18446744073709551616 := by simp [IntKind.wrap, IntKind.bits, IntKind.signed]
  rw [h]; omega

/-- the numbers of a list that is written out -/
theorem new_nums (Q : Int → Prop) (w : World) (xs : List Int) (t : TypeId) (h : ∀ z ∈ xs, Q z) : ∀ i, i < xs.length → ∃ z : Int, Q z ∧ (w.alloc (.cells (xs.map (Value.int .i64)).toArray t)).cell? ⟨w.heap.size, 0 + i, none⟩ = some (.int .i64 z) := by
  intro i hi
  refine ⟨xs[i], h _ (List.getElem_mem hi), ?_⟩
  have e1 := (MapKept.heap_alloc w (.cells (xs.map (Value.int .i64)).toArray t)).1
  simp only [World.cell?]
  rw [e1]
  simp [hi]

/-- what a draw of the reader leaves: at most q bytes more are taken, and nothing that lay there has turned but the reader -/
def Drawn (w w' : World) (b p q : Nat) : Prop := (∃ p', p' ≤ p + q ∧ Rd w' b p') ∧ w.grownBy w' (some b)

/-- l1Coin: a number of at most 2000000000000000 -/
def isCoin (z : Int) : Prop := -2000000000000000 ≤ z ∧ z ≤ 2000000000000000

theorem Drawn.trans {w1 w2 w3 : World} {b p q : Nat} (h : w1.grownBy w2 (some b)) (k : Drawn w2 w3 b p q) : w1.grownBy w3 (some b) := grown_trans h k.2

/-- a reader that was opened in this call, and all that it did since, has turned nothing that was there before -/
theorem below_of {w w1 w2 : World} {b : Nat} (h : Below w.heap.size w w1) (hb : w.heap.size ≤ b) (hg : w1.grownBy w2 (some b)) : Below w.heap.size w w2 := h.grown hg h.size (fun k e => by injection e with e; omega)

/-- small numbers -/
def isSmall (z : Int) : Prop := -2000000 ≤ z ∧ z ≤ 2000000

end Go.Proofs.YtkdaljonmkfdaaaGreatDoor.Draw
end

section
/-
  'out = append(out, T{..})' on a slice of structs of two cells of the call's own.
-/
namespace Go.Proofs.YtkdaljonmkfdaaaGreatDoor.App2
set_option linter.unusedVariables false
open Go.RowKit

/-- two values each -/
abbrev flat {α : Type} (f g : α → Value) (l : List α) : List Value := l.flatMap fun x => [f x, g x]
theorem flat_len {α : Type} (f g : α → Value) : ∀ l : List α, (flat f g l).length = l.length * 2
  | [] => rfl
  | x :: xs => by
    have := flat_len f g xs
    simp only [flat, List.flatMap_cons, List.length_append, List.length_cons, List.length_nil] at this ⊢
    omega
theorem flat_get {α : Type} (f g : α → Value) : ∀ (l : List α) (i : Nat) (x : α), l[i]? = some x → (flat f g l)[i * 2]? = some (f x) ∧ (flat f g l)[i * 2 + 1]? = some (g x)
  | [], i, x, h => by simp at h
  | y :: ys, 0, x, h => by
    simp only [List.getElem?_cons_zero, Option.some.injEq] at h
    subst h
    simp [flat]
  | y :: ys, i + 1, x, h => by
    have := flat_get f g ys i x (by simpa using h)
    have e1 : (i + 1) * 2 = i * 2 + 1 + 1 := by omega
    have e2 : (i + 1) * 2 + 1 = i * 2 + 1 + 1 + 1 := by omega
    rw [e1]
    simp only [flat, List.flatMap_cons, List.cons_append, List.nil_append, List.getElem?_cons_succ]
    exact this

/-- the slice of the call's own in block b holds l -/
def Own2 {α : Type} (e : TypeId) (f g : α → Value) (W : World) (B b cap : Nat) (l : List α) : Prop := W.ownsRow B e 2 (.slice (some ⟨b, 0, none⟩) l.length cap) l.length (flat f g l)

section
variable {ops : Array Oper} {o : Oper} {a : Act} {K : Act → World → Prop} {Q : Exit → Act → World → Prop} {E : Prop} {α : Type} {e t : TypeId} {f g : α → Value} {i : TypeInfo} {z : Value} {bytes : Nat}

theorem listApp2 (w : World) {rest : List Oper} (ht : Tryz.prog.underlying t = some (.slice e)) (hinfo : Tryz.prog.info? e = some i) (hzero : i.zero = some z) (hsize : i.size = 2) (hbytes : i.bytes = bytes) (hz : z.cells.size = 2) (hb24 : bytes ≤ 100) (hf : ∀ x : α, (f x).oneCell' = true ∧ (g x).oneCell' = true)
    (hgd : o.guard = none) (s x : Operand) (ho : o.op = .call { callee := .builtin .append, args := #[s, x], argTypes := #[t, t] })
    (B b c N n : Nat) (l : List α) (q : α) (hn : l.length = n) (hs : a.eval s = .slice (some ⟨b, 0, none⟩) n c) (hown : Own2 e f g w B b c l) (hx : a.eval x = .slice (some ⟨N, 0, none⟩) 1 1) (hN : w.heap[N]? = some (.cells #[f q, g q] e (0, 0)))
    (hl : l.length ≤ 1000000) (hB : B ≤ w.heap.size)
    (h : ∀ b' c' w', Own2 e f g w' B b' c' (l ++ [q]) → w.grownBy w' (some b) → (b = b' ∨ b' = w.heap.size) → b' < w'.heap.size → wpList Tryz.prog ops Q rest (a.put o.dst (.slice (some ⟨b', 0, none⟩) (n + 1) c')) w') :
    wpList Tryz.prog ops Q (o :: rest) a w := by
  subst hn
  have hby : (l.length + 1) * bytes ≤ 140737488355328 := by
    have : (l.length + 1) * bytes ≤ 1000001 * 100 := Nat.mul_le_mul (by omega) hb24
    omega
  exact wpList_append_lies (P := Tryz.prog) w hgd s x t ho B e i z 2 bytes ht hinfo hzero hsize hbytes hz (by omega) _ l.length (flat f g l) hs hown ⟨N, 0, none⟩ 1 1 [f q, g q] hx rfl (World.news_of_block hN) (by have := hf q; simp [this.1, this.2]) (by omega) (by unfold maxLen; omega) hby hB _ rfl
    (fun b' c' w' h1 h2 h3 h4 => h b' c' w' (by unfold Own2; simpa [flat] using h1) h2 (by rcases h3 with h3 | h3; exact .inl (by simpa [Value.ownBlock] using h3); exact .inr h3) h4)
end

section
variable {α : Type} {e : TypeId} {f g : α → Value}
theorem Own2.kept {W W' : World} {B b c : Nat} {l : List α} {r : Option Nat} (h : Own2 e f g W B b c l) (hg : W.grownBy W' r) (hne : some b ≠ r) : Own2 e f g W' B b c l :=
  World.ownsRow.kept h hg (.inr (by simpa [Value.ownBlock] using hne))
theorem Own2.lt {W : World} {B b c : Nat} {l : List α} (h : Own2 e f g W B b c l) : B ≤ b ∧ b < W.heap.size := World.ownsRow.lt h b rfl
theorem Own2.new (w : World) (B : Nat) (hB : B ≤ w.heap.size) : Own2 e f g (w.alloc (.cells #[] e)) B w.heap.size 0 ([] : List α) :=
  ⟨by simp, .inr ⟨w.heap.size, 0, #[], rfl, hB, (MapKept.heap_alloc w _).1, by simp, by unfold maxLen; omega, by simp, by simp⟩⟩
theorem Own2.cells {W : World} {B b c : Nat} {l : List α} (h : Own2 e f g W B b c l) (i : Nat) (x : α) (hx : l[i]? = some x) : W.cell? ⟨b, i * 2, none⟩ = some (f x) ∧ W.cell? ⟨b, i * 2 + 1, none⟩ = some (g x) := by
  obtain ⟨h1, h2⟩ := flat_get f g l i x hx
  have c1 := World.ownsRow.cells h rfl (i * 2) _ h1
  have c2 := World.ownsRow.cells h rfl (i * 2 + 1) _ h2
  rw [Addr.add_lit] at c1 c2
  rw [Nat.zero_add] at c1 c2
  exact ⟨c1, c2⟩
end
end Go.Proofs.YtkdaljonmkfdaaaGreatDoor.App2
end

section
/-
  l2Steps, DrawRuleStep: drawn steps and a drawn number.
-/
namespace Go.Proofs.YtkdaljonmkfdaaaGreatDoor.Draw
set_option linter.unusedVariables false
open Go.RowKit App2
open Tiers (T T0 TR TC)

def isAny (z : Int) : Prop := True
def isNum (z : Int) : Prop := -1000000000000001 ≤ z ∧ z ≤ 1000000000000001

abbrev fT : T → Value := fun t => .int .i64 t.1
abbrev gT : T → Value := fun t => .int .i64 t.2
abbrev OwnT (W : World) (B b cap : Nat) (l : List T) : Prop := Own2 107 fT gT W B b cap l

theorem infoEx : ∃ i, Tryz.prog.info? 107 = some i ∧ i.zero = some (.agg #[.int .i64 0, .int .i64 0]) ∧ i.size = 2 ∧ i.bytes = 16 := by
  obtain ⟨i, hi, h2⟩ := Option.map_eq_some_iff.1 Tiers.infoT
  simp only [Prod.mk.injEq] at h2
  exact ⟨i, hi, h2.1, h2.2.1, h2.2.2⟩

theorem OwnT.tr {W : World} {B b cap : Nat} {l : List T} (h : OwnT W B b cap l) : TR W (.slice (some ⟨b, 0, none⟩) l.length cap) l := by
  refine .inr ⟨b, 0, cap, rfl, h.lt.2, fun i hi => ?_⟩
  have := h.cells i (l.getD i T0) (by simp [List.getD, hi])
  rw [Nat.zero_add]
  exact this

theorem ownsRow_le {w : World} {base base' size n : Nat} {e : TypeId} {v : Value} {xs : List Value} (h : w.ownsRow base e size v n xs) (hb : base' ≤ base) : w.ownsRow base' e size v n xs := by
  obtain ⟨h1, h2⟩ := h
  refine ⟨h1, ?_⟩
  rcases h2 with h | ⟨g, cap, cur, h3, h4, h5⟩
  · exact .inl h
  · exact .inr ⟨g, cap, cur, h3, by omega, h5⟩

end Go.Proofs.YtkdaljonmkfdaaaGreatDoor.Draw
end
