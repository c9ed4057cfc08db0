/-
  Texts of this proof laid together, in build order; each says of itself what it holds.
-/
import Derived.Test.YtkdaljonmkfdaaaGreatDoorZaf
import Derived.Deep.QuietTactic
import Derived.BigQuiet
import Derived.Test.YtkdaljonmkfdaaaGreatDoorZah
import Derived.Test.YtkdaljonmkfdaaaGreatDoorZae
import Derived.Shelf.Strings.Builder1
import Derived.Shelf.Strings.Builder2
import Derived.Shelf.Strings.OnBuilder
import Derived.Shelf.Small.Utf8
import Derived.Shelf.Small.Strs
import Derived.Shelf.Small.Wraps
import Derived.Shelf.Strconv.Atoi
import Derived.Shelf.Strconv.Itoa0
import Derived.Shelf.Strconv.Itoa1
import Derived.Shelf.LaysM
import Derived.Shelf.Strconv.Itoa2
import Derived.Shelf.Strconv.Itoa3
import Derived.Shelf.Strconv.AtoiErrFast
import Derived.Shelf.Strconv.ParseIntEmpty
import Derived.Shelf.Strconv.AtoiFail
import Derived.Shelf.Strconv.Clone
import Derived.Shelf.Strconv.SyntaxError
import Derived.Shelf.LaysC
import Derived.Shelf.Strconv.ToError
import Derived.Shelf.Strconv.Lower
import Derived.Shelf.Strconv.ParseUint10
import Derived.Shelf.Strconv.ParseUint10Empty
import Derived.Shelf.Strconv.ParseUint10Any
import Derived.Shelf.Strconv.ParseInt10
import Derived.Shelf.Strconv.AtoiLong
import Derived.Shelf.Strconv.AtoiInnerAll
import Derived.Shelf.Strconv.RangeError
import Derived.Shelf.Strconv.ToErrorRange
import Derived.Shelf.Strconv.AtoiAll
import Derived.Shelf.Strconv.ErrVarAll
import Derived.Shelf.Strings.Search1
import Derived.Shelf.Strings.Search2
import Derived.Shelf.Strings.Cut
import Derived.Shelf.Strings.Shaped
import Derived.Shelf.Strings.Prefix
import Derived.Shelf.Strings.Fields
import Derived.Shelf.Unicode.Latin
import Derived.Shelf.Strings.Runes
import Derived.Shelf.Strings.IndexAny
import Derived.Shelf.Strings.AsciiSet
import Derived.Shelf.Strings.IndexAnyAll
import Derived.Shelf.Unicode.Is16White
import Derived.Shelf.Unicode.IsSpaceAny
import Derived.Shelf.Unicode.Is16WhiteD
import Derived.Shelf.Unicode.IsSpaceAnyD
import Derived.Shelf.Strings.FieldsAny
import Derived.Shelf.Strings.FieldsFuncAny
import Derived.Shelf.Unicode.Is16Any
import Derived.Shelf.Unicode.Is32Any
import Derived.Shelf.Unicode.ExclAny
import Derived.Test.YtkdaljonmkfdaaaGreatDoorProg
section
/-
  The laws' own marks on steps: markRuleTierS, heldRuleTierS.
-/
namespace Go.Proofs.YtkdaljonmkfdaaaGreatDoor.Rule
set_option linter.unusedVariables false
open Go.RowKit
open Tiers (T T0 TR hide unhide below_trans)

/-- what lies outside of the blocks from lo on and below hi is as it was -/
structure Out (lo hi : Nat) (w w' : World) : Prop where
  os : w'.os = w.os
  tape : w'.tape = w.tape
  output : w'.output = w.output
  size : w.heap.size ≤ w'.heap.size
  block : ∀ j, j < w.heap.size → ¬ (lo ≤ j ∧ j < hi) → w'.heap[j]? = w.heap[j]?
theorem Out.refl (lo hi : Nat) (w : World) : Out lo hi w w := ⟨rfl, rfl, rfl, Nat.le_refl _, fun _ _ _ => rfl⟩
theorem Out.trans {lo hi : Nat} {a b c : World} (h : Out lo hi a b) (k : Out lo hi b c) : Out lo hi a c :=
  ⟨k.os.trans h.os, k.tape.trans h.tape, k.output.trans h.output, Nat.le_trans h.size k.size, fun j hj hn => (k.block j (Nat.lt_of_lt_of_le hj h.size) hn).trans (h.block j hj hn)⟩
theorem Out.mono {lo hi lo' hi' : Nat} {a b : World} (h : Out lo hi a b) (h1 : lo' ≤ lo) (h2 : hi ≤ hi') : Out lo' hi' a b :=
  ⟨h.os, h.tape, h.output, h.size, fun j hj hn => h.block j hj (by omega)⟩
theorem Out.set {lo hi : Nat} (w : World) (b o : Nat) (u : Value) (h1 : lo ≤ b) (h2 : b < hi) : Out lo hi w (w.setCell ⟨b, o, none⟩ u) := by
  refine ⟨rfl, rfl, rfl, by simp, fun j hj hn => ?_⟩
  exact Below.heap_setCell w ⟨b, o, none⟩ u j (fun e => hn (by simp at e; omega))
theorem Out.below {lo hi : Nat} {a b : World} (h : Below a.heap.size a b) : Out lo hi a b := ⟨h.os, h.tape, h.output, h.size, fun j hj _ => h.block j hj⟩
theorem Out.same {lo hi s e : Nat} {a b : World} (h : Out lo hi a b) (hd : e ≤ lo ∨ hi ≤ s) (he : e ≤ a.heap.size) : Same s e a b := fun j j1 j2 => h.block j (by omega) (by omega)
theorem Out.toBelow {lo hi : Nat} {a b : World} (h : Out lo hi a b) {B : Nat} (hB : B ≤ lo) (hs : B ≤ a.heap.size) : Below B a b := ⟨h.os, h.tape, h.output, h.size, fun j hj => h.block j (by omega) (by omega)⟩

/-- a row of steps in a block -/
def RowT (W : World) (b : Nat) (l : List T) : Prop := (∀ i, i < l.length → W.cell? ⟨b, i * 2, none⟩ = some (.int .i64 (l.getD i T0).1) ∧ W.cell? ⟨b, i * 2 + 1, none⟩ = some (.int .i64 (l.getD i T0).2)) ∧ ∀ j, W.frozen? ⟨b, j, none⟩ = false
theorem RowT.setA {W : World} {b : Nat} {l : List T} (h : RowT W b l) {k : Nat} (hk : k < l.length) (q : Int) : RowT (W.setCell ⟨b, k * 2, none⟩ (.int .i64 q)) b (l.set k (q, (l.getD k T0).2)) := by
  refine ⟨fun i hi => ?_, fun j => by simpa [World.frozen?_setCell] using h.2 j⟩
  have hi' : i < l.length := by simpa using hi
  obtain ⟨c0, c1⟩ := h.1 i hi'
  have d1 : (⟨b, k * 2, none⟩ : Addr) ≠ ⟨b, i * 2 + 1, none⟩ := fun he => by simp only [Addr.mk.injEq, and_true, true_and] at he; omega
  by_cases e : i = k
  · subst e
    rw [List.getD_eq_getElem?_getD, List.getElem?_set_self hi']
    exact ⟨World.cell?_setCell_same _ _ _ c0, by rw [World.cell?_setCell_other _ _ _ _ d1]; exact c1⟩
  · have d0 : (⟨b, k * 2, none⟩ : Addr) ≠ ⟨b, i * 2, none⟩ := fun he => by simp only [Addr.mk.injEq, and_true, true_and] at he; omega
    rw [World.cell?_setCell_other _ _ _ _ d0, World.cell?_setCell_other _ _ _ _ d1, c0, c1, List.getD_eq_getElem?_getD, List.getD_eq_getElem?_getD, List.getElem?_set_ne (by omega)]
    exact ⟨rfl, rfl⟩
theorem RowT.setB {W : World} {b : Nat} {l : List T} (h : RowT W b l) {k : Nat} (hk : k < l.length) (q : Int) : RowT (W.setCell ⟨b, k * 2 + 1, none⟩ (.int .i64 q)) b (l.set k ((l.getD k T0).1, q)) := by
  refine ⟨fun i hi => ?_, fun j => by simpa [World.frozen?_setCell] using h.2 j⟩
  have hi' : i < l.length := by simpa using hi
  obtain ⟨c0, c1⟩ := h.1 i hi'
  have d0 : (⟨b, k * 2 + 1, none⟩ : Addr) ≠ ⟨b, i * 2, none⟩ := fun he => by simp only [Addr.mk.injEq, and_true, true_and] at he; omega
  by_cases e : i = k
  · subst e
    rw [List.getD_eq_getElem?_getD, List.getElem?_set_self hi']
    exact ⟨by rw [World.cell?_setCell_other _ _ _ _ d0]; exact c0, World.cell?_setCell_same _ _ _ c1⟩
  · have d1 : (⟨b, k * 2 + 1, none⟩ : Addr) ≠ ⟨b, i * 2 + 1, none⟩ := fun he => by simp only [Addr.mk.injEq, and_true, true_and] at he; omega
    rw [World.cell?_setCell_other _ _ _ _ d0, World.cell?_setCell_other _ _ _ _ d1, c0, c1, List.getD_eq_getElem?_getD, List.getD_eq_getElem?_getD, List.getElem?_set_ne (by omega)]
    exact ⟨rfl, rfl⟩
theorem marksT_step (k : Nat) (l : List T) (j : Nat) (h : j < l.length) : (marksT k j ++ l.drop j).set j (((k + 2 * j : Nat) : Int), ((k + 2 * j + 1 : Nat) : Int)) = marksT k (j + 1) ++ l.drop (j + 1) := by
  rw [List.set_append_right _ _ (by rw [marksT_len]; exact Nat.le_refl _), marksT_len, Nat.sub_self, List.drop_eq_getElem_cons h, List.set_cons_zero]
  have e : marksT k (j + 1) = marksT k j ++ [(((k + 2 * j : Nat) : Int), ((k + 2 * j + 1 : Nat) : Int))] := by
    unfold marksT
    rw [List.range_succ, List.map_append]
    rfl
  rw [e, List.append_assoc]
  rfl
theorem getD_setT {L : List T} {j : Nat} (h : j < L.length) (y : T) : (L.set j y).getD j T0 = y := by simp [List.getD, h]

set_option maxHeartbeats 1000000 in
/-- markRuleTierS -/
theorem markTiers (lo hi : Nat) (v : Value) (l : List T) (k : Nat) (w : World) (h : OT lo hi w v l) (hl : l.length ≤ 1048576) (h0 : 1 ≤ k) (h1 : k ≤ 10000000) :
    Calls Tryz.prog 25 #[v, .int .i64 (k : Int)] w fun e w' => e = .returned (.int .i64 ((k + 2 * l.length : Nat) : Int)) ∧ OT lo hi w' v (marksT k l.length) ∧ Out lo hi w w' := by
  obtain ⟨hle, ⟨rfl, a, c, rfl⟩ | ⟨b, cap, rfl, hB1, hB2, hO⟩⟩ := h
  · go_enter Tryz.func25, Tryz.ntmps25
    go_wp2
    refine wp_loop_rounds 1 ?_
    rw [rounds_succ]
    go_wp2
    go_ret
    exact ⟨by simp, OT.nil _ _ hle, Out.refl _ _ _⟩
  · have HO : Hid (RowT w b l) := hide hO
    clear hO
    go_enter Tryz.func25, Tryz.ntmps25
    go_wp2
    go_loopw [1, 5] (fun t i wr => ∃ j : Nat, j ≤ l.length ∧ i = .int .i64 j ∧ t = .int .i64 ((k + 2 * j : Nat) : Int) ∧ Hid (RowT wr b (marksT k j ++ l.drop j)) ∧ Hid (Out lo hi w wr)) (fun _ i _ => l.length - (intOf i).toNat)
    case atStart => exact ⟨0, Nat.zero_le _, rfl, by simp, by show RowT _ _ _; simpa [marksT] using unhide HO, hide (Out.refl _ _ _)⟩
    case round =>
      obtain ⟨j, hj, rfl, rfl, hd, hg⟩ := hrel
      by_cases hlt : j < l.length
      · have hj2 : j < (marksT k j ++ l.drop j).length := by rw [List.length_append, marksT_len, List.length_drop]; omega
        have HS := hide (marksT_step k l j hlt)
        generalize marksT k j ++ l.drop j = L at *
        have i1 : (0 : Int) ≤ (j : Int) := by omega
        have i2 : (j : Int) < (l.length : Int) := by omega
        have ho1 := unhide hd
        obtain ⟨c0, _⟩ := ho1.1 j hj2
        have f0 := ho1.2 (j * 2)
        have ho2 := ho1.setA hj2 ((k + 2 * j : Nat) : Int)
        have hj3 : j < (L.set j (((k + 2 * j : Nat) : Int), (L.getD j T0).2)).length := by simpa using hj2
        obtain ⟨_, c1⟩ := ho2.1 j hj3
        have f1 := ho1.2 (j * 2 + 1)
        have ho3 := ho2.setB hj3 ((k + 2 * j + 1 : Nat) : Int)
        rw [getD_setT hj2, List.set_set] at ho3
        rw [unhide HS] at ho3
        have O3 := hide ho3
        have G3 := hide ((unhide hg).trans ((Out.set wr b (j * 2) (.int .i64 ((k + 2 * j : Nat) : Int)) hB1 hB2).trans (Out.set _ b (j * 2 + 1) (.int .i64 ((k + 2 * j + 1 : Nat) : Int)) hB1 hB2)))
        have e1 : ((k + 2 * j : Nat) : Int) + 1 = ((k + 2 * j + 1 : Nat) : Int) := by omega
        clear ho1 ho2 ho3 hd hg hj3 HS
        go_wp2
        exact ⟨⟨j + 1, by omega, by go_num, by congr 1, O3, G3⟩, by simp [intOf]; omega⟩
      · obtain rfl : j = l.length := by omega
        go_wp2
        go_ret
        refine ⟨rfl, ⟨hle, .inr ⟨b, cap, by rw [marksT_len], hB1, hB2, ?_⟩⟩, unhide hg⟩
        have := unhide hd
        simpa [RowT] using this

set_option maxHeartbeats 1000000 in
/-- heldRuleTierS, of a row that holds its marks -/
theorem heldTiers (lo hi : Nat) (v : Value) (n k : Nat) (w : World) (h : TL lo hi w v (marksT k n)) (hl : n ≤ 1048576) (h0 : 1 ≤ k) (h1 : k ≤ 10000000) :
    Calls Tryz.prog 27 #[v, .int .i64 (k : Int)] w fun e w' => e = .returned (.int .i64 ((k + 2 * n : Nat) : Int)) ∧ w' = w := by
  rcases h with ⟨hn, a, c, rfl⟩ | ⟨b, o, cap, rfl, hb1, hb2, hc⟩
  · have : n = 0 := by have := congrArg List.length hn; rw [marksT_len] at this; exact this
    subst this
    clear hn
    go_enter Tryz.func27, Tryz.ntmps27
    go_wp2
    refine wp_loop_rounds 1 ?_
    rw [rounds_succ]
    go_wp2
    go_ret
    exact ⟨by simp, rfl⟩
  · rw [marksT_len] at *
    have HC := hide hc
    clear hc
    go_enter Tryz.func27, Tryz.ntmps27
    go_wp2
    go_loopw [1, 5] (fun t i wr => ∃ j : Nat, j ≤ n ∧ i = .int .i64 j ∧ t = .int .i64 ((k + 2 * j : Nat) : Int) ∧ wr = w) (fun _ i _ => n - (intOf i).toNat)
    case atStart => exact ⟨0, Nat.zero_le _, rfl, by simp, rfl⟩
    case round =>
      obtain ⟨j, hj, rfl, rfl, rfl⟩ := hrel
      by_cases hlt : j < n
      · obtain ⟨c0, c1⟩ := unhide HC j hlt
        rw [marksT_get hlt] at c0 c1
        have i1 : (0 : Int) ≤ (j : Int) := by omega
        have i2 : (j : Int) < (n : Int) := by omega
        have q1 : (((k + 2 * j : Nat) : Int) != ((k + 2 * j : Nat) : Int)) = false := by simp
        have e1 : ((k + 2 * j : Nat) : Int) + 1 = ((k + 2 * j + 1 : Nat) : Int) := by omega
        have q2 : (((k + 2 * j + 1 : Nat) : Int) != ((k + 2 * j + 1 : Nat) : Int)) = false := by simp
        go_wp2
        exact ⟨⟨j + 1, by omega, by go_num, by congr 1, trivial⟩, by simp [intOf]; omega⟩
      · obtain rfl : j = n := by omega
        go_wp2
        go_ret
        exact ⟨rfl, rfl⟩
end Go.Proofs.YtkdaljonmkfdaaaGreatDoor.Rule
end

section
/-
  The laws' own marks on expressions: markRuleExprS, heldRuleExprS.
-/
namespace Go.Proofs.YtkdaljonmkfdaaaGreatDoor.Rule
set_option linter.unusedVariables false
open Go.RowKit RegIn
open Tiers (T T0 TR hide unhide below_trans)

theorem digs_len : ∀ k : Nat, (Evs.digs k).length ≤ k := by
  intro k
  induction k using Nat.strongRecOn with
  | _ k ih =>
    by_cases h : 0 < k
    · rw [Evs.digs_pos h, List.length_append]
      have := ih (k / 10) (by omega)
      simp; omega
    · obtain rfl : k = 0 := by omega
      rw [Evs.digs_zero]; simp
theorem mt_size (k : Nat) : (Evs.mt k).size ≤ k + 1 := by
  have := digs_len k
  simp [Evs.mt, ByteArray.size]; omega

theorem RowX.set {W : World} {b : Nat} {xs : List X} {j c : Nat} {u : Value} {x x' : X} (h : RowX W b xs) (hx : xs[j]? = some x) (hc : c < 5) (hu : (cells5 x')[c]? = some u) (h' : ∀ i, i ≠ c → (cells5 x')[i]? = (cells5 x)[i]?) :
    RowX (W.setCell ⟨b, j * 5 + c, none⟩ u) b (xs.set j x') := by
  refine ⟨fun i y hy i5 v hv => ?_, fun q => by simpa [World.frozen?_setCell] using h.2 q⟩
  have h5 : ∀ (z : X) (v : Value), (cells5 z)[i5]? = some v → i5 < 5 := fun z v hv => by
    have := (List.getElem?_eq_some_iff.1 hv).1
    simpa [cells5] using this
  have hi5 := h5 y v hv
  obtain ⟨c0, hc0⟩ : ∃ z, (cells5 x)[c]? = some z := ⟨_, List.getElem?_eq_getElem (by simpa [cells5] using hc)⟩
  by_cases e : i = j
  · subst e
    have hlt : i < xs.length := (List.getElem?_eq_some_iff.1 hx).1
    rw [List.getElem?_set_self hlt] at hy
    obtain rfl : x' = y := by simpa using hy
    by_cases e2 : i5 = c
    · subst e2
      rw [hu] at hv
      obtain rfl : u = v := by simpa using hv
      exact World.cell?_setCell_same _ _ _ (h.1 i x hx i5 c0 hc0)
    · rw [h' i5 e2] at hv
      rw [World.cell?_setCell_other _ _ _ _ (fun he => by simp only [Addr.mk.injEq, and_true, true_and] at he; omega)]
      exact h.1 i x hx i5 v hv
  · rw [List.getElem?_set_ne (by omega)] at hy
    rw [World.cell?_setCell_other _ _ _ _ (fun he => by simp only [Addr.mk.injEq, and_true, true_and] at he; omega)]
    exact h.1 i y hy i5 v hv
theorem RowX.as {W : World} {b : Nat} {xs : List X} {j : Nat} {x x' : X} (h : RowX W b xs) (hx : xs[j]? = some x) (h' : cells5 x' = cells5 x) : RowX W b (xs.set j x') := by
  refine ⟨fun i y hy i5 v hv => ?_, h.2⟩
  by_cases e : i = j
  · subst e
    have hlt : i < xs.length := (List.getElem?_eq_some_iff.1 hx).1
    rw [List.getElem?_set_self hlt] at hy
    obtain rfl : x' = y := by simpa using hy
    rw [h'] at hv
    exact h.1 i x hx i5 v hv
  · rw [List.getElem?_set_ne (by omega)] at hy
    exact h.1 i y hy i5 v hv
theorem set_at {ys zs : List X} {x x' : X} : (ys ++ x :: zs).set ys.length x' = ys ++ x' :: zs := by
  rw [List.set_append_right _ _ (Nat.le_refl _), Nat.sub_self, List.set_cons_zero]
theorem get_at {ys zs : List X} {x : X} : (ys ++ x :: zs)[ys.length]? = some x := by simp

def MarkS (d : Nat) : Prop := ∀ (lo hi : Nat) (v : Value) (l : List Ex) (k : Nat) (w : World), OS w d lo hi v l → hi ≤ w.heap.size → 1 ≤ k → k + 3 * wtL l ≤ 1000000 →
  Calls Tryz.prog 24 #[v, .int .i64 (k : Int)] w fun x w' => ∃ (l' : List Ex) (k' : Nat), x = .returned (.int .i64 (k' : Int)) ∧ k' ≤ k + 3 * wtL l ∧ MkL k l' k' ∧ OS w' d lo hi v l' ∧ Out lo hi w w'

theorem markS_none (a : Option Addr) (c k : Nat) (w : World) (h1 : k ≤ 1000000) : Calls Tryz.prog 24 #[.slice a 0 c, .int .i64 (k : Int)] w fun x w' => x = .returned (.int .i64 (k : Int)) ∧ w' = w := by
  go_enter Tryz.func24, Tryz.ntmps24
  go_wp2
  refine wp_loop_rounds 1 ?_
  rw [rounds_succ]
  go_wp2
  go_ret
  exact ⟨rfl, rfl⟩

/-- what there is of a row while it is being marked -/
structure MkRow (w wr : World) (d b lo hi k n j kj : Nat) (wl : Nat) (ys zs : List X) : Prop where
  len : ys.length = j ∧ j + zs.length = n
  row : RowX wr b (ys ++ zs)
  chain : ∃ m, Chain (OX wr d) (b + 1) m ys ∧ Chain (OX wr d) m hi zs
  marks : MkL k (ys.map (·.1)) kj
  room : kj + 3 * wtL (zs.map (·.1)) ≤ k + 3 * wl
  out : Out lo hi w wr

set_option maxHeartbeats 2000000 in
theorem markS_succ {d : Nat} (H : MarkS d) : MarkS (d + 1) := by
  rintro lo hi v l k w ⟨hle, ⟨rfl, a, c, rfl⟩ | ⟨b, cap, xs, rfl, rfl, hl, hb1, hb2, hrow, hch⟩⟩ hhi h0 hk
  · refine (markS_none a c k w (by omega)).mono ?_
    rintro x w' ⟨rfl, rfl⟩
    exact ⟨[], k, rfl, by omega, by rw [MkL], OS.nil a c hle, Out.refl _ _ _⟩
  have HS := hide H
  have HI : Hid (MkRow w w d b lo hi k xs.length 0 k (wtL (xs.map (·.1))) [] xs) := hide ⟨⟨rfl, by simp⟩, hrow, ⟨b + 1, Nat.le_refl _, hch⟩, by simp [MkL], by omega, Out.refl _ _ _⟩
  have hln : (xs.map (·.1)).length = xs.length := by simp
  rw [hln]
  generalize hn : xs.length = n at *
  generalize hwl : wtL (xs.map (·.1)) = wl at *
  clear hrow hch H hle hwl
  rw [hln] at hl
  clear hln
  go_enter Tryz.func24, Tryz.ntmps24
  go_wp2
  go_loopw [1, 5] (fun t i wr => ∃ (j kj : Nat) (ys zs : List X), j ≤ n ∧ kj ≤ 1000000 ∧ k ≤ kj ∧ i = .int .i64 j ∧ t = .int .i64 (kj : Int) ∧ Hid (MkRow w wr d b lo hi k n j kj wl ys zs)) (fun _ i _ => n - (intOf i).toNat)
  case atStart => exact ⟨0, k, [], xs, by omega, by omega, by omega, rfl, rfl, HI⟩
  case round =>
    obtain ⟨j, kj, ys, zs, hj, hkj, hkk, rfl, rfl, hI⟩ := hrel
    by_cases hlt : j < n
    · obtain ⟨⟨hy, hz⟩, hrow, ⟨m, hc1, hc2⟩, hmk, hroom, hout⟩ := unhide hI
      clear hI
      cases zs with
      | nil => simp at hz; omega
      | cons x zs =>
      obtain ⟨p, hp1, hp2, ⟨⟨hz1, hz2⟩, q, hq1, hq2⟩, hc3⟩ := hc2
      subst hy
      have hzl : ys.length + (zs.length + 1) = n := by simpa using hz
      rw [List.map_cons, wtL] at hroom
      have hwx := wt_eq x.1
      have hbm := hc1.le
      have hq1l := hq1.le
      have hq2l := hq2.le
      have hc3l := hc3.le
      obtain ⟨K1, hK1⟩ : ∃ K1 : Int, K1 = ((kj + 1 : Nat) : Int) := ⟨_, rfl⟩
      obtain ⟨K2, hK2⟩ : ∃ K2 : Int, K2 = ((kj + 2 : Nat) : Int) := ⟨_, rfl⟩
      obtain ⟨K3, hK3⟩ : ∃ K3 : Int, K3 = ((kj + 3 : Nat) : Int) := ⟨_, rfl⟩
      have e1 : (kj : Int) + 1 = K1 := by omega
      have e2 : K1 + 1 = K2 := by omega
      have e3 : K2 + 1 = K3 := by omega
      have hb1K : K1 ≤ 1000003 ∧ K2 ≤ 1000003 ∧ K3 ≤ 1000003 ∧ 0 ≤ K1 ∧ 0 ≤ K2 ∧ 0 ≤ K3 := by omega
      have HK1 := hide hK1
      have HK2 := hide hK2
      have HK3 := hide hK3
      clear hK1 hK2 hK3
      obtain ⟨x1, hx1⟩ : ∃ x1 : X, x1 = (.mk (kj : Int) x.1.num x.1.meter x.1.kids x.1.tiers, x.2.1, x.2.2) := ⟨_, rfl⟩
      obtain ⟨x2, hx2⟩ : ∃ x2 : X, x2 = (.mk (kj : Int) K1 x.1.meter x.1.kids x.1.tiers, x.2.1, x.2.2) := ⟨_, rfl⟩
      obtain ⟨x3, hx3⟩ : ∃ x3 : X, x3 = (.mk (kj : Int) K1 (Evs.mt (kj + 2)) x.1.kids x.1.tiers, x.2.1, x.2.2) := ⟨_, rfl⟩
      have r1 := hrow.set (x' := x1) (c := 0) (u := .int .i64 (kj : Int)) get_at (by omega) (by subst hx1; rfl) (fun i hi => by subst hx1; match i, hi with | 0, h => exact absurd rfl h | 1, _ => rfl | 2, _ => rfl | 3, _ => rfl | 4, _ => rfl | i + 5, _ => rfl)
      rw [set_at, Nat.add_zero] at r1
      have r2 := r1.set (x' := x2) (c := 1) (u := .int .i64 K1) get_at (by omega) (by subst hx2; rfl) (fun i hi => by subst hx1 hx2; match i, hi with | 0, _ => rfl | 1, h => exact absurd rfl h | 2, _ => rfl | 3, _ => rfl | 4, _ => rfl | i + 5, _ => rfl)
      rw [set_at] at r2
      have c0 := hrow.1 ys.length x get_at 0 _ rfl
      rw [Nat.add_zero] at c0
      have c1 := r1.1 ys.length x1 get_at 1 (.int .i64 x.1.num) (by subst hx1; rfl)
      have f0 := hrow.2 (ys.length * 5)
      have f1 := hrow.2 (ys.length * 5 + 1)
      have O2 := hide (hout.trans ((Out.set wr b (ys.length * 5) (.int .i64 (kj : Int)) hb1 hb2).trans (Out.set _ b (ys.length * 5 + 1) (.int .i64 K1) hb1 hb2)))
      have S2 : Hid (∀ s e, b < s → e ≤ wr.heap.size → Same s e wr ((wr.setCell ⟨b, ys.length * 5, none⟩ (.int .i64 (kj : Int))).setCell ⟨b, ys.length * 5 + 1, none⟩ (.int .i64 K1))) := hide (fun s e hs he => same_trans (same_set _ _ _ _ hs) (same_set _ _ _ _ hs))
      have R2 := hide r2
      have hszr := hout.size
      have HC1 := hide hc1
      have HC3 := hide hc3
      have HQ1 := hide hq1
      have HQ2 := hide hq2
      have HMK := hide hmk
      have i1 : (0 : Int) ≤ (ys.length : Int) := by omega
      have i2 : (ys.length : Int) < (n : Int) := by omega
      clear hc1 hc3 hq1 hq2 hmk hrow r1 r2 hout
      go_wp2_with (fail)
      generalize hW2 : (wr.setCell ⟨b, ys.length * 5, none⟩ (.int .i64 (kj : Int))).setCell ⟨b, ys.length * 5 + 1, none⟩ (.int .i64 K1) = W2 at *
      have hs2 : wr.heap.size = W2.heap.size := by rw [← hW2]; simp
      clear c0 c1 f0 f1 hW2
      have hM := Evs.markT (kj + 2) W2 (by omega) (by omega)
      rw [← unhide HK2] at hM
      refine hM.mono ?_
      clear hM
      rintro y w3 ⟨rfl, hb3⟩
      have r3 := ((unhide R2).kept (hb3.block b (by omega)))
      have c2 := r3.1 ys.length x2 get_at 2 (.string x.1.meter) (by subst hx2; rfl)
      have c3 := r3.1 ys.length x2 get_at 3 x.2.1 (by subst hx2; rfl)
      have c4 := r3.1 ys.length x2 get_at 4 x.2.2 (by subst hx2; rfl)
      have f2 := r3.2 (ys.length * 5 + 2)
      have r4 := r3.set (x' := x3) (c := 2) (u := .string (Evs.mt (kj + 2))) get_at (by omega) (by subst hx3; rfl) (fun i hi => by subst hx2 hx3; match i, hi with | 0, _ => rfl | 1, _ => rfl | 2, h => exact absurd rfl h | 3, _ => rfl | 4, _ => rfl | i + 5, _ => rfl)
      rw [set_at] at r4
      have R4 := hide r4
      have c3' := r4.1 ys.length x3 get_at 3 x.2.1 (by subst hx3; rfl)
      have O4 := hide ((unhide O2).trans ((Out.below hb3).trans (Out.set w3 b (ys.length * 5 + 2) (.string (Evs.mt (kj + 2))) hb1 hb2)))
      have S4 : Hid (∀ s e, b < s → e ≤ wr.heap.size → Same s e wr (w3.setCell ⟨b, ys.length * 5 + 2, none⟩ (.string (Evs.mt (kj + 2))))) := hide (fun s e hs he => same_trans (unhide S2 s e hs he) (same_trans (same_below hb3 (by omega)) (same_set _ _ _ _ hs)))
      have hmz := mt_size (kj + 2)
      have hs3 := hb3.size
      have hx3' := hx3
      clear r3 r4 R2 O2 S2 hb3 c3 c4
      generalize hmt : Evs.mt (kj + 2) = mm at *
      go_wp2_with (fail)
      generalize hW4 : w3.setCell ⟨b, ys.length * 5 + 2, none⟩ (.string mm) = W4 at *
      have hs4 : wr.heap.size ≤ W4.heap.size := by rw [← hW4]; simp; omega
      clear c2 c3' f2 hW4
      have hww := wtL_eq x.1.kids
      have hM := unhide HS m q x.2.1 x.1.kids (kj + 3) W4 ((unhide HQ1).kept (unhide S4 m q (by omega) (by omega))) (by omega) (by omega) (by omega)
      rw [← unhide HK3] at hM
      refine hM.mono ?_
      clear hM
      rintro y w5 ⟨l', k1, rfl, hk1, hm1, ho5, hout5⟩
      have hk1l := hm1.le
      have O5 := hide ((unhide O4).trans (hout5.mono (by omega) (by omega)))
      have r5 := (unhide R4).kept (hout5.block b (by omega) (by omega))
      have R5 := hide r5
      have c4 := r5.1 ys.length x3 get_at 4 x.2.2 (by subst hx3'; rfl)
      have HO5 := hide ho5
      have HM1 := hide hm1
      have S5 : Hid (∀ s e, b < s → e ≤ wr.heap.size → (e ≤ m ∨ q ≤ s) → Same s e wr w5) := hide (fun s e hs he hd => same_trans (unhide S4 s e hs he) (hout5.same hd (by omega)))
      have hs5 := hout5.size
      clear r5 R4 O4 S4 hm1 ho5 hout5
      go_wp2_with (fail)
      refine (markTiers q p x.2.2 x.1.tiers k1 w5 ((unhide HQ2).kept (unhide S5 q p (by omega) (by omega) (.inr (Nat.le_refl _)))) (by omega) (by omega) (by omega)).mono ?_
      rintro y w6 ⟨rfl, ho6, hout6⟩
      obtain ⟨x4, hx4⟩ : ∃ x4 : X, x4 = (.mk (kj : Int) K1 mm l' (marksT k1 x.1.tiers.length), x.2.1, x.2.2) := ⟨_, rfl⟩
      have HN : Hid (MkRow w w6 d b lo hi k n (ys.length + 1) (k1 + 2 * x.1.tiers.length) wl (ys ++ [x4]) zs) := by
        refine hide ⟨⟨by simp, by omega⟩, ?_, ⟨p, ?_, ?_⟩, ?_, by omega, (unhide O5).trans (hout6.mono (by omega) (by omega))⟩
        · have r6 := ((unhide R5).kept (hout6.block b (by omega) (by omega))).as (x' := x4) get_at (by subst hx4 hx3'; rfl)
          rw [set_at] at r6
          simpa using r6
        · refine Chain.append (m := m) ((unhide HC1).imp (lo := b + 1) (hi := m) (fun s e y hs he hy => hy.kept (same_trans (unhide S5 s e (by omega) (by omega) (.inl he)) (hout6.same (.inl (by omega)) (by omega)))) (Nat.le_refl _) (Nat.le_refl _)) ⟨p, by omega, Nat.le_refl _, ?_, Nat.le_refl _⟩ (fun s s' e y hs hy => hy.mono hs (Nat.le_refl _))
          subst hx4
          refine ⟨⟨?_, ?_⟩, q, (unhide HO5).kept (hout6.same (.inl (Nat.le_refl _)) (by omega)), ho6⟩
          · show mm.size ≤ maxLen
            unfold maxLen; omega
          · show (marksT k1 x.1.tiers.length).length ≤ maxLen
            rw [marksT_len]; exact hz2
        · exact (unhide HC3).imp (lo := p) (hi := hi) (fun s e y hs he hy => hy.kept (same_trans (unhide S5 s e (by omega) (by omega) (.inr (by omega))) (hout6.same (.inr hs) (by omega)))) (Nat.le_refl _) (Nat.le_refl _)
        · rw [List.map_append]
          refine (unhide HMK).snoc ?_
          subst hx4
          show MkE kj (.mk _ _ _ _ _) _
          rw [MkE]
          refine ⟨rfl, unhide HK1, hmt.symm, k1, unhide HM1, by rw [marksT_len], by rw [marksT_len]⟩
      clear R5 c4 O5 S5 ho6 hout6
      go_wp2_with (fail)
      exact ⟨⟨ys.length + 1, k1 + 2 * x.1.tiers.length, ys ++ [x4], zs, by omega, by omega, by omega, by go_num, rfl, HN⟩, by simp [intOf]; omega⟩
    · obtain rfl : j = n := by omega
      go_wp2_with (fail)
      go_ret
      obtain ⟨⟨hy, hz⟩, hrow, ⟨m, hc1, hc2⟩, hmk, hroom, hout⟩ := unhide hI
      have hz0 : zs = [] := List.length_eq_zero_iff.1 (by omega)
      subst hz0
      rw [List.append_nil] at hrow
      refine ⟨ys.map (·.1), kj, rfl, by simp [wtL] at hroom; omega, hmk, ⟨by omega, .inr ⟨b, cap, ys, by simp [hy], rfl, by simp; omega, hb1, hb2, hrow, ?_⟩⟩, hout⟩
      have := hc1.append hc2 (fun s s' e y hs hy => OX.mono hy hs (Nat.le_refl _))
      rwa [List.append_nil] at this
theorem markS_all : ∀ d, MarkS d
  | 0 => by
    rintro lo hi v l k w ⟨hle, rfl, a, c, rfl⟩ hhi h0 hk
    refine (markS_none a c k w (by omega)).mono ?_
    rintro x w' ⟨rfl, rfl⟩
    exact ⟨[], k, rfl, by omega, by rw [MkL], OS.nil a c hle, Out.refl _ _ _⟩
  | d + 1 => markS_succ (markS_all d)
end Go.Proofs.YtkdaljonmkfdaaaGreatDoor.Rule
end

section
/-
  Kids that are read one by one into a row that was made for them.
-/
namespace Go.Proofs.YtkdaljonmkfdaaaGreatDoor.Rule
set_option linter.unusedVariables false
open Go.RowKit
open Tiers (T T0 TR hide unhide below_trans)
open Kinds hiding hide unhide below_trans ext_toList

/-- a kid that was not read yet -/
def Z0 : X := (E0, .slice none 0 0, .slice none 0 0)
theorem RowX.made (w : World) (n : Nat) (t : TypeId) : RowX (w.alloc (.cells (madeCells zero5 (n * 5)) t)) w.heap.size (List.replicate n Z0) := by
  have e1 := (MapKept.heap_alloc w (.cells (madeCells zero5 (n * 5)) t)).1
  refine ⟨fun i x hx j u hu => ?_, fun j => ?_⟩
  · have hi : i < n := by
      have := (List.getElem?_eq_some_iff.1 hx).1
      simpa using this
    obtain rfl : Z0 = x := by
      have := (List.getElem?_eq_some_iff.1 hx).2
      simpa using this
    simp only [World.cell?]
    rw [e1]
    match j, hu with
    | 0, hu =>
      obtain rfl : Value.int .i64 0 = u := by simpa [cells5, Z0, E0, Ex.kind, Ex.num, Ex.meter] using hu
      have m0 : (i * 5) % 5 = 0 := by omega
      have l0 : i * 5 < n * 5 := by omega
      simp [madeCells, zero5, l0, m0]
    | 1, hu =>
      obtain rfl : Value.int .i64 0 = u := by simpa [cells5, Z0, E0, Ex.kind, Ex.num, Ex.meter] using hu
      have m0 : (i * 5 + 1) % 5 = 1 := by omega
      have l0 : i * 5 + 1 < n * 5 := by omega
      simp [madeCells, zero5, l0, m0]
    | 2, hu =>
      obtain rfl : Value.string ByteArray.empty = u := by simpa [cells5, Z0, E0, Ex.kind, Ex.num, Ex.meter] using hu
      have m0 : (i * 5 + 2) % 5 = 2 := by omega
      have l0 : i * 5 + 2 < n * 5 := by omega
      simp [madeCells, zero5, l0, m0]
    | 3, hu =>
      obtain rfl : Value.slice none 0 0 = u := by simpa [cells5, Z0, E0, Ex.kind, Ex.num, Ex.meter] using hu
      have m0 : (i * 5 + 3) % 5 = 3 := by omega
      have l0 : i * 5 + 3 < n * 5 := by omega
      simp [madeCells, zero5, l0, m0]
    | 4, hu =>
      obtain rfl : Value.slice none 0 0 = u := by simpa [cells5, Z0, E0, Ex.kind, Ex.num, Ex.meter] using hu
      have m0 : (i * 5 + 4) % 5 = 4 := by omega
      have l0 : i * 5 + 4 < n * 5 := by omega
      simp [madeCells, zero5, l0, m0]
    | j + 5, hu => simp [cells5] at hu
  · simp only [World.frozen?]
    rw [e1]; simp
/-- the world with a kid laid at place j -/
def put5W (W : World) (b j : Nat) (x : X) : World :=
  ((((W.setCell ⟨b, j * 5, none⟩ (.int .i64 x.1.kind)).setCell ⟨b, j * 5 + 1, none⟩ (.int .i64 x.1.num)).setCell ⟨b, j * 5 + 2, none⟩ (.string x.1.meter)).setCell ⟨b, j * 5 + 3, none⟩ x.2.1).setCell ⟨b, j * 5 + 4, none⟩ x.2.2
theorem RowX.put5 {W : World} {b : Nat} {ys zs : List X} {x x' : X} (h : RowX W b (ys ++ x :: zs)) : RowX (put5W W b ys.length x') b (ys ++ x' :: zs) := by
  have r1 := h.set (x' := (.mk x'.1.kind x.1.num x.1.meter x.1.kids x.1.tiers, x.2.1, x.2.2)) (c := 0) (u := .int .i64 x'.1.kind) get_at (by omega) rfl (fun i hi => by match i, hi with | 0, h => exact absurd rfl h | 1, _ => rfl | 2, _ => rfl | 3, _ => rfl | 4, _ => rfl | i + 5, _ => rfl)
  rw [set_at, Nat.add_zero] at r1
  have r2 := r1.set (x' := (.mk x'.1.kind x'.1.num x.1.meter x.1.kids x.1.tiers, x.2.1, x.2.2)) (c := 1) (u := .int .i64 x'.1.num) get_at (by omega) rfl (fun i hi => by match i, hi with | 0, _ => rfl | 1, h => exact absurd rfl h | 2, _ => rfl | 3, _ => rfl | 4, _ => rfl | i + 5, _ => rfl)
  rw [set_at] at r2
  have r3 := r2.set (x' := (.mk x'.1.kind x'.1.num x'.1.meter x.1.kids x.1.tiers, x.2.1, x.2.2)) (c := 2) (u := .string x'.1.meter) get_at (by omega) rfl (fun i hi => by match i, hi with | 0, _ => rfl | 1, _ => rfl | 2, h => exact absurd rfl h | 3, _ => rfl | 4, _ => rfl | i + 5, _ => rfl)
  rw [set_at] at r3
  have r4 := r3.set (x' := (.mk x'.1.kind x'.1.num x'.1.meter x.1.kids x.1.tiers, x'.2.1, x.2.2)) (c := 3) (u := x'.2.1) get_at (by omega) rfl (fun i hi => by match i, hi with | 0, _ => rfl | 1, _ => rfl | 2, _ => rfl | 3, h => exact absurd rfl h | 4, _ => rfl | i + 5, _ => rfl)
  rw [set_at] at r4
  have r5 := r4.set (x' := x') (c := 4) (u := x'.2.2) get_at (by omega) rfl (fun i hi => by match i, hi with | 0, _ => rfl | 1, _ => rfl | 2, _ => rfl | 3, _ => rfl | 4, h => exact absurd rfl h | i + 5, _ => rfl)
  rw [set_at] at r5
  exact r5
theorem put5W_other (W : World) (b j : Nat) (x : X) (c : Nat) (h : c ≠ b) : (put5W W b j x).heap[c]? = W.heap[c]? := by
  have k : ∀ (V : World) (o : Nat) (u : Value), (V.setCell ⟨b, o, none⟩ u).heap[c]? = V.heap[c]? := fun V o u => Below.heap_setCell V ⟨b, o, none⟩ u c (by simpa using h)
  unfold put5W
  rw [k, k, k, k, k]
theorem put5W_size (W : World) (b j : Nat) (x : X) : (put5W W b j x).heap.size = W.heap.size := by simp [put5W]
theorem put5W_below {B : Nat} {w W : World} {b j : Nat} {x : X} (h : Below B w W) (hB : B ≤ b) : Below B w (put5W W b j x) :=
  ((((h.setCell (p := ⟨b, j * 5, none⟩) hB _).setCell (p := ⟨b, j * 5 + 1, none⟩) hB _).setCell (p := ⟨b, j * 5 + 2, none⟩) hB _).setCell (p := ⟨b, j * 5 + 3, none⟩) hB _).setCell (p := ⟨b, j * 5 + 4, none⟩) hB _

/-- kids under way: the boxes rb (the result) and eb (the expression), the row kb -/
structure RdK (w wr : World) (n rb eb kb nk : Nat) (k : Int) (r1 : List UInt8) (j : Nat) (xs : List X) (r : List UInt8) : Prop where
  len : xs.length = j ∧ j ≤ nk
  row : RowX wr kb (xs ++ List.replicate (nk - j) Z0)
  chain : Chain (OX wr n) (kb + 1) wr.heap.size xs
  ebox : Boxes.At wr eb [.int .i64 k, .int .i64 0, .string ⟨#[]⟩, .slice (some ⟨kb, 0, none⟩) nk nk, .slice none 0 0]
  rbox : Boxes.At wr rb [.int .i64 0, .int .i64 0, .string ⟨#[]⟩, .slice none 0 0, .slice none 0 0]
  kids : KidsOf (ReadsI n) r1 (xs.map (·.1)) r
  env : EnvR wr
  below : Below w.heap.size w wr
  blocks : rb < eb ∧ eb < kb ∧ kb < wr.heap.size ∧ w.heap.size ≤ rb
theorem RdK.rest {w wr : World} {n rb eb kb nk : Nat} {k : Int} {r1 : List UInt8} {j : Nat} {xs : List X} {r : List UInt8} (h : RdK w wr n rb eb kb nk k r1 j xs r) (h3 : nk ≤ 3) : r.length ≤ r1.length := by
  have := kids_len (fun t e r => reads_wt n t e r) h.kids
  have hl := h.len
  simp at this
  omega
/-- one kid more -/
theorem RdK.step {w wr w' : World} {n rb eb kb nk : Nat} {k : Int} {r1 : List UInt8} {j : Nat} {xs : List X} {r r' : List UInt8} {x : X} (h : RdK w wr n rb eb kb nk k r1 j xs r) (hj : j < nk) (hb : Below wr.heap.size wr w') (hx : OX w' n wr.heap.size w'.heap.size x) (hr : ReadsI n (trimSp r) x.1 r') (hE : EnvR (put5W w' kb j x)) :
    RdK w (put5W w' kb j x) n rb eb kb nk k r1 (j + 1) (xs ++ [x]) r' := by
  obtain ⟨⟨l1, l2⟩, hrow, hch, he, hrb, hk, hv, hbl, b1, b2, b3, b4⟩ := h
  have hz := hb.size
  have hs : ∀ s e, kb < s → e ≤ w'.heap.size → Same s e w' (put5W w' kb j x) := fun s e hs _ c c1 _ => put5W_other _ _ _ _ _ (by omega)
  refine ⟨⟨by simp [l1], by omega⟩, ?_, ?_, he.kept ((put5W_other _ _ _ _ _ (by omega)).trans (hb.block eb (by omega))), hrb.kept ((put5W_other _ _ _ _ _ (by omega)).trans (hb.block rb (by omega))), ?_, hE, put5W_below (below_trans hbl hb) (by omega), b1, b2, by rw [put5W_size]; omega, b4⟩
  · have e : List.replicate (nk - j) Z0 = Z0 :: List.replicate (nk - (j + 1)) Z0 := by
      rw [← List.replicate_succ]; congr 1; omega
    have h1 := hrow.kept (hb.block kb (by omega))
    rw [e] at h1
    have h2 := h1.put5 (x' := x)
    rw [l1] at h2
    simpa using h2
  · rw [put5W_size]
    refine Chain.append (m := wr.heap.size) (hch.imp (lo := kb + 1) (hi := wr.heap.size) (fun s e y hs1 he1 hy => hy.kept (same_trans (same_below hb he1) (hs s e (by omega) (by omega)))) (Nat.le_refl _) (Nat.le_refl _)) ⟨w'.heap.size, hz, Nat.le_refl _, hx.kept (hs _ _ b3 (Nat.le_refl _)), Nat.le_refl _⟩ (fun s s' e y hs hy => hy.mono hs (Nat.le_refl _))
  · rw [List.map_append]
    exact hk.snoc hr
end Go.Proofs.YtkdaljonmkfdaaaGreatDoor.Rule
end

section
/-
  DERIVED: THE SHELF's CONTRACTS AT THIS DUMP, IN PLAIN WORDS (tools/lay-plain.mjs out of 'YtkdaljonmkfdaaaGreatDoorShelfT.lean', which tools/lay-shelf.mjs wrote): THE SAME DECLARATIONS UNDER THE SAME NAMES: 'import', 'namespace', 'open', 'def', 'theorem' AND NOTHING ELSE: no command of the shelf's: FOR A HAND-IN. Each laying: the table of numbers ('.._ren') and one theorem, a field a fact of the dump's own or the kernel's comparison; each contract: ONE APPLICATION.
-/
namespace Go.Proofs
open Go.Shelf
def Tryz.lays156_ren : Go.Shelf.Ren := ⟨fun | 156 => 110 | 165 => 133 | 166 => 134 | 169 => 135 | 240 => 154 | 241 => 155 | 276 => 162 | 277 => 163 | n => n, fun | 31 => 101 | 9 => 9 | 3 => 3 | 4 => 4 | 0 => 0 | 20 => 20 | 72 => 188 | 76 => 145 | 70 => 186 | 37 => 163 | 75 => 144 | 127 => 216 | 164 => 228 | 5 => 5 | 80 => 78 | n => n, fun | n => n⟩
theorem Tryz.lays156 : Go.Proofs.Lays.n156 Tryz.prog Tryz.lays156_ren := {
  mixed := by kernel_rfl
  f156 := Tryz.func110.trans (congrArg some (by kernel_rfl))
  f165 := Tryz.func133.trans (congrArg some (by kernel_rfl))
  f166 := Tryz.func134.trans (congrArg some (by kernel_rfl))
  f169 := Tryz.func135.trans (congrArg some (by kernel_rfl))
  f240 := Tryz.func154.trans (congrArg some (by kernel_rfl))
  f241 := Tryz.func155.trans (congrArg some (by kernel_rfl))
  f276 := Tryz.func162.trans (congrArg some (by kernel_rfl))
  f277 := Tryz.func163.trans (congrArg some (by kernel_rfl))
  t0 := Tryz.underlying0
  a0 := Tryz.isAgg0
  z0 := Tryz.sizeOf0
  v0 := Tryz.zeroValue0
  t3 := Tryz.underlying3
  a3 := Tryz.isAgg3
  z3 := Tryz.sizeOf3
  v3 := Tryz.zeroValue3
  t4 := Tryz.underlying4
  a4 := Tryz.isAgg4
  z4 := Tryz.sizeOf4
  v4 := Tryz.zeroValue4
  t9 := Tryz.underlying9
  a9 := Tryz.isAgg9
  z9 := Tryz.sizeOf9
  v9 := Tryz.zeroValue9
  t20 := Tryz.underlying20
  a20 := Tryz.isAgg20
  z20 := Tryz.sizeOf20
  v20 := Tryz.zeroValue20
  t31 := Tryz.underlying101
  a31 := Tryz.isAgg101
  z31 := Tryz.sizeOf101
  v31 := Tryz.zeroValue101
  t37 := Tryz.underlying163
  a37 := Tryz.isAgg163
  z37 := Tryz.sizeOf163
  v37 := Tryz.zeroValue163
  t70 := Tryz.underlying186
  a70 := Tryz.isAgg186
  z70 := Tryz.sizeOf186
  v70 := Tryz.zeroValue186
  t72 := Tryz.underlying188
  a72 := Tryz.isAgg188
  z72 := Tryz.sizeOf188
  v72 := Tryz.zeroValue188
  t75 := Tryz.underlying144
  a75 := Tryz.isAgg144
  z75 := Tryz.sizeOf144
  v75 := Tryz.zeroValue144
  t76 := Tryz.underlying145
  a76 := Tryz.isAgg145
  z76 := Tryz.sizeOf145
  v76 := Tryz.zeroValue145
  t127 := Tryz.underlying216
  a127 := Tryz.isAgg216
  z127 := Tryz.sizeOf216
  v127 := Tryz.zeroValue216
  t164 := Tryz.underlying228
  a164 := Tryz.isAgg228
  z164 := Tryz.sizeOf228
  v164 := Tryz.zeroValue228 }
theorem Tryz.Builder_Extra_156 : Builder.Extra Tryz.prog Tryz.lays156_ren := {
  sizeBuilder := by kernel_rfl
  liesBuilder := by kernel_rfl
  t5 := Tryz.underlying5
  a5 := Tryz.isAgg5
  z5 := Tryz.sizeOf5
  v5 := Tryz.zeroValue5
  infoByte := by kernel_rfl
  cellsByte := by kernel_rfl
  sizeByte := by kernel_rfl
  neB5 := by decide }
open Go.RowKit in
/-- No element: the empty string; the world is as it was. (Whatever the slice's address and capacity: a nil slice too.) (LAID: no walk: one application.) -/
theorem Tryz.strings_Join_none (a : Option Addr) (c : Nat) (sep : ByteArray) (w : World) :
    Calls Tryz.prog 110 #[.slice a 0 c, .string sep] w fun e w' => e = .returned (.string ⟨#[]⟩) ∧ w' = w := Any.strings_Join_none Tryz.lays156 Tryz.Builder_Extra_156 a c sep w
open Go.RowKit in
/-- strings.Join: "Join concatenates the elements of its first argument to create a single string. The separator string sep is placed between elements in the resulting string.": HOWEVER MANY ELEMENTS. Below the heap's end the world is as it was. (LAID: no walk: one application.) -/
theorem Tryz.strings_Join (bk o c : Nat) (xs : List ByteArray) (sep : ByteArray) (w : World) (hcells : ∀ (j : Nat) x, xs[j]? = some x → w.cell? ⟨bk, o + j, none⟩ = some (.string x)) (hbk : bk < w.heap.size) (hN : xs.length ≤ 140737488355328) (hcap : xs.length ≤ c) (hlen : (Lib.join (xs.map (·.data.toList)) sep.data.toList).length ≤ 140737488355328) :
    Calls Tryz.prog 110 #[.slice (some ⟨bk, o, none⟩) xs.length c, .string sep] w fun e w' => e = .returned (.string ⟨(Lib.join (xs.map (·.data.toList)) sep.data.toList).toArray⟩) ∧ Below w.heap.size w w' := Any.strings_Join Tryz.lays156 Tryz.Builder_Extra_156 bk o c xs sep w hcells hbk hN hcap hlen
def Tryz.lays103_ren : Go.Shelf.Ren := ⟨fun | 103 => 59 | 210 => 97 | 206 => 122 | n => n, fun | 9 => 9 | 4 => 4 | 24 => 87 | 3 => 3 | n => n, fun | n => n⟩
theorem Tryz.lays103 : Go.Proofs.Lays.n103 Tryz.prog Tryz.lays103_ren := {
  mixed := by kernel_rfl
  f103 := Tryz.func59.trans (congrArg some (by kernel_rfl))
  f206 := Tryz.func122.trans (congrArg some (by kernel_rfl))
  f210 := Tryz.func97.trans (congrArg some (by kernel_rfl))
  t3 := Tryz.underlying3
  a3 := Tryz.isAgg3
  z3 := Tryz.sizeOf3
  v3 := Tryz.zeroValue3
  t4 := Tryz.underlying4
  a4 := Tryz.isAgg4
  z4 := Tryz.sizeOf4
  v4 := Tryz.zeroValue4
  t9 := Tryz.underlying9
  a9 := Tryz.isAgg9
  z9 := Tryz.sizeOf9
  v9 := Tryz.zeroValue9
  t24 := Tryz.underlying87
  a24 := Tryz.isAgg87
  z24 := Tryz.sizeOf87
  v24 := Tryz.zeroValue87 }
open Go.RowKit in
/-- strings.CutPrefix: "CutPrefix returns s without the provided leading prefix string and reports whether it found the prefix. If s doesn't start with prefix, CutPrefix returns s, false. If prefix is the empty string, CutPrefix returns s, true.": IT RETURNS '(Lib.trimPrefix s p, Lib.hasPrefix s p)'; the world is as it was. (LAID: no walk: one application.) -/
theorem Tryz.strings_CutPrefix (s p : ByteArray) (w : World) :
    Calls Tryz.prog 59 #[.string s, .string p] w fun e w' => e = .returned (.tuple #[.string ⟨(Lib.trimPrefix s.data.toList p.data.toList).toArray⟩, .bool (Lib.hasPrefix s.data.toList p.data.toList)]) ∧ w' = w := Any.strings_CutPrefix Tryz.lays103 s p w
def Tryz.lays101_ren : Go.Shelf.Ren := ⟨fun | 101 => 64 | 208 => 105 | 206 => 122 | n => n, fun | 9 => 9 | 4 => 4 | 3 => 3 | n => n, fun | n => n⟩
theorem Tryz.lays101 : Go.Proofs.Lays.n101 Tryz.prog Tryz.lays101_ren := {
  mixed := by kernel_rfl
  f101 := Tryz.func64.trans (congrArg some (by kernel_rfl))
  f206 := Tryz.func122.trans (congrArg some (by kernel_rfl))
  f208 := Tryz.func105.trans (congrArg some (by kernel_rfl))
  t3 := Tryz.underlying3
  a3 := Tryz.isAgg3
  z3 := Tryz.sizeOf3
  v3 := Tryz.zeroValue3
  t4 := Tryz.underlying4
  a4 := Tryz.isAgg4
  z4 := Tryz.sizeOf4
  v4 := Tryz.zeroValue4
  t9 := Tryz.underlying9
  a9 := Tryz.isAgg9
  z9 := Tryz.sizeOf9
  v9 := Tryz.zeroValue9 }
open Go.RowKit Go.Lib in
/-- strings.TrimPrefix: "TrimPrefix returns s without the provided leading prefix string. If s doesn't start with prefix, s is returned unchanged.": IT RETURNS 'Lib.trimPrefix s prefix'; the world is as it was. (LAID: no walk: one application.) -/
theorem Tryz.strings_TrimPrefix (s p : ByteArray) (w : World) :
    Calls Tryz.prog 64 #[.string s, .string p] w fun e w' => e = .returned (.string ⟨(Lib.trimPrefix s.data.toList p.data.toList).toArray⟩) ∧ w' = w := Any.strings_TrimPrefix Tryz.lays101 s p w
end Go.Proofs
end
