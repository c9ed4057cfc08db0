/-
  Texts of this proof laid together, in build order; each says of itself what it holds.
-/
import Derived.Test.YtkdaljonmkfdaaaGreatDoorZaj
import Derived.Deep.QuietTactic
import Derived.BigQuiet
import Derived.Test.YtkdaljonmkfdaaaGreatDoorZae
import Derived.Shelf.Strings.Builder1
import Derived.Shelf.Strings.Builder2
import Derived.Shelf.Strings.OnBuilder
import Derived.Shelf.Small.Utf8
import Derived.Shelf.Small.Strs
import Derived.Shelf.Small.Wraps
import Derived.Shelf.Strconv.Atoi
import Derived.Shelf.Strconv.Itoa0
import Derived.Shelf.Strconv.Itoa1
import Derived.Shelf.LaysM
import Derived.Shelf.Strconv.Itoa2
import Derived.Shelf.Strconv.Itoa3
import Derived.Shelf.Strconv.AtoiErrFast
import Derived.Shelf.Strconv.ParseIntEmpty
import Derived.Shelf.Strconv.AtoiFail
import Derived.Shelf.Strconv.Clone
import Derived.Shelf.Strconv.SyntaxError
import Derived.Shelf.LaysC
import Derived.Shelf.Strconv.ToError
import Derived.Shelf.Strconv.Lower
import Derived.Shelf.Strconv.ParseUint10
import Derived.Shelf.Strconv.ParseUint10Empty
import Derived.Shelf.Strconv.ParseUint10Any
import Derived.Shelf.Strconv.ParseInt10
import Derived.Shelf.Strconv.AtoiLong
import Derived.Shelf.Strconv.AtoiInnerAll
import Derived.Shelf.Strconv.RangeError
import Derived.Shelf.Strconv.ToErrorRange
import Derived.Shelf.Strconv.AtoiAll
import Derived.Shelf.Strconv.ErrVarAll
import Derived.Shelf.Strings.Search1
import Derived.Shelf.Strings.Search2
import Derived.Shelf.Strings.Cut
import Derived.Shelf.Strings.Shaped
import Derived.Shelf.Strings.Prefix
import Derived.Shelf.Strings.Fields
import Derived.Shelf.Unicode.Latin
import Derived.Shelf.Strings.Runes
import Derived.Shelf.Strings.IndexAny
import Derived.Shelf.Strings.AsciiSet
import Derived.Shelf.Strings.IndexAnyAll
import Derived.Shelf.Unicode.Is16White
import Derived.Shelf.Unicode.IsSpaceAny
import Derived.Shelf.Unicode.Is16WhiteD
import Derived.Shelf.Unicode.IsSpaceAnyD
import Derived.Shelf.Strings.FieldsAny
import Derived.Shelf.Strings.FieldsFuncAny
import Derived.Shelf.Unicode.Is16Any
import Derived.Shelf.Unicode.Is32Any
import Derived.Shelf.Unicode.ExclAny
import Derived.Test.YtkdaljonmkfdaaaGreatDoorProg
import Derived.Test.YtkdaljonmkfdaaaGreatDoorZah
import Derived.Test.YtkdaljonmkfdaaaGreatDoorZaf
import Derived.Deep.RegionHeld3
section
/-
  The laws' own marks on expressions: markRuleExprS, heldRuleExprS.
-/
namespace Go.Proofs.YtkdaljonmkfdaaaGreatDoor.Rule
set_option linter.unusedVariables false
open Go.RowKit RegIn
open Tiers (T T0 TR hide unhide below_trans)

theorem digs_len : ∀ k : Nat, (Evs.digs k).length ≤ k := by
  intro k
  induction k using Nat.strongRecOn with
  | _ k ih =>
    by_cases h : 0 < k
    · rw [Evs.digs_pos h, List.length_append]
      have := ih (k / 10) (by omega)
      simp; omega
    · obtain rfl : k = 0 := by omega
      rw [Evs.digs_zero]; simp
theorem mt_size (k : Nat) : (Evs.mt k).size ≤ k + 1 := by
  have := digs_len k
  simp [Evs.mt, ByteArray.size]; omega

theorem RowX.set {W : World} {b : Nat} {xs : List X} {j c : Nat} {u : Value} {x x' : X} (h : RowX W b xs) (hx : xs[j]? = some x) (hc : c < 5) (hu : (cells5 x')[c]? = some u) (h' : ∀ i, i ≠ c → (cells5 x')[i]? = (cells5 x)[i]?) :
    RowX (W.setCell ⟨b, j * 5 + c, none⟩ u) b (xs.set j x') := by
  refine ⟨fun i y hy i5 v hv => ?_, fun q => by simpa [World.frozen?_setCell] using h.2 q⟩
  have h5 : ∀ (z : X) (v : Value), (cells5 z)[i5]? = some v → i5 < 5 := fun z v hv => by
    have := (List.getElem?_eq_some_iff.1 hv).1
    simpa [cells5] using this
  have hi5 := h5 y v hv
  obtain ⟨c0, hc0⟩ : ∃ z, (cells5 x)[c]? = some z := ⟨_, List.getElem?_eq_getElem (by simpa [cells5] using hc)⟩
  by_cases e : i = j
  · subst e
    have hlt : i < xs.length := (List.getElem?_eq_some_iff.1 hx).1
    rw [List.getElem?_set_self hlt] at hy
    obtain rfl : x' = y := by simpa using hy
    by_cases e2 : i5 = c
    · subst e2
      rw [hu] at hv
      obtain rfl : u = v := by simpa using hv
      exact World.cell?_setCell_same _ _ _ (h.1 i x hx i5 c0 hc0)
    · rw [h' i5 e2] at hv
      rw [World.cell?_setCell_other _ _ _ _ (fun he => by simp only [Addr.mk.injEq, and_true, true_and] at he; omega)]
      exact h.1 i x hx i5 v hv
  · rw [List.getElem?_set_ne (by omega)] at hy
    rw [World.cell?_setCell_other _ _ _ _ (fun he => by simp only [Addr.mk.injEq, and_true, true_and] at he; omega)]
    exact h.1 i y hy i5 v hv
theorem RowX.as {W : World} {b : Nat} {xs : List X} {j : Nat} {x x' : X} (h : RowX W b xs) (hx : xs[j]? = some x) (h' : cells5 x' = cells5 x) : RowX W b (xs.set j x') := by
  refine ⟨fun i y hy i5 v hv => ?_, h.2⟩
  by_cases e : i = j
  · subst e
    have hlt : i < xs.length := (List.getElem?_eq_some_iff.1 hx).1
    rw [List.getElem?_set_self hlt] at hy
    obtain rfl : x' = y := by simpa using hy
    rw [h'] at hv
    exact h.1 i x hx i5 v hv
  · rw [List.getElem?_set_ne (by omega)] at hy
    exact h.1 i y hy i5 v hv
theorem set_at {ys zs : List X} {x x' : X} : (ys ++ x :: zs).set ys.length x' = ys ++ x' :: zs := by
  rw [List.set_append_right _ _ (Nat.le_refl _), Nat.sub_self, List.set_cons_zero]
theorem get_at {ys zs : List X} {x : X} : (ys ++ x :: zs)[ys.length]? = some x := by simp

def MarkS (d : Nat) : Prop := ∀ (lo hi : Nat) (v : Value) (l : List Ex) (k : Nat) (w : World), OS w d lo hi v l → hi ≤ w.heap.size → 1 ≤ k → k + 3 * wtL l ≤ 1000000 →
  Calls Tryz.prog 24 #[v, .int .i64 (k : Int)] w fun x w' => ∃ (l' : List Ex) (k' : Nat), x = .returned (.int .i64 (k' : Int)) ∧ k' ≤ k + 3 * wtL l ∧ MkL k l' k' ∧ OS w' d lo hi v l' ∧ Out lo hi w w'

theorem markS_none (a : Option Addr) (c k : Nat) (w : World) (h1 : k ≤ 1000000) : Calls Tryz.prog 24 #[.slice a 0 c, .int .i64 (k : Int)] w fun x w' => x = .returned (.int .i64 (k : Int)) ∧ w' = w := by
  go_enter Tryz.func24, Tryz.ntmps24
  go_wp2
  refine wp_loop_rounds 1 ?_
  rw [rounds_succ]
  go_wp2
  go_ret
  exact ⟨rfl, rfl⟩

/-- what there is of a row while it is being marked -/
structure MkRow (w wr : World) (d b lo hi k n j kj : Nat) (wl : Nat) (ys zs : List X) : Prop where
  len : ys.length = j ∧ j + zs.length = n
  row : RowX wr b (ys ++ zs)
  chain : ∃ m, Chain (OX wr d) (b + 1) m ys ∧ Chain (OX wr d) m hi zs
  marks : MkL k (ys.map (·.1)) kj
  room : kj + 3 * wtL (zs.map (·.1)) ≤ k + 3 * wl
  out : Out lo hi w wr

set_option maxHeartbeats 2000000 in
theorem markS_succ {d : Nat} (H : MarkS d) : MarkS (d + 1) := by
  rintro lo hi v l k w ⟨hle, ⟨rfl, a, c, rfl⟩ | ⟨b, cap, xs, rfl, rfl, hl, hb1, hb2, hrow, hch⟩⟩ hhi h0 hk
  · refine (markS_none a c k w (by omega)).mono ?_
    rintro x w' ⟨rfl, rfl⟩
    exact ⟨[], k, rfl, by omega, by rw [MkL], OS.nil a c hle, Out.refl _ _ _⟩
  have HS := hide H
  have HI : Hid (MkRow w w d b lo hi k xs.length 0 k (wtL (xs.map (·.1))) [] xs) := hide ⟨⟨rfl, by simp⟩, hrow, ⟨b + 1, Nat.le_refl _, hch⟩, by simp [MkL], by omega, Out.refl _ _ _⟩
  have hln : (xs.map (·.1)).length = xs.length := by simp
  rw [hln]
  generalize hn : xs.length = n at *
  generalize hwl : wtL (xs.map (·.1)) = wl at *
  clear hrow hch H hle hwl
  rw [hln] at hl
  clear hln
  go_enter Tryz.func24, Tryz.ntmps24
  go_wp2
  go_loopw [1, 5] (fun t i wr => ∃ (j kj : Nat) (ys zs : List X), j ≤ n ∧ kj ≤ 1000000 ∧ k ≤ kj ∧ i = .int .i64 j ∧ t = .int .i64 (kj : Int) ∧ Hid (MkRow w wr d b lo hi k n j kj wl ys zs)) (fun _ i _ => n - (intOf i).toNat)
  case atStart => exact ⟨0, k, [], xs, by omega, by omega, by omega, rfl, rfl, HI⟩
  case round =>
    obtain ⟨j, kj, ys, zs, hj, hkj, hkk, rfl, rfl, hI⟩ := hrel
    by_cases hlt : j < n
    · obtain ⟨⟨hy, hz⟩, hrow, ⟨m, hc1, hc2⟩, hmk, hroom, hout⟩ := unhide hI
      clear hI
      cases zs with
      | nil => simp at hz; omega
      | cons x zs =>
      obtain ⟨p, hp1, hp2, ⟨⟨hz1, hz2⟩, q, hq1, hq2⟩, hc3⟩ := hc2
      subst hy
      have hzl : ys.length + (zs.length + 1) = n := by simpa using hz
      rw [List.map_cons, wtL] at hroom
      have hwx := wt_eq x.1
      have hbm := hc1.le
      have hq1l := hq1.le
      have hq2l := hq2.le
      have hc3l := hc3.le
      obtain ⟨K1, hK1⟩ : ∃ K1 : Int, K1 = ((kj + 1 : Nat) : Int) := ⟨_, rfl⟩
      obtain ⟨K2, hK2⟩ : ∃ K2 : Int, K2 = ((kj + 2 : Nat) : Int) := ⟨_, rfl⟩
      obtain ⟨K3, hK3⟩ : ∃ K3 : Int, K3 = ((kj + 3 : Nat) : Int) := ⟨_, rfl⟩
      have e1 : (kj : Int) + 1 = K1 := by omega
      have e2 : K1 + 1 = K2 := by omega
      have e3 : K2 + 1 = K3 := by omega
      have hb1K : K1 ≤ 1000003 ∧ K2 ≤ 1000003 ∧ K3 ≤ 1000003 ∧ 0 ≤ K1 ∧ 0 ≤ K2 ∧ 0 ≤ K3 := by omega
      have HK1 := hide hK1
      have HK2 := hide hK2
      have HK3 := hide hK3
      clear hK1 hK2 hK3
      obtain ⟨x1, hx1⟩ : ∃ x1 : X, x1 = (.mk (kj : Int) x.1.num x.1.meter x.1.kids x.1.tiers, x.2.1, x.2.2) := ⟨_, rfl⟩
      obtain ⟨x2, hx2⟩ : ∃ x2 : X, x2 = (.mk (kj : Int) K1 x.1.meter x.1.kids x.1.tiers, x.2.1, x.2.2) := ⟨_, rfl⟩
      obtain ⟨x3, hx3⟩ : ∃ x3 : X, x3 = (.mk (kj : Int) K1 (Evs.mt (kj + 2)) x.1.kids x.1.tiers, x.2.1, x.2.2) := ⟨_, rfl⟩
      have r1 := hrow.set (x' := x1) (c := 0) (u := .int .i64 (kj : Int)) get_at (by omega) (by subst hx1; rfl) (fun i hi => by subst hx1; match i, hi with | 0, h => exact absurd rfl h | 1, _ => rfl | 2, _ => rfl | 3, _ => rfl | 4, _ => rfl | i + 5, _ => rfl)
      rw [set_at, Nat.add_zero] at r1
      have r2 := r1.set (x' := x2) (c := 1) (u := .int .i64 K1) get_at (by omega) (by subst hx2; rfl) (fun i hi => by subst hx1 hx2; match i, hi with | 0, _ => rfl | 1, h => exact absurd rfl h | 2, _ => rfl | 3, _ => rfl | 4, _ => rfl | i + 5, _ => rfl)
      rw [set_at] at r2
      have c0 := hrow.1 ys.length x get_at 0 _ rfl
      rw [Nat.add_zero] at c0
      have c1 := r1.1 ys.length x1 get_at 1 (.int .i64 x.1.num) (by subst hx1; rfl)
      have f0 := hrow.2 (ys.length * 5)
      have f1 := hrow.2 (ys.length * 5 + 1)
      have O2 := hide (hout.trans ((Out.set wr b (ys.length * 5) (.int .i64 (kj : Int)) hb1 hb2).trans (Out.set _ b (ys.length * 5 + 1) (.int .i64 K1) hb1 hb2)))
      have S2 : Hid (∀ s e, b < s → e ≤ wr.heap.size → Same s e wr ((wr.setCell ⟨b, ys.length * 5, none⟩ (.int .i64 (kj : Int))).setCell ⟨b, ys.length * 5 + 1, none⟩ (.int .i64 K1))) := hide (fun s e hs he => same_trans (same_set _ _ _ _ hs) (same_set _ _ _ _ hs))
      have R2 := hide r2
      have hszr := hout.size
      have HC1 := hide hc1
      have HC3 := hide hc3
      have HQ1 := hide hq1
      have HQ2 := hide hq2
      have HMK := hide hmk
      have i1 : (0 : Int) ≤ (ys.length : Int) := by omega
      have i2 : (ys.length : Int) < (n : Int) := by omega
      clear hc1 hc3 hq1 hq2 hmk hrow r1 r2 hout
      go_wp2_with (fail)
      generalize hW2 : (wr.setCell ⟨b, ys.length * 5, none⟩ (.int .i64 (kj : Int))).setCell ⟨b, ys.length * 5 + 1, none⟩ (.int .i64 K1) = W2 at *
      have hs2 : wr.heap.size = W2.heap.size := by rw [← hW2]; simp
      clear c0 c1 f0 f1 hW2
      have hM := Evs.markT (kj + 2) W2 (by omega) (by omega)
      rw [← unhide HK2] at hM
      refine hM.mono ?_
      clear hM
      rintro y w3 ⟨rfl, hb3⟩
      have r3 := ((unhide R2).kept (hb3.block b (by omega)))
      have c2 := r3.1 ys.length x2 get_at 2 (.string x.1.meter) (by subst hx2; rfl)
      have c3 := r3.1 ys.length x2 get_at 3 x.2.1 (by subst hx2; rfl)
      have c4 := r3.1 ys.length x2 get_at 4 x.2.2 (by subst hx2; rfl)
      have f2 := r3.2 (ys.length * 5 + 2)
      have r4 := r3.set (x' := x3) (c := 2) (u := .string (Evs.mt (kj + 2))) get_at (by omega) (by subst hx3; rfl) (fun i hi => by subst hx2 hx3; match i, hi with | 0, _ => rfl | 1, _ => rfl | 2, h => exact absurd rfl h | 3, _ => rfl | 4, _ => rfl | i + 5, _ => rfl)
      rw [set_at] at r4
      have R4 := hide r4
      have c3' := r4.1 ys.length x3 get_at 3 x.2.1 (by subst hx3; rfl)
      have O4 := hide ((unhide O2).trans ((Out.below hb3).trans (Out.set w3 b (ys.length * 5 + 2) (.string (Evs.mt (kj + 2))) hb1 hb2)))
      have S4 : Hid (∀ s e, b < s → e ≤ wr.heap.size → Same s e wr (w3.setCell ⟨b, ys.length * 5 + 2, none⟩ (.string (Evs.mt (kj + 2))))) := hide (fun s e hs he => same_trans (unhide S2 s e hs he) (same_trans (same_below hb3 (by omega)) (same_set _ _ _ _ hs)))
      have hmz := mt_size (kj + 2)
      have hs3 := hb3.size
      have hx3' := hx3
      clear r3 r4 R2 O2 S2 hb3 c3 c4
      generalize hmt : Evs.mt (kj + 2) = mm at *
      go_wp2_with (fail)
      generalize hW4 : w3.setCell ⟨b, ys.length * 5 + 2, none⟩ (.string mm) = W4 at *
      have hs4 : wr.heap.size ≤ W4.heap.size := by rw [← hW4]; simp; omega
      clear c2 c3' f2 hW4
      have hww := wtL_eq x.1.kids
      have hM := unhide HS m q x.2.1 x.1.kids (kj + 3) W4 ((unhide HQ1).kept (unhide S4 m q (by omega) (by omega))) (by omega) (by omega) (by omega)
      rw [← unhide HK3] at hM
      refine hM.mono ?_
      clear hM
      rintro y w5 ⟨l', k1, rfl, hk1, hm1, ho5, hout5⟩
      have hk1l := hm1.le
      have O5 := hide ((unhide O4).trans (hout5.mono (by omega) (by omega)))
      have r5 := (unhide R4).kept (hout5.block b (by omega) (by omega))
      have R5 := hide r5
      have c4 := r5.1 ys.length x3 get_at 4 x.2.2 (by subst hx3'; rfl)
      have HO5 := hide ho5
      have HM1 := hide hm1
      have S5 : Hid (∀ s e, b < s → e ≤ wr.heap.size → (e ≤ m ∨ q ≤ s) → Same s e wr w5) := hide (fun s e hs he hd => same_trans (unhide S4 s e hs he) (hout5.same hd (by omega)))
      have hs5 := hout5.size
      clear r5 R4 O4 S4 hm1 ho5 hout5
      go_wp2_with (fail)
      refine (markTiers q p x.2.2 x.1.tiers k1 w5 ((unhide HQ2).kept (unhide S5 q p (by omega) (by omega) (.inr (Nat.le_refl _)))) (by omega) (by omega) (by omega)).mono ?_
      rintro y w6 ⟨rfl, ho6, hout6⟩
      obtain ⟨x4, hx4⟩ : ∃ x4 : X, x4 = (.mk (kj : Int) K1 mm l' (marksT k1 x.1.tiers.length), x.2.1, x.2.2) := ⟨_, rfl⟩
      have HN : Hid (MkRow w w6 d b lo hi k n (ys.length + 1) (k1 + 2 * x.1.tiers.length) wl (ys ++ [x4]) zs) := by
        refine hide ⟨⟨by simp, by omega⟩, ?_, ⟨p, ?_, ?_⟩, ?_, by omega, (unhide O5).trans (hout6.mono (by omega) (by omega))⟩
        · have r6 := ((unhide R5).kept (hout6.block b (by omega) (by omega))).as (x' := x4) get_at (by subst hx4 hx3'; rfl)
          rw [set_at] at r6
          simpa using r6
        · refine Chain.append (m := m) ((unhide HC1).imp (lo := b + 1) (hi := m) (fun s e y hs he hy => hy.kept (same_trans (unhide S5 s e (by omega) (by omega) (.inl he)) (hout6.same (.inl (by omega)) (by omega)))) (Nat.le_refl _) (Nat.le_refl _)) ⟨p, by omega, Nat.le_refl _, ?_, Nat.le_refl _⟩ (fun s s' e y hs hy => hy.mono hs (Nat.le_refl _))
          subst hx4
          refine ⟨⟨?_, ?_⟩, q, (unhide HO5).kept (hout6.same (.inl (Nat.le_refl _)) (by omega)), ho6⟩
          · show mm.size ≤ maxLen
            unfold maxLen; omega
          · show (marksT k1 x.1.tiers.length).length ≤ maxLen
            rw [marksT_len]; exact hz2
        · exact (unhide HC3).imp (lo := p) (hi := hi) (fun s e y hs he hy => hy.kept (same_trans (unhide S5 s e (by omega) (by omega) (.inr (by omega))) (hout6.same (.inr hs) (by omega)))) (Nat.le_refl _) (Nat.le_refl _)
        · rw [List.map_append]
          refine (unhide HMK).snoc ?_
          subst hx4
          show MkE kj (.mk _ _ _ _ _) _
          rw [MkE]
          refine ⟨rfl, unhide HK1, hmt.symm, k1, unhide HM1, by rw [marksT_len], by rw [marksT_len]⟩
      clear R5 c4 O5 S5 ho6 hout6
      go_wp2_with (fail)
      exact ⟨⟨ys.length + 1, k1 + 2 * x.1.tiers.length, ys ++ [x4], zs, by omega, by omega, by omega, by go_num, rfl, HN⟩, by simp [intOf]; omega⟩
    · obtain rfl : j = n := by omega
      go_wp2_with (fail)
      go_ret
      obtain ⟨⟨hy, hz⟩, hrow, ⟨m, hc1, hc2⟩, hmk, hroom, hout⟩ := unhide hI
      have hz0 : zs = [] := List.length_eq_zero_iff.1 (by omega)
      subst hz0
      rw [List.append_nil] at hrow
      refine ⟨ys.map (·.1), kj, rfl, by simp [wtL] at hroom; omega, hmk, ⟨by omega, .inr ⟨b, cap, ys, by simp [hy], rfl, by simp; omega, hb1, hb2, hrow, ?_⟩⟩, hout⟩
      have := hc1.append hc2 (fun s s' e y hs hy => OX.mono hy hs (Nat.le_refl _))
      rwa [List.append_nil] at this
theorem markS_all : ∀ d, MarkS d
  | 0 => by
    rintro lo hi v l k w ⟨hle, rfl, a, c, rfl⟩ hhi h0 hk
    refine (markS_none a c k w (by omega)).mono ?_
    rintro x w' ⟨rfl, rfl⟩
    exact ⟨[], k, rfl, by omega, by rw [MkL], OS.nil a c hle, Out.refl _ _ _⟩
  | d + 1 => markS_succ (markS_all d)
end Go.Proofs.YtkdaljonmkfdaaaGreatDoor.Rule
end

section
/-
  Kids that are read one by one into a row that was made for them.
-/
namespace Go.Proofs.YtkdaljonmkfdaaaGreatDoor.Rule
set_option linter.unusedVariables false
open Go.RowKit
open Tiers (T T0 TR hide unhide below_trans)
open Kinds hiding hide unhide below_trans ext_toList

/-- a kid that was not read yet -/
def Z0 : X := (E0, .slice none 0 0, .slice none 0 0)
theorem RowX.made (w : World) (n : Nat) (t : TypeId) : RowX (w.alloc (.cells (madeCells zero5 (n * 5)) t)) w.heap.size (List.replicate n Z0) := by
  have e1 := (MapKept.heap_alloc w (.cells (madeCells zero5 (n * 5)) t)).1
  refine ⟨fun i x hx j u hu => ?_, fun j => ?_⟩
  · have hi : i < n := by
      have := (List.getElem?_eq_some_iff.1 hx).1
      simpa using this
    obtain rfl : Z0 = x := by
      have := (List.getElem?_eq_some_iff.1 hx).2
      simpa using this
    simp only [World.cell?]
    rw [e1]
    match j, hu with
    | 0, hu =>
      obtain rfl : Value.int .i64 0 = u := by simpa [cells5, Z0, E0, Ex.kind, Ex.num, Ex.meter] using hu
      have m0 : (i * 5) % 5 = 0 := by omega
      have l0 : i * 5 < n * 5 := by omega
      simp [madeCells, zero5, l0, m0]
    | 1, hu =>
      obtain rfl : Value.int .i64 0 = u := by simpa [cells5, Z0, E0, Ex.kind, Ex.num, Ex.meter] using hu
      have m0 : (i * 5 + 1) % 5 = 1 := by omega
      have l0 : i * 5 + 1 < n * 5 := by omega
      simp [madeCells, zero5, l0, m0]
    | 2, hu =>
      obtain rfl : Value.string ByteArray.empty = u := by simpa [cells5, Z0, E0, Ex.kind, Ex.num, Ex.meter] using hu
      have m0 : (i * 5 + 2) % 5 = 2 := by omega
      have l0 : i * 5 + 2 < n * 5 := by omega
      simp [madeCells, zero5, l0, m0]
    | 3, hu =>
      obtain rfl : Value.slice none 0 0 = u := by simpa [cells5, Z0, E0, Ex.kind, Ex.num, Ex.meter] using hu
      have m0 : (i * 5 + 3) % 5 = 3 := by omega
      have l0 : i * 5 + 3 < n * 5 := by omega
      simp [madeCells, zero5, l0, m0]
    | 4, hu =>
      obtain rfl : Value.slice none 0 0 = u := by simpa [cells5, Z0, E0, Ex.kind, Ex.num, Ex.meter] using hu
      have m0 : (i * 5 + 4) % 5 = 4 := by omega
      have l0 : i * 5 + 4 < n * 5 := by omega
      simp [madeCells, zero5, l0, m0]
    | j + 5, hu => simp [cells5] at hu
  · simp only [World.frozen?]
    rw [e1]; simp
/-- the world with a kid laid at place j -/
def put5W (W : World) (b j : Nat) (x : X) : World :=
  ((((W.setCell ⟨b, j * 5, none⟩ (.int .i64 x.1.kind)).setCell ⟨b, j * 5 + 1, none⟩ (.int .i64 x.1.num)).setCell ⟨b, j * 5 + 2, none⟩ (.string x.1.meter)).setCell ⟨b, j * 5 + 3, none⟩ x.2.1).setCell ⟨b, j * 5 + 4, none⟩ x.2.2
theorem RowX.put5 {W : World} {b : Nat} {ys zs : List X} {x x' : X} (h : RowX W b (ys ++ x :: zs)) : RowX (put5W W b ys.length x') b (ys ++ x' :: zs) := by
  have r1 := h.set (x' := (.mk x'.1.kind x.1.num x.1.meter x.1.kids x.1.tiers, x.2.1, x.2.2)) (c := 0) (u := .int .i64 x'.1.kind) get_at (by omega) rfl (fun i hi => by match i, hi with | 0, h => exact absurd rfl h | 1, _ => rfl | 2, _ => rfl | 3, _ => rfl | 4, _ => rfl | i + 5, _ => rfl)
  rw [set_at, Nat.add_zero] at r1
  have r2 := r1.set (x' := (.mk x'.1.kind x'.1.num x.1.meter x.1.kids x.1.tiers, x.2.1, x.2.2)) (c := 1) (u := .int .i64 x'.1.num) get_at (by omega) rfl (fun i hi => by match i, hi with | 0, _ => rfl | 1, h => exact absurd rfl h | 2, _ => rfl | 3, _ => rfl | 4, _ => rfl | i + 5, _ => rfl)
  rw [set_at] at r2
  have r3 := r2.set (x' := (.mk x'.1.kind x'.1.num x'.1.meter x.1.kids x.1.tiers, x.2.1, x.2.2)) (c := 2) (u := .string x'.1.meter) get_at (by omega) rfl (fun i hi => by match i, hi with | 0, _ => rfl | 1, _ => rfl | 2, h => exact absurd rfl h | 3, _ => rfl | 4, _ => rfl | i + 5, _ => rfl)
  rw [set_at] at r3
  have r4 := r3.set (x' := (.mk x'.1.kind x'.1.num x'.1.meter x.1.kids x.1.tiers, x'.2.1, x.2.2)) (c := 3) (u := x'.2.1) get_at (by omega) rfl (fun i hi => by match i, hi with | 0, _ => rfl | 1, _ => rfl | 2, _ => rfl | 3, h => exact absurd rfl h | 4, _ => rfl | i + 5, _ => rfl)
  rw [set_at] at r4
  have r5 := r4.set (x' := x') (c := 4) (u := x'.2.2) get_at (by omega) rfl (fun i hi => by match i, hi with | 0, _ => rfl | 1, _ => rfl | 2, _ => rfl | 3, _ => rfl | 4, h => exact absurd rfl h | i + 5, _ => rfl)
  rw [set_at] at r5
  exact r5
theorem put5W_other (W : World) (b j : Nat) (x : X) (c : Nat) (h : c ≠ b) : (put5W W b j x).heap[c]? = W.heap[c]? := by
  have k : ∀ (V : World) (o : Nat) (u : Value), (V.setCell ⟨b, o, none⟩ u).heap[c]? = V.heap[c]? := fun V o u => Below.heap_setCell V ⟨b, o, none⟩ u c (by simpa using h)
  unfold put5W
  rw [k, k, k, k, k]
theorem put5W_size (W : World) (b j : Nat) (x : X) : (put5W W b j x).heap.size = W.heap.size := by simp [put5W]
theorem put5W_below {B : Nat} {w W : World} {b j : Nat} {x : X} (h : Below B w W) (hB : B ≤ b) : Below B w (put5W W b j x) :=
  ((((h.setCell (p := ⟨b, j * 5, none⟩) hB _).setCell (p := ⟨b, j * 5 + 1, none⟩) hB _).setCell (p := ⟨b, j * 5 + 2, none⟩) hB _).setCell (p := ⟨b, j * 5 + 3, none⟩) hB _).setCell (p := ⟨b, j * 5 + 4, none⟩) hB _

/-- kids under way: the boxes rb (the result) and eb (the expression), the row kb -/
structure RdK (w wr : World) (n rb eb kb nk : Nat) (k : Int) (r1 : List UInt8) (j : Nat) (xs : List X) (r : List UInt8) : Prop where
  len : xs.length = j ∧ j ≤ nk
  row : RowX wr kb (xs ++ List.replicate (nk - j) Z0)
  chain : Chain (OX wr n) (kb + 1) wr.heap.size xs
  ebox : Boxes.At wr eb [.int .i64 k, .int .i64 0, .string ⟨#[]⟩, .slice (some ⟨kb, 0, none⟩) nk nk, .slice none 0 0]
  rbox : Boxes.At wr rb [.int .i64 0, .int .i64 0, .string ⟨#[]⟩, .slice none 0 0, .slice none 0 0]
  kids : KidsOf (ReadsI n) r1 (xs.map (·.1)) r
  env : EnvR wr
  below : Below w.heap.size w wr
  blocks : rb < eb ∧ eb < kb ∧ kb < wr.heap.size ∧ w.heap.size ≤ rb
theorem RdK.rest {w wr : World} {n rb eb kb nk : Nat} {k : Int} {r1 : List UInt8} {j : Nat} {xs : List X} {r : List UInt8} (h : RdK w wr n rb eb kb nk k r1 j xs r) (h3 : nk ≤ 3) : r.length ≤ r1.length := by
  have := kids_len (fun t e r => reads_wt n t e r) h.kids
  have hl := h.len
  simp at this
  omega
/-- one kid more -/
theorem RdK.step {w wr w' : World} {n rb eb kb nk : Nat} {k : Int} {r1 : List UInt8} {j : Nat} {xs : List X} {r r' : List UInt8} {x : X} (h : RdK w wr n rb eb kb nk k r1 j xs r) (hj : j < nk) (hb : Below wr.heap.size wr w') (hx : OX w' n wr.heap.size w'.heap.size x) (hr : ReadsI n (trimSp r) x.1 r') (hE : EnvR (put5W w' kb j x)) :
    RdK w (put5W w' kb j x) n rb eb kb nk k r1 (j + 1) (xs ++ [x]) r' := by
  obtain ⟨⟨l1, l2⟩, hrow, hch, he, hrb, hk, hv, hbl, b1, b2, b3, b4⟩ := h
  have hz := hb.size
  have hs : ∀ s e, kb < s → e ≤ w'.heap.size → Same s e w' (put5W w' kb j x) := fun s e hs _ c c1 _ => put5W_other _ _ _ _ _ (by omega)
  refine ⟨⟨by simp [l1], by omega⟩, ?_, ?_, he.kept ((put5W_other _ _ _ _ _ (by omega)).trans (hb.block eb (by omega))), hrb.kept ((put5W_other _ _ _ _ _ (by omega)).trans (hb.block rb (by omega))), ?_, hE, put5W_below (below_trans hbl hb) (by omega), b1, b2, by rw [put5W_size]; omega, b4⟩
  · have e : List.replicate (nk - j) Z0 = Z0 :: List.replicate (nk - (j + 1)) Z0 := by
      rw [← List.replicate_succ]; congr 1; omega
    have h1 := hrow.kept (hb.block kb (by omega))
    rw [e] at h1
    have h2 := h1.put5 (x' := x)
    rw [l1] at h2
    simpa using h2
  · rw [put5W_size]
    refine Chain.append (m := wr.heap.size) (hch.imp (lo := kb + 1) (hi := wr.heap.size) (fun s e y hs1 he1 hy => hy.kept (same_trans (same_below hb he1) (hs s e (by omega) (by omega)))) (Nat.le_refl _) (Nat.le_refl _)) ⟨w'.heap.size, hz, Nat.le_refl _, hx.kept (hs _ _ b3 (Nat.le_refl _)), Nat.le_refl _⟩ (fun s s' e y hs hy => hy.mono hs (Nat.le_refl _))
  · rw [List.map_append]
    exact hk.snoc hr
end Go.Proofs.YtkdaljonmkfdaaaGreatDoor.Rule
end

section
/-
  DERIVED: THE SHELF's CONTRACTS AT THIS DUMP, IN PLAIN WORDS (tools/lay-plain.mjs out of 'YtkdaljonmkfdaaaGreatDoorShelfT.lean', which tools/lay-shelf.mjs wrote): THE SAME DECLARATIONS UNDER THE SAME NAMES: 'import', 'namespace', 'open', 'def', 'theorem' AND NOTHING ELSE: no command of the shelf's: FOR A HAND-IN. Each laying: the table of numbers ('.._ren') and one theorem, a field a fact of the dump's own or the kernel's comparison; each contract: ONE APPLICATION.
-/
namespace Go.Proofs
open Go.Shelf
def Tryz.lays156_ren : Go.Shelf.Ren := ⟨fun | 156 => 110 | 165 => 133 | 166 => 134 | 169 => 135 | 240 => 154 | 241 => 155 | 276 => 162 | 277 => 163 | n => n, fun | 31 => 101 | 9 => 9 | 3 => 3 | 4 => 4 | 0 => 0 | 20 => 20 | 72 => 188 | 76 => 145 | 70 => 186 | 37 => 163 | 75 => 144 | 127 => 216 | 164 => 228 | 5 => 5 | 80 => 78 | n => n, fun | n => n⟩
theorem Tryz.lays156 : Go.Proofs.Lays.n156 Tryz.prog Tryz.lays156_ren := {
  mixed := by kernel_rfl
  f156 := Tryz.func110.trans (congrArg some (by kernel_rfl))
  f165 := Tryz.func133.trans (congrArg some (by kernel_rfl))
  f166 := Tryz.func134.trans (congrArg some (by kernel_rfl))
  f169 := Tryz.func135.trans (congrArg some (by kernel_rfl))
  f240 := Tryz.func154.trans (congrArg some (by kernel_rfl))
  f241 := Tryz.func155.trans (congrArg some (by kernel_rfl))
  f276 := Tryz.func162.trans (congrArg some (by kernel_rfl))
  f277 := Tryz.func163.trans (congrArg some (by kernel_rfl))
  t0 := Tryz.underlying0
  a0 := Tryz.isAgg0
  z0 := Tryz.sizeOf0
  v0 := Tryz.zeroValue0
  t3 := Tryz.underlying3
  a3 := Tryz.isAgg3
  z3 := Tryz.sizeOf3
  v3 := Tryz.zeroValue3
  t4 := Tryz.underlying4
  a4 := Tryz.isAgg4
  z4 := Tryz.sizeOf4
  v4 := Tryz.zeroValue4
  t9 := Tryz.underlying9
  a9 := Tryz.isAgg9
  z9 := Tryz.sizeOf9
  v9 := Tryz.zeroValue9
  t20 := Tryz.underlying20
  a20 := Tryz.isAgg20
  z20 := Tryz.sizeOf20
  v20 := Tryz.zeroValue20
  t31 := Tryz.underlying101
  a31 := Tryz.isAgg101
  z31 := Tryz.sizeOf101
  v31 := Tryz.zeroValue101
  t37 := Tryz.underlying163
  a37 := Tryz.isAgg163
  z37 := Tryz.sizeOf163
  v37 := Tryz.zeroValue163
  t70 := Tryz.underlying186
  a70 := Tryz.isAgg186
  z70 := Tryz.sizeOf186
  v70 := Tryz.zeroValue186
  t72 := Tryz.underlying188
  a72 := Tryz.isAgg188
  z72 := Tryz.sizeOf188
  v72 := Tryz.zeroValue188
  t75 := Tryz.underlying144
  a75 := Tryz.isAgg144
  z75 := Tryz.sizeOf144
  v75 := Tryz.zeroValue144
  t76 := Tryz.underlying145
  a76 := Tryz.isAgg145
  z76 := Tryz.sizeOf145
  v76 := Tryz.zeroValue145
  t127 := Tryz.underlying216
  a127 := Tryz.isAgg216
  z127 := Tryz.sizeOf216
  v127 := Tryz.zeroValue216
  t164 := Tryz.underlying228
  a164 := Tryz.isAgg228
  z164 := Tryz.sizeOf228
  v164 := Tryz.zeroValue228 }
theorem Tryz.Builder_Extra_156 : Builder.Extra Tryz.prog Tryz.lays156_ren := {
  sizeBuilder := by kernel_rfl
  liesBuilder := by kernel_rfl
  t5 := Tryz.underlying5
  a5 := Tryz.isAgg5
  z5 := Tryz.sizeOf5
  v5 := Tryz.zeroValue5
  infoByte := by kernel_rfl
  cellsByte := by kernel_rfl
  sizeByte := by kernel_rfl
  neB5 := by decide }
open Go.RowKit in
/-- No element: the empty string; the world is as it was. (Whatever the slice's address and capacity: a nil slice too.) (LAID: no walk: one application.) -/
theorem Tryz.strings_Join_none (a : Option Addr) (c : Nat) (sep : ByteArray) (w : World) :
    Calls Tryz.prog 110 #[.slice a 0 c, .string sep] w fun e w' => e = .returned (.string ⟨#[]⟩) ∧ w' = w := Any.strings_Join_none Tryz.lays156 Tryz.Builder_Extra_156 a c sep w
open Go.RowKit in
/-- strings.Join: "Join concatenates the elements of its first argument to create a single string. The separator string sep is placed between elements in the resulting string.": HOWEVER MANY ELEMENTS. Below the heap's end the world is as it was. (LAID: no walk: one application.) -/
theorem Tryz.strings_Join (bk o c : Nat) (xs : List ByteArray) (sep : ByteArray) (w : World) (hcells : ∀ (j : Nat) x, xs[j]? = some x → w.cell? ⟨bk, o + j, none⟩ = some (.string x)) (hbk : bk < w.heap.size) (hN : xs.length ≤ 140737488355328) (hcap : xs.length ≤ c) (hlen : (Lib.join (xs.map (·.data.toList)) sep.data.toList).length ≤ 140737488355328) :
    Calls Tryz.prog 110 #[.slice (some ⟨bk, o, none⟩) xs.length c, .string sep] w fun e w' => e = .returned (.string ⟨(Lib.join (xs.map (·.data.toList)) sep.data.toList).toArray⟩) ∧ Below w.heap.size w w' := Any.strings_Join Tryz.lays156 Tryz.Builder_Extra_156 bk o c xs sep w hcells hbk hN hcap hlen
def Tryz.lays103_ren : Go.Shelf.Ren := ⟨fun | 103 => 59 | 210 => 97 | 206 => 122 | n => n, fun | 9 => 9 | 4 => 4 | 24 => 87 | 3 => 3 | n => n, fun | n => n⟩
theorem Tryz.lays103 : Go.Proofs.Lays.n103 Tryz.prog Tryz.lays103_ren := {
  mixed := by kernel_rfl
  f103 := Tryz.func59.trans (congrArg some (by kernel_rfl))
  f206 := Tryz.func122.trans (congrArg some (by kernel_rfl))
  f210 := Tryz.func97.trans (congrArg some (by kernel_rfl))
  t3 := Tryz.underlying3
  a3 := Tryz.isAgg3
  z3 := Tryz.sizeOf3
  v3 := Tryz.zeroValue3
  t4 := Tryz.underlying4
  a4 := Tryz.isAgg4
  z4 := Tryz.sizeOf4
  v4 := Tryz.zeroValue4
  t9 := Tryz.underlying9
  a9 := Tryz.isAgg9
  z9 := Tryz.sizeOf9
  v9 := Tryz.zeroValue9
  t24 := Tryz.underlying87
  a24 := Tryz.isAgg87
  z24 := Tryz.sizeOf87
  v24 := Tryz.zeroValue87 }
open Go.RowKit in
/-- strings.CutPrefix: "CutPrefix returns s without the provided leading prefix string and reports whether it found the prefix. If s doesn't start with prefix, CutPrefix returns s, false. If prefix is the empty string, CutPrefix returns s, true.": IT RETURNS '(Lib.trimPrefix s p, Lib.hasPrefix s p)'; the world is as it was. (LAID: no walk: one application.) -/
theorem Tryz.strings_CutPrefix (s p : ByteArray) (w : World) :
    Calls Tryz.prog 59 #[.string s, .string p] w fun e w' => e = .returned (.tuple #[.string ⟨(Lib.trimPrefix s.data.toList p.data.toList).toArray⟩, .bool (Lib.hasPrefix s.data.toList p.data.toList)]) ∧ w' = w := Any.strings_CutPrefix Tryz.lays103 s p w
def Tryz.lays101_ren : Go.Shelf.Ren := ⟨fun | 101 => 64 | 208 => 105 | 206 => 122 | n => n, fun | 9 => 9 | 4 => 4 | 3 => 3 | n => n, fun | n => n⟩
theorem Tryz.lays101 : Go.Proofs.Lays.n101 Tryz.prog Tryz.lays101_ren := {
  mixed := by kernel_rfl
  f101 := Tryz.func64.trans (congrArg some (by kernel_rfl))
  f206 := Tryz.func122.trans (congrArg some (by kernel_rfl))
  f208 := Tryz.func105.trans (congrArg some (by kernel_rfl))
  t3 := Tryz.underlying3
  a3 := Tryz.isAgg3
  z3 := Tryz.sizeOf3
  v3 := Tryz.zeroValue3
  t4 := Tryz.underlying4
  a4 := Tryz.isAgg4
  z4 := Tryz.sizeOf4
  v4 := Tryz.zeroValue4
  t9 := Tryz.underlying9
  a9 := Tryz.isAgg9
  z9 := Tryz.sizeOf9
  v9 := Tryz.zeroValue9 }
open Go.RowKit Go.Lib in
/-- strings.TrimPrefix: "TrimPrefix returns s without the provided leading prefix string. If s doesn't start with prefix, s is returned unchanged.": IT RETURNS 'Lib.trimPrefix s prefix'; the world is as it was. (LAID: no walk: one application.) -/
theorem Tryz.strings_TrimPrefix (s p : ByteArray) (w : World) :
    Calls Tryz.prog 64 #[.string s, .string p] w fun e w' => e = .returned (.string ⟨(Lib.trimPrefix s.data.toList p.data.toList).toArray⟩) ∧ w' = w := Any.strings_TrimPrefix Tryz.lays101 s p w
end Go.Proofs
end

section
/-
  spec's reader of expressions: see, want, word, num.
-/
namespace Go.Proofs.YtkdaljonmkfdaaaGreatDoor.Rule
set_option linter.unusedVariables false
open Go.RowKit
open Boxes (At)
open RegIn

/-- the reader's box: the text, where it is, whether something could not stand -/
def Ps (W : World) (b : Nat) (s : ByteArray) (a : Nat) (bad : Bool) : Prop := At W b [.string s, .int .i64 a, .bool bad]
theorem Ps.cells {W : World} {b : Nat} {s : ByteArray} {a : Nat} {bad : Bool} (h : Ps W b s a bad) : (W.cell? ⟨b, 0, none⟩ = some (.string s) ∧ W.cell? ⟨b, 1, none⟩ = some (.int .i64 a) ∧ W.cell? ⟨b, 2, none⟩ = some (.bool bad)) ∧ W.frozen? ⟨b, 1, none⟩ = false ∧ W.frozen? ⟨b, 2, none⟩ = false :=
  ⟨⟨(h 0 _ rfl).1, (h 1 _ rfl).1, (h 2 _ rfl).1⟩, (h 1 _ rfl).2, (h 2 _ rfl).2⟩
theorem Ps.lt {W : World} {b : Nat} {s : ByteArray} {a : Nat} {bad : Bool} (h : Ps W b s a bad) : b < W.heap.size := At.lt h
/-- what is still to be read -/
def left (s : ByteArray) (a : Nat) : List UInt8 := s.data.toList.drop a
theorem left_cons {s : ByteArray} {a : Nat} (h : a < s.size) : left s a = s[a] :: left s (a + 1) := by
  have hs : s.data.toList.length = s.size := Array.length_toList
  unfold left
  rw [List.drop_eq_getElem_cons (by omega)]
  simp
  rfl
theorem left_nil {s : ByteArray} {a : Nat} (h : s.size ≤ a) : left s a = [] := by
  have hs : s.data.toList.length = s.size := Array.length_toList
  unfold left
  rw [List.drop_eq_nil_iff]; omega
theorem left_len (s : ByteArray) (a : Nat) : (left s a).length = s.size - a := by
  have hs : s.data.toList.length = s.size := Array.length_toList
  unfold left
  simp [hs]
/-- the next byte, or 0 -/
def seeB (s : ByteArray) (a : Nat) : UInt8 := (left s a).head?.getD 0

theorem below_dn {w : World} (n : Nat) : Below w.heap.size w (w.drewN n) := ⟨rfl, rfl, rfl, Nat.le_refl _, fun _ _ => rfl⟩
theorem Ps.kept {W W' : World} {b : Nat} {s : ByteArray} {a : Nat} {bad : Bool} (h : Ps W b s a bad) (hb : Below W.heap.size W W') : Ps W' b s a bad := At.below h hb h.lt

theorem see (b : Nat) (s : ByteArray) (a : Nat) (bad : Bool) (w : World) (h : Ps w b s a bad) (hs : s.size ≤ 1000000) (ha : a ≤ 2000000) :
    Calls Tryz.prog 49 #[.pointer (some ⟨b, 0, none⟩)] w fun e w' => e = .returned (.int .u8 ((seeB s a).toNat : Int)) ∧ Below w.heap.size w w' := by
  obtain ⟨⟨c0, c1, c2⟩, f1, f2⟩ := h.cells
  clear h
  by_cases hl : a < s.size
  · have e : seeB s a = s[a] := by unfold seeB; rw [left_cons hl]; rfl
    rw [e]
    clear e
    go_enter Tryz.func49, Tryz.ntmps49
    go_wp2
    go_quiet (fail)
    go_wp2
    go_quiet (fail)
    go_wp2
    go_ret
    exact ⟨rfl, ⟨rfl, rfl, rfl, Nat.le_refl _, fun _ _ => rfl⟩⟩
  · have e : seeB s a = 0 := by unfold seeB; rw [left_nil (by omega)]; rfl
    rw [e]
    clear e
    go_enter Tryz.func49, Tryz.ntmps49
    go_wp2
    go_quiet (fail)
    go_wp2
    go_ret
    exact ⟨rfl, ⟨rfl, rfl, rfl, Nat.le_refl _, fun _ _ => rfl⟩⟩

/-- where the reader is, off its box -/
def atOf (W : World) (b : Nat) : Nat := match W.cell? ⟨b, 1, none⟩ with | some (.int _ x) => x.toNat | _ => 0
theorem Ps.atOf {W : World} {b : Nat} {s : ByteArray} {a : Nat} {bad : Bool} (h : Ps W b s a bad) : atOf W b = a := by unfold Rule.atOf; rw [h.cells.1.2.1]; rfl

theorem gb_below {w w1 w2 : World} {b : Nat} (h : Below w.heap.size w w1) (k : w1.grownBy w2 (some b)) : w.grownBy w2 (some b) :=
  ⟨k.os.trans h.os, k.tape.trans h.tape, k.output.trans h.output, Nat.le_trans h.size k.size, fun j hj hne => (k.block j (Nat.lt_of_lt_of_le hj h.size) hne).trans (h.block j hj)⟩
theorem gb_trans {w w1 w2 : World} {b : Nat} (h : w.grownBy w1 (some b)) (k : w1.grownBy w2 (some b)) : w.grownBy w2 (some b) :=
  ⟨k.os.trans h.os, k.tape.trans h.tape, k.output.trans h.output, Nat.le_trans h.size k.size, fun j hj hne => (k.block j (Nat.lt_of_lt_of_le hj h.size) hne).trans (h.block j hj hne)⟩
theorem gb_of {w w1 : World} (b : Nat) (h : Below w.heap.size w w1) : w.grownBy w1 (some b) := ⟨h.os, h.tape, h.output, h.size, fun j hj _ => h.block j hj⟩
theorem gb_set (w : World) (b o : Nat) (u : Value) : w.grownBy (w.setCell ⟨b, o, none⟩ u) (some b) := by
  refine ⟨rfl, rfl, rfl, by simp, fun j hj hne => Below.heap_setCell w ⟨b, o, none⟩ u j (fun e => hne (by rw [e]))⟩

theorem want (b : Nat) (s : ByteArray) (a : Nat) (bad : Bool) (c : UInt8) (w : World) (h : Ps w b s a bad) (hs : s.size ≤ 1000000) (ha : a ≤ 2000000) :
    Calls Tryz.prog 52 #[.pointer (some ⟨b, 0, none⟩), .int .u8 (c.toNat : Int)] w fun e w' => e = .returned (.tuple #[]) ∧ Ps w' b s (a + 1) (bad || !(seeB s a == c)) ∧ w.grownBy w' (some b) := by
  have HP := Boxes.hide h
  clear h
  generalize hr : (bad || !(seeB s a == c)) = r
  have HR := Boxes.hide hr
  clear hr
  go_enter Tryz.func52, Tryz.ntmps52
  go_wp2_with (fail)
  refine (see b s a bad w (Boxes.unhide HP) hs ha).mono ?_
  rintro e w1 ⟨rfl, hb1⟩
  have hp1 := (Boxes.unhide HP).kept hb1
  have P1 := Boxes.hide hp1
  have HB := Boxes.hide hb1
  obtain ⟨⟨c0, c1, c2⟩, f1, f2⟩ := hp1.cells
  clear hb1 HP hp1
  generalize seeB s a = x at *
  by_cases hx : x = c
  · subst hx
    have b1 : ((x.toNat : Int) != (x.toNat : Int)) = false := by simp
    obtain rfl : bad = r := by rw [← Boxes.unhide HR]; simp
    clear HR
    go_wp2_with (fail)
    go_end0
    exact ⟨rfl, (Boxes.unhide P1).set 1 _, gb_below (Boxes.unhide HB) (gb_set _ _ _ _)⟩
  · have b1 : ((x.toNat : Int) != (c.toNat : Int)) = true := by
      simp only [bne_iff_ne, ne_eq]
      intro e; apply hx; apply UInt8.toNat_inj.1; omega
    obtain rfl : r = true := by rw [← Boxes.unhide HR]; simp [hx]
    clear HR hx
    go_wp2_with (fail)
    go_end0
    exact ⟨rfl, ((Boxes.unhide P1).set 2 _).set 1 _, gb_below (Boxes.unhide HB) (gb_trans (gb_set _ _ _ _) (gb_set _ _ _ _))⟩

/-- a world under way: the reader at a, all but its box as it was -/
def Sw (w : World) (b : Nat) (s : ByteArray) (a : Nat) (bad : Bool) (w2 : World) : Prop := Ps w2 b s a bad ∧ w.grownBy w2 (some b)
theorem Sw.see {w : World} {b : Nat} {s : ByteArray} {a : Nat} {bad : Bool} (hs : s.size ≤ 1000000) (ha : a ≤ 2000000) (g : In (Sw w b s a bad)) :
    Calls Tryz.prog 49 #[.pointer (some ⟨b, 0, none⟩)] g.x fun e w' => e = .returned (.int .u8 ((seeB s a).toNat : Int)) ∧ Sw w b s a bad w' :=
  (Rule.see b s a bad g.x g.h.1 hs ha).mono fun e w' ⟨he, hb⟩ => ⟨he, g.h.1.kept hb, gb_trans g.h.2 (gb_of _ hb)⟩

theorem left_drop (s : ByteArray) (a k : Nat) : left s (a + k) = (left s a).drop k := by
  unfold left; rw [List.drop_drop]
theorem ext_take (s : ByteArray) (a k : Nat) : (s.extract a (a + k)).data.toList = (left s a).take k := by
  unfold left
  rw [ByteArray.data_extract, Array.toList_extract]
  rw [List.extract_eq_take_drop]
  congr 1
  omega

/-- the bytes up to a stop -/
theorem take_more {s : ByteArray} {a k : Nat} (h : a + k < s.size) (hk : ∀ j, j < k → ∃ c, (left s a)[j]? = some c ∧ stopB c = false) (hc : stopB s[a + k] = false) : ∀ j, j < k + 1 → ∃ c, (left s a)[j]? = some c ∧ stopB c = false := by
  intro j hj
  by_cases e : j = k
  · subst e
    refine ⟨s[a + j], ?_, hc⟩
    have hs : s.data.toList.length = s.size := Array.length_toList
    unfold left
    rw [List.getElem?_drop, List.getElem?_eq_getElem (by omega)]
    simp; rfl
  · exact hk j (by omega)
theorem word_at {t : List UInt8} {k : Nat} (hk : ∀ j, j < k → ∃ c, t[j]? = some c ∧ stopB c = false) (he : k = t.length ∨ ∃ c, t[k]? = some c ∧ stopB c = true) : wordOf t = t.take k ∧ restOf t = t.drop k := by
  have hl : k ≤ t.length := by
    rcases he with h | ⟨c, h, _⟩
    · omega
    · have := List.getElem?_eq_some_iff.1 h; obtain ⟨h', _⟩ := this; omega
  have := word_split (w := t.take k) (r := t.drop k) (fun b hb => by
    obtain ⟨j, hj⟩ := List.getElem?_of_mem hb
    have hj' : j < k := by
      have := (List.getElem?_eq_some_iff.1 hj).1
      simp at this; omega
    obtain ⟨c, h1, h2⟩ := hk j hj'
    rw [List.getElem?_take, if_pos hj', h1] at hj
    obtain rfl := Option.some.inj hj
    exact h2) (by
    rcases he with h | ⟨c, h, hc⟩
    · exact .inl (by rw [List.drop_eq_nil_iff]; omega)
    · obtain ⟨h1, h2⟩ := List.getElem?_eq_some_iff.1 h
      exact .inr ⟨c, t.drop (k + 1), by rw [List.drop_eq_getElem_cons h1, h2], hc⟩)
  rwa [List.take_append_drop] at this

set_option maxHeartbeats 1600000 in
theorem word (b : Nat) (s : ByteArray) (a : Nat) (bad : Bool) (w : World) (h : Ps w b s a bad) (hs : s.size ≤ 1000000) (ha : a ≤ 2000000) :
    Calls Tryz.prog 50 #[.pointer (some ⟨b, 0, none⟩)] w fun e w' => ∃ x a' bad', e = .returned (.string x) ∧ Ps w' b s a' bad' ∧ w.grownBy w' (some b) ∧
      (s.size < a → bad' = true ∧ a' = a ∧ x.size = 0) ∧ (a ≤ s.size → bad' = bad ∧ x.data.toList = wordOf (left s a) ∧ left s a' = restOf (left s a) ∧ a ≤ a' ∧ a' ≤ s.size) := by
  have HP := Boxes.hide h
  obtain ⟨⟨c0, c1, c2⟩, f1, f2⟩ := h.cells
  clear h
  by_cases hl : s.size < a
  · have g1 : (s.size : Int) < (a : Int) := by omega
    go_enter Tryz.func50, Tryz.ntmps50
    go_wp2_with (fail)
    go_quiet (fail)
    go_wp2_with (fail)
    go_ret
    refine ⟨_, a, true, rfl, ?_, ?_, fun _ => ⟨rfl, rfl, rfl⟩, fun h => by omega⟩
    · exact ((Boxes.unhide HP).kept (below_dn _)).set 2 _
    · exact gb_below (below_dn _) (gb_set _ _ _ _)
  · have g1 : ¬ (s.size : Int) < (a : Int) := by omega
    go_enter Tryz.func50, Tryz.ntmps50
    go_wp2_with (fail)
    go_quiet (fail)
    go_wp2_with (fail)
    go_loopw [] (fun wr => ∃ k : Nat, a + k ≤ s.size ∧ Hid (Ps wr b s (a + k) bad) ∧ Hid (w.grownBy wr (some b)) ∧ Hid (∀ j, j < k → ∃ c, (left s a)[j]? = some c ∧ stopB c = false)) (fun wr => s.size - atOf wr b)
    case atStart => exact ⟨0, by omega, Boxes.hide ((Boxes.unhide HP).kept (below_dn _)), Boxes.hide (gb_of _ (below_dn _)), Boxes.hide (fun j hj => by omega)⟩
    case round =>
      obtain ⟨k, hk, hp, hg, hst⟩ := hrel
      have HX : Hid (Sw w b s (a + k) bad wr.drew) := Boxes.hide ⟨(Boxes.unhide hp).kept (below_dn 1), gb_trans (Boxes.unhide hg) (gb_of _ (below_dn 1))⟩
      have HME := Boxes.hide (Boxes.unhide hp).atOf
      have g0 : ∀ g : In (Sw w b s (a + k) bad), g.x.cell? ⟨b, 0, none⟩ = some (.string s) := fun g => g.h.1.cells.1.1
      have g1 : ∀ g : In (Sw w b s (a + k) bad), g.x.cell? ⟨b, 1, none⟩ = some (.int .i64 ((a + k : Nat) : Int)) := fun g => g.h.1.cells.1.2.1
      have HS : Hid (∀ g : In (Sw w b s (a + k) bad), Calls Tryz.prog 49 #[.pointer (some ⟨b, 0, none⟩)] g.x fun e w' => e = .returned (.int .u8 ((seeB s (a + k)).toNat : Int)) ∧ Sw w b s (a + k) bad w') := Boxes.hide (fun g => Sw.see hs (by omega) g)
      have HN : Hid (∀ g : In (Sw w b s (a + k) bad), Ps g.x b s (a + k) bad ∧ w.grownBy g.x (some b)) := Boxes.hide (fun g => g.h)
      generalize hA : a + k = A at *
      generalize hS : Sw w b s A bad = S at *
      by_cases hlt : A < s.size
      · have hx : seeB s A = s[A] := by unfold seeB; rw [left_cons hlt]; rfl
        have i1 : (A : Int) < (s.size : Int) := by omega
        rw [hx] at HS
        have HTM : Hid (stopB s[A] = false → ∀ j, j < k + 1 → ∃ c, (left s a)[j]? = some c ∧ stopB c = false) := Boxes.hide (fun h => by subst hA; exact take_more hlt (Boxes.unhide hst) h)
        have HDN : Hid (stopB s[A] = true → wordOf (left s a) = (left s a).take k ∧ restOf (left s a) = (left s a).drop k) := Boxes.hide (fun h => by
          subst hA
          refine word_at (Boxes.unhide hst) (.inr ⟨s[a + k], ?_, h⟩)
          have hl : s.data.toList.length = s.size := Array.length_toList
          unfold left
          rw [List.getElem?_drop, List.getElem?_eq_getElem (by omega)]
          simp; rfl)
        clear hst hp hg hx
        generalize s[A] = x at *
        cases hst : stopB x with
        | false =>
          have HT := Boxes.hide (Boxes.unhide HTM hst)
          have y32 : ((x.toNat : Int) != 32) = true := by simp only [bne_iff_ne, ne_eq]; intro e; rw [show x = 32 from UInt8.toNat_inj.1 (by simp; omega)] at hst; exact absurd hst (by decide)
          have y40 : ((x.toNat : Int) != 40) = true := by simp only [bne_iff_ne, ne_eq]; intro e; rw [show x = 40 from UInt8.toNat_inj.1 (by simp; omega)] at hst; exact absurd hst (by decide)
          have y41 : ((x.toNat : Int) != 41) = true := by simp only [bne_iff_ne, ne_eq]; intro e; rw [show x = 41 from UInt8.toNat_inj.1 (by simp; omega)] at hst; exact absurd hst (by decide)
          have y58 : ((x.toNat : Int) != 58) = true := by simp only [bne_iff_ne, ne_eq]; intro e; rw [show x = 58 from UInt8.toNat_inj.1 (by simp; omega)] at hst; exact absurd hst (by decide)
          clear HDN HTM hst
          go_wp2
          refine wp_region_in S (by kernel_rfl) (by kernel_rfl) (Boxes.unhide HX) ?_
          intro hne
          repeat (go_big_quiet_step (exact call_in _ (Boxes.unhide HS _)))
          refine wpQuiet_nil ?_
          rintro _ ⟨g, rfl⟩
          obtain ⟨hp, hg⟩ := Boxes.unhide HN g
          have HPg := Boxes.hide hp
          have HGg := Boxes.hide hg
          obtain ⟨⟨d0, d1, d2⟩, e1, e2⟩ := hp.cells
          generalize g.x = gx at *
          clear hp hg g0 g1 HS HN hne
          go_wp2
          refine ⟨⟨k + 1, by omega, ?_, Boxes.hide (gb_trans (Boxes.unhide HGg) (gb_set _ _ _ _)), HT⟩, ?_⟩
          · have := (Boxes.unhide HPg).set 1 (.int .i64 ((A : Int) + 1))
            subst hA
            exact Boxes.hide this
          · have hq : Ps (gx.setCell ⟨b, 1, none⟩ (.int .i64 ((A : Int) + 1))) b s (A + 1) bad := (Boxes.unhide HPg).set 1 (.int .i64 ((A : Int) + 1))
            have e1 := hq.atOf
            have e2 := Boxes.unhide HME
            rw [e1, e2]; omega
        | true =>
          have HD := Boxes.hide (Boxes.unhide HDN hst)
          have hc : x = 32 ∨ x = 40 ∨ x = 41 ∨ x = 58 := by
            unfold stopB at hst
            simp only [Bool.or_eq_true, beq_iff_eq] at hst
            rcases hst with ((h | h) | h) | h
            · exact .inl h
            · exact .inr (.inl h)
            · exact .inr (.inr (.inl h))
            · exact .inr (.inr (.inr h))
          clear HDN HTM
          rcases hc with hc | hc | hc | hc
          · subst hc
            have y32 : ((((32 : UInt8).toNat : Nat) : Int) != 32) = false := by decide
            have y40 : ((((32 : UInt8).toNat : Nat) : Int) != 40) = true := by decide
            have y41 : ((((32 : UInt8).toNat : Nat) : Int) != 41) = true := by decide
            have y58 : ((((32 : UInt8).toNat : Nat) : Int) != 58) = true := by decide
            clear hst
            go_wp2
            refine wp_region_in S (by kernel_rfl) (by kernel_rfl) (Boxes.unhide HX) ?_
            intro hne
            repeat (go_big_quiet_step (exact call_in _ (Boxes.unhide HS _)))
            refine wpQuiet_nil ?_
            rintro _ ⟨g, rfl⟩
            obtain ⟨hp, hg⟩ := Boxes.unhide HN g
            have HPg := Boxes.hide hp
            have HGg := Boxes.hide hg
            obtain ⟨⟨d0, d1, d2⟩, e1, e2⟩ := hp.cells
            have i3 : (a : Int) ≤ (A : Int) := by omega
            have i4 : (A : Int) ≤ (s.size : Int) := by omega
            have i5 : (0 : Int) ≤ (a : Int) := by omega
            generalize g.x = gx at *
            clear hp hg g0 g1 HS HN hne
            go_wp2
            go_quiet (fail)
            go_wp2
            go_ret
            exact ⟨s.extract a A, A, bad, rfl, (Boxes.unhide HPg).kept (below_dn _), gb_trans (Boxes.unhide HGg) (gb_of _ (below_dn _)), fun h => by omega, fun _ => ⟨rfl, (by subst hA; rw [(Boxes.unhide HD).1]; exact ext_take _ _ _), (by subst hA; rw [(Boxes.unhide HD).2]; exact left_drop _ _ _), by omega, by omega⟩⟩
          · subst hc
            have y32 : ((((40 : UInt8).toNat : Nat) : Int) != 32) = true := by decide
            have y40 : ((((40 : UInt8).toNat : Nat) : Int) != 40) = false := by decide
            have y41 : ((((40 : UInt8).toNat : Nat) : Int) != 41) = true := by decide
            have y58 : ((((40 : UInt8).toNat : Nat) : Int) != 58) = true := by decide
            clear hst
            go_wp2
            refine wp_region_in S (by kernel_rfl) (by kernel_rfl) (Boxes.unhide HX) ?_
            intro hne
            repeat (go_big_quiet_step (exact call_in _ (Boxes.unhide HS _)))
            refine wpQuiet_nil ?_
            rintro _ ⟨g, rfl⟩
            obtain ⟨hp, hg⟩ := Boxes.unhide HN g
            have HPg := Boxes.hide hp
            have HGg := Boxes.hide hg
            obtain ⟨⟨d0, d1, d2⟩, e1, e2⟩ := hp.cells
            have i3 : (a : Int) ≤ (A : Int) := by omega
            have i4 : (A : Int) ≤ (s.size : Int) := by omega
            have i5 : (0 : Int) ≤ (a : Int) := by omega
            generalize g.x = gx at *
            clear hp hg g0 g1 HS HN hne
            go_wp2
            go_quiet (fail)
            go_wp2
            go_ret
            exact ⟨s.extract a A, A, bad, rfl, (Boxes.unhide HPg).kept (below_dn _), gb_trans (Boxes.unhide HGg) (gb_of _ (below_dn _)), fun h => by omega, fun _ => ⟨rfl, (by subst hA; rw [(Boxes.unhide HD).1]; exact ext_take _ _ _), (by subst hA; rw [(Boxes.unhide HD).2]; exact left_drop _ _ _), by omega, by omega⟩⟩
          · subst hc
            have y32 : ((((41 : UInt8).toNat : Nat) : Int) != 32) = true := by decide
            have y40 : ((((41 : UInt8).toNat : Nat) : Int) != 40) = true := by decide
            have y41 : ((((41 : UInt8).toNat : Nat) : Int) != 41) = false := by decide
            have y58 : ((((41 : UInt8).toNat : Nat) : Int) != 58) = true := by decide
            clear hst
            go_wp2
            refine wp_region_in S (by kernel_rfl) (by kernel_rfl) (Boxes.unhide HX) ?_
            intro hne
            repeat (go_big_quiet_step (exact call_in _ (Boxes.unhide HS _)))
            refine wpQuiet_nil ?_
            rintro _ ⟨g, rfl⟩
            obtain ⟨hp, hg⟩ := Boxes.unhide HN g
            have HPg := Boxes.hide hp
            have HGg := Boxes.hide hg
            obtain ⟨⟨d0, d1, d2⟩, e1, e2⟩ := hp.cells
            have i3 : (a : Int) ≤ (A : Int) := by omega
            have i4 : (A : Int) ≤ (s.size : Int) := by omega
            have i5 : (0 : Int) ≤ (a : Int) := by omega
            generalize g.x = gx at *
            clear hp hg g0 g1 HS HN hne
            go_wp2
            go_quiet (fail)
            go_wp2
            go_ret
            exact ⟨s.extract a A, A, bad, rfl, (Boxes.unhide HPg).kept (below_dn _), gb_trans (Boxes.unhide HGg) (gb_of _ (below_dn _)), fun h => by omega, fun _ => ⟨rfl, (by subst hA; rw [(Boxes.unhide HD).1]; exact ext_take _ _ _), (by subst hA; rw [(Boxes.unhide HD).2]; exact left_drop _ _ _), by omega, by omega⟩⟩
          · subst hc
            have y32 : ((((58 : UInt8).toNat : Nat) : Int) != 32) = true := by decide
            have y40 : ((((58 : UInt8).toNat : Nat) : Int) != 40) = true := by decide
            have y41 : ((((58 : UInt8).toNat : Nat) : Int) != 41) = true := by decide
            have y58 : ((((58 : UInt8).toNat : Nat) : Int) != 58) = false := by decide
            clear hst
            go_wp2
            refine wp_region_in S (by kernel_rfl) (by kernel_rfl) (Boxes.unhide HX) ?_
            intro hne
            repeat (go_big_quiet_step (exact call_in _ (Boxes.unhide HS _)))
            refine wpQuiet_nil ?_
            rintro _ ⟨g, rfl⟩
            obtain ⟨hp, hg⟩ := Boxes.unhide HN g
            have HPg := Boxes.hide hp
            have HGg := Boxes.hide hg
            obtain ⟨⟨d0, d1, d2⟩, e1, e2⟩ := hp.cells
            have i3 : (a : Int) ≤ (A : Int) := by omega
            have i4 : (A : Int) ≤ (s.size : Int) := by omega
            have i5 : (0 : Int) ≤ (a : Int) := by omega
            generalize g.x = gx at *
            clear hp hg g0 g1 HS HN hne
            go_wp2
            go_quiet (fail)
            go_wp2
            go_ret
            exact ⟨s.extract a A, A, bad, rfl, (Boxes.unhide HPg).kept (below_dn _), gb_trans (Boxes.unhide HGg) (gb_of _ (below_dn _)), fun h => by omega, fun _ => ⟨rfl, (by subst hA; rw [(Boxes.unhide HD).1]; exact ext_take _ _ _), (by subst hA; rw [(Boxes.unhide HD).2]; exact left_drop _ _ _), by omega, by omega⟩⟩
      · have i1 : ¬ ((A : Int) < (s.size : Int)) := by omega
        have HD : Hid (wordOf (left s a) = (left s a).take k ∧ restOf (left s a) = (left s a).drop k) := Boxes.hide (word_at (Boxes.unhide hst) (.inl (by rw [left_len]; omega)))
        clear hst hp hg
        go_wp2
        refine wp_region_in S (by kernel_rfl) (by kernel_rfl) (Boxes.unhide HX) ?_
        intro hne
        repeat (go_big_quiet_step (exact call_in _ (Boxes.unhide HS _)))
        refine wpQuiet_nil ?_
        rintro _ ⟨g, rfl⟩
        obtain ⟨hp, hg⟩ := Boxes.unhide HN g
        have HPg := Boxes.hide hp
        have HGg := Boxes.hide hg
        obtain ⟨⟨d0, d1, d2⟩, e1, e2⟩ := hp.cells
        have i3 : (a : Int) ≤ (A : Int) := by omega
        have i4 : (A : Int) ≤ (s.size : Int) := by omega
        have i5 : (0 : Int) ≤ (a : Int) := by omega
        generalize g.x = gx at *
        clear hp hg g0 g1 HS HN hne
        go_wp2
        go_quiet (fail)
        go_wp2
        go_ret
        exact ⟨s.extract a A, A, bad, rfl, (Boxes.unhide HPg).kept (below_dn _), gb_trans (Boxes.unhide HGg) (gb_of _ (below_dn _)), fun h => by omega, fun _ => ⟨rfl, (by subst hA; rw [(Boxes.unhide HD).1]; exact ext_take _ _ _), (by subst hA; rw [(Boxes.unhide HD).2]; exact left_drop _ _ _), by omega, by omega⟩⟩
end Go.Proofs.YtkdaljonmkfdaaaGreatDoor.Rule
end
