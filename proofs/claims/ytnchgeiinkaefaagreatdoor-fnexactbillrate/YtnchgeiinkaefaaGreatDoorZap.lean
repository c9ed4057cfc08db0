/-
  Texts of this proof laid together, in build order; each says of itself what it holds.
-/
import Derived.Test.YtnchgeiinkaefaaGreatDoorZao
import Derived.Test.YtnchgeiinkaefaaGreatDoorZam
import Derived.Test.YtnchgeiinkaefaaGreatDoorZan
import Derived.Test.YtnchgeiinkaefaaGreatDoorZai
import Derived.Test.YtnchgeiinkaefaaGreatDoorZag
import Derived.Test.YtnchgeiinkaefaaGreatDoorZaf
import Derived.Deep.QuietTactic
import Derived.BigQuiet
import Derived.Test.YtnchgeiinkaefaaGreatDoorZae
import Derived.Shelf.Strings.Builder1
import Derived.Shelf.Strings.Builder2
import Derived.Shelf.Strings.OnBuilder
import Derived.Shelf.Small.Utf8
import Derived.Shelf.Small.Bits
import Derived.Shelf.Small.Strs
import Derived.Shelf.Small.Wraps
import Derived.Shelf.Strconv.Atoi
import Derived.Shelf.Strconv.Itoa0
import Derived.Shelf.Strconv.Itoa1
import Derived.Shelf.LaysM
import Derived.Shelf.Strconv.Itoa2
import Derived.Shelf.Strconv.Itoa3
import Derived.Shelf.Strconv.AtoiErrFast
import Derived.Shelf.Strconv.ParseIntEmpty
import Derived.Shelf.Strconv.AtoiFail
import Derived.Shelf.Strconv.Clone
import Derived.Shelf.Strconv.SyntaxError
import Derived.Shelf.LaysC
import Derived.Shelf.Strconv.ToError
import Derived.Shelf.Strconv.Lower
import Derived.Shelf.Strconv.ParseUint10
import Derived.Shelf.Strconv.ParseUint10Empty
import Derived.Shelf.Strconv.ParseUint10Any
import Derived.Shelf.Strconv.ParseInt10
import Derived.Shelf.Strconv.AtoiLong
import Derived.Shelf.Strconv.AtoiInnerAll
import Derived.Shelf.Strconv.RangeError
import Derived.Shelf.Strconv.ToErrorRange
import Derived.Shelf.Strconv.AtoiAll
import Derived.Shelf.Strconv.ErrVarAll
import Derived.Shelf.Strings.Search1
import Derived.Shelf.Strings.Search2
import Derived.Shelf.Strings.Cut
import Derived.Shelf.Strings.Shaped
import Derived.Shelf.Strings.Prefix
import Derived.Shelf.Strings.Fields
import Derived.Shelf.Unicode.Latin
import Derived.Shelf.Strings.Runes
import Derived.Shelf.Strings.IndexAny
import Derived.Shelf.Strings.AsciiSet
import Derived.Shelf.Strings.IndexAnyAll
import Derived.Shelf.Unicode.Is16White
import Derived.Shelf.Unicode.IsSpaceAny
import Derived.Shelf.Unicode.Is16WhiteD
import Derived.Shelf.Unicode.IsSpaceAnyD
import Derived.Shelf.Strings.FieldsAny
import Derived.Shelf.Strings.FieldsFuncAny
import Derived.Shelf.Unicode.Is16Any
import Derived.Shelf.Unicode.Is32Any
import Derived.Shelf.Unicode.ExclAny
import Derived.Ground.SlgmProg
import Derived.Shelf.SortM.Plain
import Derived.Shelf.SortM.SortNone
import Derived.Test.YtnchgeiinkaefaaGreatDoorProg
section
/-
  spec.l4Taxes: the taxes of all rates.
-/
namespace Go.Proofs.YtnchgeiinkaefaaGreatDoor.Tax
set_option linter.unusedVariables false
open Go.RowKit
open Evs (E E0 ER EC hide unhide below_trans below_drewN')
open BRow (R R0 RC ROwn)
open Ints (Cells)
open Coin (partV partB okB partS)

/-- what all rows of a rate come to -/
def sumQ (net rate : Nat → Int) (n : Nat) (q : Int) : Int := sumG (fun j => decide (rate j = q)) net n
/-- what row j owes -/
def owed (net rate : Nat → Int) (n j : Nat) : Int := spreadF net rate (fun _ => 0) n (rate j) (sumQ net rate n (rate j)) (partV (sumQ net rate n (rate j)) (rate j) 10000) j
/-- the tax of the rate of row j is told -/
def toldB (net rate : Nat → Int) (n j : Nat) : Bool := partB (sumQ net rate n (rate j)) (rate j) 10000
def allTold (net rate : Nat → Int) (n : Nat) : Bool := (List.range n).all fun j => toldB net rate n j
theorem allTold_no {net rate : Nat → Int} {n j : Nat} (hj : j < n) (h : toldB net rate n j = false) : allTold net rate n = false := by
  unfold allTold; rw [List.all_eq_false]; exact ⟨j, by simpa using hj, by simp [h]⟩
theorem allTold_yes {net rate : Nat → Int} {n : Nat} (h : ∀ j, j < n → toldB net rate n j = true) : allTold net rate n = true := by
  unfold allTold; rw [List.all_eq_true]; intro j hj; exact h j (by simpa using hj)

theorem partV_nonneg {a n : Int} (h : 0 ≤ a) (hn : 0 ≤ n) : 0 ≤ partV a n 10000 := by
  unfold partV
  split
  · rw [if_neg (by omega)]
    have e : Coin.sz a = a := by unfold Coin.sz; split <;> omega
    rw [e]
    have h1 := (Coin.rndE_bd (a / 10000 * n + a % 10000 * n / 10000) (a % 10000 * n % 10000) 10000).1
    have h2 : 0 ≤ a / 10000 * n := Int.mul_nonneg (by omega) hn
    have h3 : 0 ≤ a % 10000 * n := Int.mul_nonneg (by omega) hn
    omega
  · omega
theorem sumQ_bd {net rate : Nat → Int} {n : Nat} (h6 : n ≤ 6) (hN : ∀ j, j < n → 0 ≤ net j ∧ net j ≤ 1000000000000000) (q : Int) : ∀ k, k ≤ n → 0 ≤ sumG (fun j => decide (rate j = q)) net k ∧ sumG (fun j => decide (rate j = q)) net k ≤ 6000000000000000 := fun k hk => by
  have := sumG_bd (g := fun j => decide (rate j = q)) (f := net) (m := 1000000000000000) (by omega) k (fun i hi => hN i (by omega))
  have h2 : (k : Int) * 1000000000000000 ≤ 6 * 1000000000000000 := Int.mul_le_mul_of_nonneg_right (by omega) (by omega)
  omega

/-- the rate of row j is one of the first i lines' -/
def seen (rate : Nat → Int) (i j : Nat) : Bool := (List.range i).any fun m => decide (rate m = rate j)
theorem seen_next (rate : Nat → Int) (i j : Nat) : seen rate (i + 1) j = (seen rate i j || decide (rate i = rate j)) := by
  unfold seen; rw [List.range_succ, List.any_append]; simp
theorem seen_iff {rate : Nat → Int} {i j : Nat} : seen rate i j = true ↔ ∃ m, m < i ∧ rate m = rate j := by
  unfold seen; rw [List.any_eq_true]
  constructor
  · rintro ⟨m, hm, h⟩; exact ⟨m, by simpa using hm, of_decide_eq_true h⟩
  · rintro ⟨m, hm, h⟩; exact ⟨m, by simpa using hm, decide_eq_true h⟩
/-- the taxes behind the first i lines -/
def taxI (net rate : Nat → Int) (n i j : Nat) : Int := if seen rate i j then owed net rate n j else 0
theorem taxI_skip {net rate : Nat → Int} {n i f : Nat} (hf : f < i) (h : rate f = rate i) (j : Nat) : taxI net rate n (i + 1) j = taxI net rate n i j := by
  unfold taxI
  rw [seen_next]
  by_cases e : rate i = rate j
  · have : seen rate i j = true := seen_iff.2 ⟨f, hf, h.trans e⟩
    rw [this]; simp
  · rw [decide_eq_false e, Bool.or_false]
theorem spread_old {net rate o1 o2 : Nat → Int} {n : Nat} {q S tax : Int} {j : Nat} (h : o1 j = o2 j) : spreadF net rate o1 n q S tax j = spreadF net rate o2 n q S tax j := by
  unfold spreadF; rw [h]
theorem taxI_step {net rate : Nat → Int} {n i : Nat} (h : ∀ m, m < i → rate m ≠ rate i) (j : Nat) : spreadF net rate (taxI net rate n i) n (rate i) (sumQ net rate n (rate i)) (partV (sumQ net rate n (rate i)) (rate i) 10000) j = taxI net rate n (i + 1) j := by
  by_cases e : rate i = rate j
  · have h1 : seen rate i j = false := by
      cases hs : seen rate i j
      · rfl
      · obtain ⟨m, hm, h2⟩ := seen_iff.1 hs
        exact absurd (h2.trans e.symm) (h m hm)
    have h0 : taxI net rate n i j = (fun _ => (0 : Int)) j := by unfold taxI; rw [h1]; rfl
    rw [spread_old (o2 := fun _ => 0) h0]
    unfold taxI
    rw [seen_next, decide_eq_true e, Bool.or_true, if_pos rfl, owed, e]
  · have hg : grp rate (rate i) (sumQ net rate n (rate i)) j = false := by unfold grp; rw [decide_eq_false (fun h => e h.symm)]; rfl
    unfold spreadF
    rw [hg]
    unfold taxI
    rw [seen_next, decide_eq_false e, Bool.or_false]; rfl
theorem netF_rows (l : List R) (f : Nat → Int) : netF (rowsF l f) = netF l := by
  funext j
  by_cases h : j < l.length
  · unfold netF; rw [rowsF_get l f h]
  · unfold netF; simp [rowsF, List.getD, h]
theorem oldF_rows (l : List R) (f : Nat → Int) {j : Nat} (h : j < l.length) : oldF (rowsF l f) j = f j := by
  unfold oldF; rw [rowsF_get l f h]
theorem taxI_end (net rate : Nat → Int) {n j : Nat} (h : j < n) : taxI net rate n n j = owed net rate n j := by
  unfold taxI; rw [if_pos (seen_iff.2 ⟨j, h, rfl⟩)]

set_option maxRecDepth 20000 in
set_option maxHeartbeats 4000000 in
theorem taxesS (w0 : World) (tv : Value) (t : List E) (b c n : Nat) (l : List R) (w : World) (hT : ER w0 tv t) (hB : Below w0.heap.size w0 w) (hR : ROwn w b l) (hb : w0.heap.size ≤ b)
    (hn : l.length = n) (ht : t.length = n) (h6 : n ≤ 6) (hN : ∀ j, j < n → 0 ≤ netF l j ∧ netF l j ≤ 1000000000000000) (hQ : ∀ j, j < n → 0 ≤ rateF t j ∧ rateF t j ≤ 5000) (hO : ∀ j, j < n → oldF l j = 0) :
    Calls Tryz.prog 24 #[tv, .slice (some ⟨b, 0, none⟩) n c] w fun e w' => Below w0.heap.size w0 w' ∧ ((allTold (netF l) (rateF t) n = true ∧ e = .returned (.tuple #[.slice (some ⟨b, 0, none⟩) n c, .bool true]) ∧ ROwn w' b (rowsF l (owed (netF l) (rateF t) n))) ∨ (allTold (netF l) (rateF t) n = false ∧ e = .returned (.tuple #[.slice none 0 0, .bool false]))) := by
  obtain ⟨ta, tc, rfl⟩ := hT.slice
  subst ht
  have HT := hide hT
  have HN := hide hN
  have HL := hide hn
  have HQ := hide hQ
  have HO := hide hO
  have HR := hide hR
  have HB := hide hB
  have hw0 : w0.heap.size ≤ w.heap.size := hB.size
  have HSB := hide (fun q => sumQ_bd (rate := rateF t) h6 hN q)
  clear hT hN hn hR hB hQ hO
  go_enter Tryz.func24, Tryz.ntmps24
  go_wp2_with (fail)
  go_loopw [1, 6] (fun rv s wr => ∃ i : Nat, i ≤ t.length ∧ s = .int .i64 i ∧ rv = .slice (some ⟨b, 0, none⟩) t.length c ∧ Hid (ROwn wr b (rowsF l (taxI (netF l) (rateF t) t.length i))) ∧ Hid (∀ j, j < i → toldB (netF l) (rateF t) t.length j = true) ∧ Hid (Below w0.heap.size w0 wr)) (fun _ s _ => t.length - (intOf s).toNat)
  case atStart =>
    refine ⟨0, Nat.zero_le _, rfl, rfl, ?_, hide (fun j hj => by omega), HB⟩
    have e : rowsF l (taxI (netF l) (rateF t) t.length 0) = l := by
      have h1 : rowsF l (taxI (netF l) (rateF t) t.length 0) = rowsF l (oldF l) := rowsF_congr l (fun j hj => by
        rw [unhide HO j (by have := unhide HL; omega)]; simp [taxI, seen])
      rw [h1]; exact rowsF_old l
    rw [e]; exact HR
  case round =>
    obtain ⟨i, hi, rfl, rfl, D1, D2, D3⟩ := hrel
    clear HR HB
    have hll := unhide HL
    by_cases hlt : i < t.length
    · obtain ⟨b2, o2, cap2, hcf, hc⟩ : ∃ b2 o2 cap2, Value.slice ta t.length tc = .slice (some ⟨b2, o2, none⟩) t.length cap2 ∧ EC w0 b2 o2 t := by
        rcases unhide HT with ⟨h, _⟩ | h
        · rw [h] at hlt; simp at hlt
        · exact h
      simp only [Value.slice.injEq, true_and] at hcf
      obtain ⟨rfl, rfl⟩ := hcf
      have HC := hide hc
      have i1 : (0 : Int) ≤ (i : Int) := by omega
      have i2 : (i : Int) < (t.length : Int) := by omega
      have hER : ER wr (Value.slice (some ⟨b2, o2, none⟩) t.length tc) t := (unhide HT).kept (unhide D3)
      have HER := hide hER
      clear hER hc
      go_wp2_with (fail)
      refine (firstS _ t i wr (unhide HER) hlt h6).mono ?_
      rintro e w1 ⟨f, rfl, hf, hb1⟩
      have HF := hide hf
      have G1 := hide ((unhide D1).kept hb1)
      have G3 := hide (below_trans (unhide D3) hb1)
      clear hf hb1 D1 D3 HER
      by_cases hfi : f = i
      · subst hfi
        have HFI : Hid (∀ m, m < f → rateF t m ≠ rateF t f) := hide (unhide HF).2.2
        have hff : ((f : Int) != (f : Int)) = false := by simp
        clear HF
        go_wp2_with (fail)
        go_loopw [7, 8] (fun sv s wr2 => ∃ j : Nat, j ≤ t.length ∧ s = .int .i64 j ∧ sv = .int .i64 (sumG (fun j => decide (rateF t j = rateF t f)) (netF l) j) ∧ Hid (ROwn wr2 b (rowsF l (taxI (netF l) (rateF t) t.length f))) ∧ Hid (Below w0.heap.size w0 wr2)) (fun _ s _ => t.length - (intOf s).toNat)
        case atStart => exact ⟨0, Nat.zero_le _, rfl, by simp [sumG], G1, G3⟩
        case round =>
          obtain ⟨j, hj, rfl, rfl, K1, K3⟩ := hrel
          clear G1 G3
          have hsj := unhide HSB (rateF t f) j hj
          have hcc := (unhide HC).kept (unhide K3)
          have c1 := (hcc.2 f hlt).2.2
          by_cases hjl : j < t.length
          · have c2 := (hcc.2 j hjl).2.2
            obtain ⟨_, r1, _⟩ := (unhide K1).1.2 j (by rw [rowsF_len]; omega)
            rw [rowsF_get _ _ (by omega), Nat.zero_add] at r1
            simp only at r1
            have j1 : (0 : Int) ≤ (j : Int) := by omega
            have j2 : (j : Int) < (t.length : Int) := by omega
            obtain ⟨n0, n1⟩ := unhide HN j hjl
            clear hcc
            by_cases he : rateF t j = rateF t f
            · have E3 : Hid (sumG (fun j => decide (rateF t j = rateF t f)) (netF l) (j + 1) = sumG (fun j => decide (rateF t j = rateF t f)) (netF l) j + netF l j) := hide (by rw [sumG, decide_eq_true he]; simp)
              have he2 : (t.getD j E0).2.2 = (t.getD f E0).2.2 := he
              rw [he2] at c2
              clear he he2
              have hrr : rateF t f = (t.getD f E0).2.2 := rfl
              generalize sumG (fun j => decide (rateF t j = rateF t f)) (netF l) j = sg at *
              have hnx : (l.getD j R0).2.1 = netF l j := rfl
              generalize netF l j = x at *
              clear hnx hrr
              generalize (t.getD f E0).2.2 = q at *
              go_wp2
              go_quiet (fail)
              go_wp2
              exact ⟨⟨j + 1, by omega, by go_num, by rw [unhide E3], hide ((unhide K1).kept (below_drewN' (Below.refl _ _) _)), hide (below_drewN' (unhide K3) _)⟩, by simp [intOf]; omega⟩
            · have E3 : Hid (sumG (fun j => decide (rateF t j = rateF t f)) (netF l) (j + 1) = sumG (fun j => decide (rateF t j = rateF t f)) (netF l) j) := hide (by rw [sumG, decide_eq_false he]; simp)
              have he2 : ((t.getD j E0).2.2 == (t.getD f E0).2.2) = false := beq_eq_false_iff_ne.2 he
              clear he r1 n0 n1
              generalize sumG (fun j => decide (rateF t j = rateF t f)) (netF l) j = sg at *
              generalize (t.getD f E0).2.2 = q at *
              generalize (t.getD j E0).2.2 = y at *
              go_wp2
              go_quiet (fail)
              go_wp2
              exact ⟨⟨j + 1, by omega, by go_num, by rw [unhide E3], hide ((unhide K1).kept (below_drewN' (Below.refl _ _) _)), hide (below_drewN' (unhide K3) _)⟩, by simp [intOf]; omega⟩
          · obtain rfl : j = t.length := by omega
            have HSQ : Hid (sumG (fun j => decide (rateF t j = rateF t f)) (netF l) t.length = sumQ (netF l) (rateF t) t.length (rateF t f)) := hide rfl
            rw [unhide HSQ] at hsj ⊢
            clear HSQ hcc
            obtain ⟨q0, q1⟩ := unhide HQ f hlt
            have HTB : Hid (toldB (netF l) (rateF t) t.length f = partB (sumQ (netF l) (rateF t) t.length (rateF t f)) (rateF t f) 10000) := hide rfl
            have HST := hide (taxI_step (net := netF l) (n := t.length) (unhide HFI))
            have hpv := partV_nonneg (a := sumQ (netF l) (rateF t) t.length (rateF t f)) hsj.1 q0
            have hpv2 := (Coin.part_bd (sumQ (netF l) (rateF t) t.length (rateF t f)) (rateF t f) 10000).2
            have HQF : Hid (rateF t f = (t.getD f E0).2.2) := hide rfl
            rw [← unhide HQF] at c1
            generalize hS : sumQ (netF l) (rateF t) t.length (rateF t f) = S at *
            clear hS
            generalize hqq : rateF t f = q at *
            clear hqq HQF
            go_wp2_with (fail)
            refine (partS S q 10000 _).mono ?_
            rintro e w3 ⟨rfl, nk, hw3⟩
            have M1 := hide ((unhide K1).kept (hw3 ▸ below_drewN' (Below.refl _ _) nk))
            have M3 := hide (hw3 ▸ below_drewN' (unhide K3) nk)
            have c1' : w3.cell? ⟨b2, o2 + f * 3 + 2, none⟩ = some (.int .i64 q) := by rw [hw3]; exact c1
            clear K1 K3 c1 hw3
            cases htb : partB S q 10000 with
            | false =>
              have HA : Hid (allTold (netF l) (rateF t) t.length = false) := hide (allTold_no hlt ((unhide HTB).trans htb))
              clear htb HTB
              go_wp2_with (fail)
              go_ret2
              exact ⟨unhide M3, .inr ⟨unhide HA, rfl⟩⟩
            | true =>
              have D2' : Hid (∀ j, j < f + 1 → toldB (netF l) (rateF t) t.length j = true) := hide (fun j hj => by
                by_cases e : j = f
                · subst e; exact (unhide HTB).trans htb
                · exact unhide D2 j (by omega))
              clear htb HTB D2
              generalize partV S q 10000 = pv at *
              go_wp2_with (fail)
              refine (spreadS w0 _ t b c t.length (rowsF l (taxI (netF l) (rateF t) t.length f)) q S pv _ (unhide HT) (unhide M3) (unhide M1) hb (by rw [rowsF_len]; exact hll) rfl h6 (fun j hj => by rw [netF_rows]; exact unhide HN j hj) q0 q1 ⟨hpv, hpv2⟩).mono ?_
              rintro e w5 ⟨rfl, hR5, hB5⟩
              have N1 : Hid (ROwn w5 b (rowsF l (taxI (netF l) (rateF t) t.length (f + 1)))) := hide (by
                rw [rowsF_rows, netF_rows] at hR5
                rwa [rowsF_congr l (fun j hj => (spread_old (oldF_rows l _ hj)).trans (unhide HST j))] at hR5)
              have N3 := hide hB5
              clear hR5 hB5 M1 M3 c1'
              go_wp2_with (fail)
              exact ⟨⟨f + 1, by omega, by go_num, rfl, N1, D2', N3⟩, by simp [intOf]; omega⟩
      · have hfl : f < i := by have := (unhide HF).1; omega
        have hfe := (unhide HF).2.1
        have E1 : Hid (rowsF l (taxI (netF l) (rateF t) t.length (i + 1)) = rowsF l (taxI (netF l) (rateF t) t.length i)) := hide (rowsF_congr l (fun j _ => taxI_skip hfl hfe j))
        have D2' : Hid (∀ j, j < i + 1 → toldB (netF l) (rateF t) t.length j = true) := hide (fun j hj => by
          by_cases e : j = i
          · subst e
            have := unhide D2 f hfl
            unfold toldB at this ⊢
            rwa [hfe] at this
          · exact unhide D2 j (by omega))
        have hff : ((f : Int) != (i : Int)) = true := by simp; omega
        clear HF hfe D2 hfi
        go_wp2_with (fail)
        exact ⟨⟨i + 1, by omega, by go_num, rfl, by rw [unhide E1]; exact G1, D2', G3⟩, by simp [intOf]; omega⟩
    · obtain rfl : i = t.length := by omega
      have HA := hide (allTold_yes (unhide D2))
      have HRR : Hid (ROwn wr b (rowsF l (owed (netF l) (rateF t) t.length))) := hide (by
        have := unhide D1
        rwa [rowsF_congr l (fun j hj => taxI_end (netF l) (rateF t) (show j < t.length by omega))] at this)
      clear D1 D2
      go_wp2_with (fail)
      go_ret2
      exact ⟨unhide D3, .inl ⟨unhide HA, rfl, unhide HRR⟩⟩
end Go.Proofs.YtnchgeiinkaefaaGreatDoor.Tax
end

section
/-
  What a tariff makes of events: the rows, if there are any.
-/
namespace Go.Proofs.YtnchgeiinkaefaaGreatDoor.Bill
set_option linter.unusedVariables false
open Go.RowKit Evs
open Tax
open BRow (R R0 RC ROwn RN XR)
open Uses (U)

/-- what line j comes to -/
noncomputable def netJ (us : List U) (t : List E) (j : Nat) : Int := if j < t.length then (netO us (t.getD j E0).2.1).getD 0 else 0
noncomputable def hasJ (us : List U) (t : List E) (j : Nat) : Bool := (netO us (t.getD j E0).2.1).isSome
/-- the rows without their tax -/
noncomputable def rowsN (us : List U) (t : List E) (k : Nat) : List R := (List.range k).map fun j => ((t.getD j E0).1, netJ us t j, 0)
/-- all together -/
def sumA (f : Nat → Int) (n : Nat) : Int := sumG (fun _ => true) f n
theorem sumA_succ (f : Nat → Int) (n : Nat) : sumA f (n + 1) = sumA f n + f n := by unfold sumA; rw [sumG, if_pos rfl]
/-- the tariff makes rows of these sums -/
noncomputable def rateB (us : List U) (t : List E) : Bool := ((List.range t.length).all fun j => hasJ us t j) && Coin.okB (sumA (netJ us t) t.length) && allTold (netJ us t) (rateF t) t.length && Coin.okB (sumA (netJ us t) t.length + sumA (owed (netJ us t) (rateF t) t.length) t.length)
noncomputable def rated (us : List U) (t : List E) : List R := rowsF (rowsN us t t.length) (owed (netJ us t) (rateF t) t.length)

theorem netJ_bd (us : List U) (t : List E) (j : Nat) : 0 ≤ netJ us t j ∧ netJ us t j ≤ 1000000000000000 := by
  unfold netJ; split
  · exact netO_bd
  · simp
theorem rowsN_len (us : List U) (t : List E) (k : Nat) : (rowsN us t k).length = k := by simp [rowsN]
theorem rowsN_succ (us : List U) (t : List E) (k : Nat) : rowsN us t (k + 1) = rowsN us t k ++ [((t.getD k E0).1, netJ us t k, 0)] := by
  unfold rowsN; rw [List.range_succ, List.map_append]; rfl
theorem rowsN_get (us : List U) (t : List E) {j n : Nat} (h : j < n) : (rowsN us t n).getD j R0 = ((t.getD j E0).1, netJ us t j, 0) := by simp [rowsN, List.getD, h]
theorem netF_rowsN (us : List U) (t : List E) : netF (rowsN us t t.length) = netJ us t := by
  funext j
  unfold netF
  by_cases h : j < t.length
  · rw [rowsN_get us t h]
  · have e : (rowsN us t t.length).getD j R0 = R0 := by simp [rowsN, List.getD, h]
    rw [e]; unfold netJ; rw [if_neg h]
theorem oldF_rowsN (us : List U) (t : List E) {j : Nat} (h : j < t.length) : oldF (rowsN us t t.length) j = 0 := by
  unfold oldF; rw [rowsN_get us t h]
theorem sumA_mono {f : Nat → Int} (h : ∀ j, 0 ≤ f j) {i n : Nat} (hi : i ≤ n) : sumA f i ≤ sumA f n := by
  induction n with
  | zero => have : i = 0 := by omega
            subst this; exact Int.le_refl _
  | succ n ih =>
    rw [sumA_succ]
    by_cases e : i = n + 1
    · subst e; rw [sumA_succ]; exact Int.le_refl _
    · have := ih (by omega); have := h n; omega
theorem sumA_nonneg {f : Nat → Int} (h : ∀ j, 0 ≤ f j) (n : Nat) : 0 ≤ sumA f n := by
  have := sumA_mono h (Nat.zero_le n); simpa [sumA, sumG] using this
theorem rateB_no {us : List U} {t : List E} {j : Nat} (hj : j < t.length) (h : hasJ us t j = false) : rateB us t = false := by
  have : ((List.range t.length).all fun j => hasJ us t j) = false := by
    rw [List.all_eq_false]; exact ⟨j, by simpa using hj, by simp [h]⟩
  unfold rateB; rw [this]; rfl
theorem rateB_over {us : List U} {t : List E} {i : Nat} (hi : i ≤ t.length) (h : Coin.okB (sumA (netJ us t) i) = false) : rateB us t = false := by
  have h0 := sumA_nonneg (fun j => (netJ_bd us t j).1) i
  have h1 := sumA_mono (fun j => (netJ_bd us t j).1) hi
  have h2 : Coin.okB (sumA (netJ us t) t.length) = false := by
    cases e : Coin.okB (sumA (netJ us t) t.length)
    · rfl
    · have := Coin.okB_iff.1 e
      have h3 : Coin.okB (sumA (netJ us t) i) = true := Coin.okB_true (by omega)
      rw [h3] at h; cases h
  unfold rateB; rw [h2]; simp
theorem rateB_told {us : List U} {t : List E} (h : allTold (netJ us t) (rateF t) t.length = false) : rateB us t = false := by
  unfold rateB; rw [h]; simp
theorem rateB_end {us : List U} {t : List E} (h1 : ∀ j, j < t.length → hasJ us t j = true) (h2 : Coin.okB (sumA (netJ us t) t.length) = true) (h3 : allTold (netJ us t) (rateF t) t.length = true) : rateB us t = Coin.okB (sumA (netJ us t) t.length + sumA (owed (netJ us t) (rateF t) t.length) t.length) := by
  have : ((List.range t.length).all fun j => hasJ us t j) = true := by
    rw [List.all_eq_true]; intro j hj; exact h1 j (by simpa using hj)
  unfold rateB; rw [this, h2, h3]; simp
theorem okL_parts {t : List E} (h : okL t = true) : t.length ≤ 6 ∧ ∀ j, j < t.length → ruleB (t.getD j E0).2.1 = true ∧ 0 ≤ rateF t j ∧ rateF t j ≤ 5000 := by
  unfold okL at h
  rw [Bool.and_eq_true, decide_eq_true_eq, List.all_eq_true] at h
  refine ⟨h.1, fun j hj => ?_⟩
  have h2 := h.2 j (by simpa using hj)
  unfold badL at h2
  simp only [Bool.not_or, Bool.not_not, Bool.and_eq_true] at h2
  have h3 := h2.1
  unfold lineB at h3
  simp only [Bool.and_eq_true, decide_eq_true_eq] at h3
  exact ⟨h3.2, h3.1.2.1, h3.1.2.2⟩
theorem owed_bd {net rate : Nat → Int} {n j : Nat} (hj : j < n) (hN : 0 ≤ net j ∧ net j ≤ 1000000000000000) (hQ : 0 ≤ rate j ∧ rate j ≤ 5000) : 0 ≤ owed net rate n j ∧ owed net rate n j ≤ 500000000005001 := by
  have := (partJ_bd hN.1 hN.2 hQ.1 hQ.2).2.2.2.2.2.1
  unfold owed spreadF
  split
  · split <;> omega
  · exact ⟨Int.le_refl _, by simp⟩
theorem newR (w : World) (s : ByteArray) (m q : Int) : BRow.RR (w.alloc (.cells #[.string s, .int .i64 m, .int .i64 q] 55)) (.slice (some ⟨w.heap.size, 0, none⟩) 1 1) [(s, m, q)] := by
  have e1 := (MapKept.heap_alloc w (.cells #[.string s, .int .i64 m, .int .i64 q] 55)).1
  refine .inr ⟨w.heap.size, 0, 1, rfl, by simp, fun i hi => ?_⟩
  have : i = 0 := by simpa using hi
  subst this
  simp only [World.cell?]
  rw [e1]
  exact ⟨rfl, rfl, rfl⟩
/-- what BillRate answers -/
def RateOut (w w' : World) (t evs : List E) (us : List U) (v : Value) (c : Int) : Prop :=
  ((okL t && Evs.okB evs) = false ∧ v = .slice none 0 0 ∧ c = 4) ∨ ((okL t && Evs.okB evs) = true ∧ rateB us t = false ∧ v = .slice none 0 0 ∧ c = 6) ∨ ((okL t && Evs.okB evs) = true ∧ rateB us t = true ∧ RN w.heap.size w' v (rated us t) ∧ c = 0)
end Go.Proofs.YtnchgeiinkaefaaGreatDoor.Bill
end

section
/-
  impl.readOwn.
-/
namespace Go.Proofs.YtnchgeiinkaefaaGreatDoor.Rule
set_option linter.unusedVariables false
open Go.RowKit
open Tiers (T T0 TR hide unhide below_trans)
open Kinds hiding hide unhide below_trans ext_toList

abbrev cells2 (t : T) : List Value := [.int .i64 t.1, .int .i64 t.2]
def flatT (l : List T) : List Value := l.flatMap cells2
theorem flatT_get : ∀ (l : List T) (i : Nat) (x : T), l[i]? = some x → ∀ j u, j < 2 → (cells2 x)[j]? = some u → (flatT l)[i * 2 + j]? = some u
  | [], i, x, h, _, _, _, _ => by simp at h
  | y :: l, 0, x, h, j, u, hj, hu => by
    simp at h; subst h
    have e : flatT (y :: l) = cells2 y ++ flatT l := rfl
    rw [e, Nat.zero_mul, Nat.zero_add, List.getElem?_append_left (by show j < 2; omega)]
    exact hu
  | y :: l, i + 1, x, h, j, u, hj, hu => by
    simp only [List.getElem?_cons_succ] at h
    have e : flatT (y :: l) = cells2 y ++ flatT l := rfl
    rw [e, List.getElem?_append_right (by show 2 ≤ _; omega)]
    have e3 : (i + 1) * 2 + j - (cells2 y).length = i * 2 + j := by show (i + 1) * 2 + j - 2 = _; omega
    rw [e3]
    exact flatT_get l i x h j u hj hu
/-- steps in a row of the call's own -/
def TO (W : World) (B : Nat) (v : Value) (l : List T) : Prop := W.ownsRow B 184 2 v l.length (flatT l)
theorem TO.nil (W : World) (B : Nat) : TO W B (.slice none 0 0) [] := ⟨rfl, .inl ⟨rfl, rfl⟩⟩
theorem TO.blk {W : World} {B : Nat} {v : Value} {l : List T} (h : TO W B v l) : ∀ q, v.ownBlock = some q → B ≤ q ∧ q < W.heap.size := World.ownsRow.lt h
theorem TO.kept {W W' : World} {B : Nat} {v : Value} {l : List T} {r : Option Nat} (h : TO W B v l) (hg : W.grownBy W' r) (hr : ∀ q, r = some q → q < B) : TO W' B v l :=
  World.ownsRow.kept (row := r) h hg (by
    cases h1 : v.ownBlock with
    | none => exact .inl rfl
    | some q => exact .inr (fun e => by have := (h.blk q h1).1; have := hr q e.symm; omega))
theorem TO.form {W : World} {B : Nat} {v : Value} {l : List T} (h : TO W B v l) : ∃ a c, v = .slice a l.length c := by
  obtain ⟨h1, h2⟩ := h
  rcases h2 with ⟨rfl, h0⟩ | ⟨g, cap, cur, rfl, _⟩
  · exact ⟨none, 0, by rw [h0]⟩
  · exact ⟨_, _, rfl⟩
theorem TO.ot {W : World} {B : Nat} {v : Value} {l : List T} (h : TO W B v l) (hB : B ≤ W.heap.size) : OT B W.heap.size W v l := by
  have ho := h
  have hb := h.blk
  obtain ⟨h1, h2⟩ := h
  refine ⟨hB, ?_⟩
  rcases h2 with ⟨rfl, h0⟩ | ⟨g, cap, cur, rfl, hBg, hg, _⟩
  · obtain rfl := List.length_eq_zero_iff.1 h0
    exact .inl ⟨rfl, _, _, rfl⟩
  · refine .inr ⟨g, cap, rfl, hBg, (hb g rfl).2, fun i hi => ?_, fun j => ?_⟩
    · have hx : l[i]? = some l[i] := List.getElem?_eq_getElem hi
      have e : l.getD i T0 = l[i] := by simp [List.getD, hi]
      rw [e]
      have hc : ∀ j u, j < 2 → (cells2 l[i])[j]? = some u → W.cell? ⟨g, i * 2 + j, none⟩ = some u := fun j u hj hu => by
        have := World.ownsRow.cells ho rfl (i * 2 + j) u (flatT_get l i _ hx j u hj hu)
        rw [Addr.add_lit, Nat.zero_add] at this
        exact this
      exact ⟨hc 0 _ (by omega) rfl, hc 1 _ (by omega) rfl⟩
    · simp only [World.frozen?]
      rw [hg]; simp
theorem infoT' : (Tryz.prog.info? 184).map (fun i => (i.zero, i.size, i.bytes)) = some (some (.agg #[.int .i64 0, .int .i64 0]), 2, 16) := by kernel_rfl

/-- what lies below B, the block eb aside, is as it was -/
structure KeepB (eb B : Nat) (w w' : World) : Prop where
  os : w'.os = w.os
  tape : w'.tape = w.tape
  output : w'.output = w.output
  size : w.heap.size ≤ w'.heap.size
  block : ∀ j, j < B → j < w.heap.size → j ≠ eb → w'.heap[j]? = w.heap[j]?
theorem KeepB.refl (eb B : Nat) (w : World) : KeepB eb B w w := ⟨rfl, rfl, rfl, Nat.le_refl _, fun _ _ _ _ => rfl⟩
theorem KeepB.trans {eb B : Nat} {a b c : World} (h : KeepB eb B a b) (k : KeepB eb B b c) : KeepB eb B a c :=
  ⟨k.os.trans h.os, k.tape.trans h.tape, k.output.trans h.output, Nat.le_trans h.size k.size, fun j h1 h2 h3 => (k.block j h1 (Nat.lt_of_lt_of_le h2 h.size) h3).trans (h.block j h1 h2 h3)⟩
theorem KeepB.below {eb B : Nat} {a b : World} (h : Below a.heap.size a b) : KeepB eb B a b := ⟨h.os, h.tape, h.output, h.size, fun j _ h2 _ => h.block j h2⟩
theorem KeepB.set {eb B : Nat} (w : World) (k : Nat) (u : Value) : KeepB eb B w (w.setCell ⟨eb, k, none⟩ u) := ⟨rfl, rfl, rfl, by simp, fun j _ _ h3 => Below.heap_setCell w ⟨eb, k, none⟩ u j (by simpa using h3)⟩
theorem KeepB.grown {eb B : Nat} {a b : World} {r : Option Nat} (h : a.grownBy b r) (hr : ∀ q, r = some q → B ≤ q) : KeepB eb B a b := ⟨h.os, h.tape, h.output, h.size, fun j h1 h2 _ => h.block j h2 (fun e => by have := hr j e.symm; omega)⟩

section
variable {ops : Array Oper} {o : Oper} {a : Act} {K : Act → World → Prop} {Q : Exit → Act → World → Prop} {E : Prop}
theorem listAppT (w : World) {rest : List Oper} (hgd : o.guard = none) (s x : Operand) (ho : o.op = .call { callee := .builtin .append, args := #[s, x], argTypes := #[75, 75] })
    (B N n : Nat) (v : Value) (l : List T) (q : T) (hn : l.length = n) (hs : a.eval s = v) (hv : TO w B v l) (hx : a.eval x = .slice (some ⟨N, 0, none⟩) 1 1) (hN : w.heap[N]? = some (.cells (cells2 q).toArray 184 (0, 0))) (hl : l.length ≤ 1000000) (hB : B ≤ w.heap.size)
    (h : ∀ g c w', TO w' B (.slice (some ⟨g, 0, none⟩) (n + 1) c) (l ++ [q]) → w.grownBy w' v.ownBlock → wpList Tryz.prog ops Q rest (a.put o.dst (.slice (some ⟨g, 0, none⟩) (n + 1) c)) w') :
    wpList Tryz.prog ops Q (o :: rest) a w := by
  subst hn
  obtain ⟨i, hi, h2⟩ := Option.map_eq_some_iff.1 infoT'
  simp only [Prod.mk.injEq] at h2
  refine wpList_append_lies (P := Tryz.prog) w hgd s x 75 ho B 184 i _ 2 16 Tryz.underlying75 hi h2.1 h2.2.1 h2.2.2 rfl (by omega) v l.length (flatT l) hs hv ⟨N, 0, none⟩ 1 1 (cells2 q) hx rfl (World.news_of_block hN) (fun u hu => by simp only [cells2, List.mem_cons, List.not_mem_nil, or_false] at hu; rcases hu with rfl | rfl <;> rfl) (by omega) (by unfold maxLen; omega) (by omega) hB _ rfl ?_
  intro g c w' h1 h3 _ _
  refine h g c w' ?_ h3
  have e : flatT (l ++ [q]) = flatT l ++ cells2 q := by simp [flatT]
  unfold TO
  rw [e, List.length_append]
  exact h1
end

set_option maxRecDepth 20000 in
set_option maxHeartbeats 1000000 in
/-- impl.readOwn -/
theorem ownWI (eb B : Nat) (wd : List UInt8) (k n : Int) (m : ByteArray) (kv tv : Value) (ts : List T) (w : World) (hs : wd.length ≤ 1000000) (he : Text.Env w) (hbx : Boxes.At w eb [.int .i64 k, .int .i64 n, .string m, kv, tv]) (hT : TO w B tv ts) (hl : ts.length ≤ 1000000) (heB : eb < B) (hB : B ≤ w.heap.size) :
    Calls Tryz.prog 123 #[.pointer (some ⟨eb, 0, none⟩), .string (bytesOf wd)] w fun x w' => x = .returned (.tuple #[]) ∧ ∃ n' tv' ts', OwnI wd n ts n' ts' ∧ Boxes.At w' eb [.int .i64 k, .int .i64 n', .string m, kv, tv'] ∧ TO w' B tv' ts' ∧ KeepB eb B w w' := by
  have hl' : (bytesOf wd).size = wd.length := bsize wd
  have hd : (bytesOf wd).data.toList = wd := by simp [bytesOf]
  obtain ⟨mx, hmx⟩ := he.2.1
  have hcut := Tryz.strings_Cut (bytesOf wd) ⟨#[58]⟩ mx w (by omega) hmx
  rw [hd] at hcut
  have e58 : (⟨#[58]⟩ : ByteArray).data.toList = [58] := rfl
  rw [e58] at hcut
  have hlen := cut_len2 58 wd
  have HO : Hid (∀ n' ts', (((Lib.cut wd [58]).2.2 = false ∧ valI (Lib.cut wd [58]).1 n' ∧ ts' = ts) ∨ ((Lib.cut wd [58]).2.2 = true ∧ n' = n ∧ ∃ a b, valI (Lib.cut wd [58]).1 a ∧ valI (Lib.cut wd [58]).2.1 b ∧ ts' = ts ++ [(a, b)])) → OwnI wd n ts n' ts') := hide (fun n' ts' h => h)
  generalize (Lib.cut wd [58]).1 = W1 at *
  generalize (Lib.cut wd [58]).2.1 = W2 at *
  generalize (Lib.cut wd [58]).2.2 = fnd at *
  have HC := hide hcut
  have HE := hide he
  have HBX := hide hbx
  have HT := hide hT
  have hebw : eb < w.heap.size := by omega
  obtain ⟨ta, tc, htf⟩ := hT.form
  clear hcut he hbx hT e58 hmx
  go_enter Tryz.func123, Tryz.ntmps123
  go_wp2_with (fail)
  refine (unhide HC).mono ?_
  rintro x w1 ⟨rfl, nd, rfl⟩
  have B1 : Hid (Below w.heap.size w (w.drewN nd)) := hide (Text.below_drew nd)
  generalize w.drewN nd = w1 at *
  go_wp2_with (fail)
  refine (atoiC ⟨W1.toArray⟩ w1 (by simp [ByteArray.size]; omega) ((unhide HE).kept (unhide B1))).mono ?_
  rintro x w2 ⟨a1, er, rfl, hA1, hb2⟩
  have HV1 : Hid (valI W1 a1) := hide (fun k' hk' => by
    rcases hA1 with ⟨h, _⟩ | ⟨h, _⟩
    · have h' : Lib.atoiAll W1 = .ok a1 := by simpa using h
      rw [h'] at hk'; cases hk'; rfl
    · exact absurd hk' (by simpa using h k'))
  have B2 := hide (below_trans (unhide B1) hb2)
  clear hA1 hb2
  cases fnd
  · have hb := (unhide HBX).below (unhide B2) hebw
    obtain ⟨c1, f1⟩ := hb 1 _ rfl
    have HB2 := hide hb
    clear hb
    go_wp2_with (fail)
    refine bodyPost_ret (v := .tuple #[]) (by simp [results, Tryz.results123, go_sem]) rfl ?_
    exact ⟨rfl, a1, tv, ts, unhide HO _ _ (.inl ⟨by trivial, unhide HV1, rfl⟩), (unhide HB2).set 1 _, ((unhide HT).kept (r := none) ⟨(unhide B2).os, (unhide B2).tape, (unhide B2).output, (unhide B2).size, fun j hj _ => (unhide B2).block j hj⟩ (fun q hq => by cases hq)).kept (r := some eb) (Evs.growS _ _ _ _) (fun q hq => by cases hq; omega), (KeepB.below (unhide B2)).trans (KeepB.set _ _ _)⟩
  · go_wp2_with (fail)
    refine (atoiC ⟨W2.toArray⟩ w2 (by simp [ByteArray.size]; omega) ((unhide HE).kept (unhide B2))).mono ?_
    rintro x w3 ⟨a2, er2, rfl, hA2, hb3⟩
    have HV2 : Hid (valI W2 a2) := hide (fun k' hk' => by
      rcases hA2 with ⟨h, _⟩ | ⟨h, _⟩
      · have h' : Lib.atoiAll W2 = .ok a2 := by simpa using h
        rw [h'] at hk'; cases hk'; rfl
      · exact absurd hk' (by simpa using h k'))
    have B3 := hide (below_trans (unhide B2) hb3)
    clear hA2 hb3
    have hb := (unhide HBX).below (unhide B3) hebw
    obtain ⟨c4, f4⟩ := hb 4 _ rfl
    have HB3 := hide hb
    have HT3 := hide ((unhide HT).kept (r := none) ⟨(unhide B3).os, (unhide B3).tape, (unhide B3).output, (unhide B3).size, fun j hj _ => (unhide B3).block j hj⟩ (fun q hq => by cases hq))
    clear hb
    have HN3 : Hid ((w3.alloc (.cells #[.int .i64 a1, .int .i64 a2] 184)).heap[w3.heap.size]? = some (.cells (cells2 (a1, a2)).toArray 184 (0, 0))) := hide (MapKept.heap_alloc _ _).1
    have HT4 := hide ((unhide HT3).kept (r := none) (Evs.growB (below_alloc w3 (.cells #[.int .i64 a1, .int .i64 a2] 184)) none) (fun q hq => by cases hq))
    have hz3 := (unhide B3).size
    have HG : Hid (∀ W4, (w3.alloc (.cells #[.int .i64 a1, .int .i64 a2] 184)).grownBy W4 tv.ownBlock → KeepB eb B w W4 ∧ W4.heap[eb]? = w3.heap[eb]?) := hide (fun W4 hg => by
      have hq : ∀ q, tv.ownBlock = some q → B ≤ q := fun q hq => ((unhide HT4).blk q hq).1
      refine ⟨((KeepB.below (unhide B3)).trans (KeepB.below (below_alloc _ _))).trans (KeepB.grown hg hq), ?_⟩
      rw [hg.block eb (by simp; omega) (fun e => by have := hq eb e.symm; omega)]
      exact Below.heap_alloc _ _ _ (by omega))
    rw [htf] at c4 HT4 HG
    go_wp2_with (first | (at_builtin; refine listAppT _ rfl _ _ rfl B w3.heap.size ts.length _ ts (a1, a2) rfl rfl (unhide HT4) rfl (unhide HN3) hl (by simp; omega) ?_; intro g c w4 h1 h2; obtain ⟨kb4, e4⟩ := unhide HG w4 h2; have T4 := hide h1; have KB4 := hide kb4; have hA4 := (unhide HB3).kept e4; have HA4 := hide hA4; obtain ⟨d4, g4⟩ := hA4 4 _ rfl; clear h1 h2 kb4 e4 hA4) | fail)
    go_end0
    exact ⟨rfl, n, _, ts ++ [(a1, a2)], unhide HO _ _ (.inr ⟨by trivial, rfl, a1, a2, unhide HV1, unhide HV2, rfl⟩), (unhide HA4).set 4 _, by
      have := (unhide T4).kept (r := some eb) (Evs.growS w4 eb 4 (.slice (some ⟨g, 0, none⟩) (ts.length + 1) c)) (fun q hq => by cases hq; omega)
      exact this, (unhide KB4).trans (KeepB.set _ _ _)⟩
end Go.Proofs.YtnchgeiinkaefaaGreatDoor.Rule
end

section
/-
  The laws' own marks on steps: markRuleTierS, heldRuleTierS.
-/
namespace Go.Proofs.YtnchgeiinkaefaaGreatDoor.Rule
set_option linter.unusedVariables false
open Go.RowKit
open Tiers (T T0 TR hide unhide below_trans)

/-- what lies outside of the blocks from lo on and below hi is as it was -/
structure Out (lo hi : Nat) (w w' : World) : Prop where
  os : w'.os = w.os
  tape : w'.tape = w.tape
  output : w'.output = w.output
  size : w.heap.size ≤ w'.heap.size
  block : ∀ j, j < w.heap.size → ¬ (lo ≤ j ∧ j < hi) → w'.heap[j]? = w.heap[j]?
theorem Out.refl (lo hi : Nat) (w : World) : Out lo hi w w := ⟨rfl, rfl, rfl, Nat.le_refl _, fun _ _ _ => rfl⟩
theorem Out.trans {lo hi : Nat} {a b c : World} (h : Out lo hi a b) (k : Out lo hi b c) : Out lo hi a c :=
  ⟨k.os.trans h.os, k.tape.trans h.tape, k.output.trans h.output, Nat.le_trans h.size k.size, fun j hj hn => (k.block j (Nat.lt_of_lt_of_le hj h.size) hn).trans (h.block j hj hn)⟩
theorem Out.mono {lo hi lo' hi' : Nat} {a b : World} (h : Out lo hi a b) (h1 : lo' ≤ lo) (h2 : hi ≤ hi') : Out lo' hi' a b :=
  ⟨h.os, h.tape, h.output, h.size, fun j hj hn => h.block j hj (by omega)⟩
theorem Out.set {lo hi : Nat} (w : World) (b o : Nat) (u : Value) (h1 : lo ≤ b) (h2 : b < hi) : Out lo hi w (w.setCell ⟨b, o, none⟩ u) := by
  refine ⟨rfl, rfl, rfl, by simp, fun j hj hn => ?_⟩
  exact Below.heap_setCell w ⟨b, o, none⟩ u j (fun e => hn (by simp at e; omega))
theorem Out.below {lo hi : Nat} {a b : World} (h : Below a.heap.size a b) : Out lo hi a b := ⟨h.os, h.tape, h.output, h.size, fun j hj _ => h.block j hj⟩
theorem Out.same {lo hi s e : Nat} {a b : World} (h : Out lo hi a b) (hd : e ≤ lo ∨ hi ≤ s) (he : e ≤ a.heap.size) : Same s e a b := fun j j1 j2 => h.block j (by omega) (by omega)
theorem Out.toBelow {lo hi : Nat} {a b : World} (h : Out lo hi a b) {B : Nat} (hB : B ≤ lo) (hs : B ≤ a.heap.size) : Below B a b := ⟨h.os, h.tape, h.output, h.size, fun j hj => h.block j (by omega) (by omega)⟩

/-- a row of steps in a block -/
def RowT (W : World) (b : Nat) (l : List T) : Prop := (∀ i, i < l.length → W.cell? ⟨b, i * 2, none⟩ = some (.int .i64 (l.getD i T0).1) ∧ W.cell? ⟨b, i * 2 + 1, none⟩ = some (.int .i64 (l.getD i T0).2)) ∧ ∀ j, W.frozen? ⟨b, j, none⟩ = false
theorem RowT.setA {W : World} {b : Nat} {l : List T} (h : RowT W b l) {k : Nat} (hk : k < l.length) (q : Int) : RowT (W.setCell ⟨b, k * 2, none⟩ (.int .i64 q)) b (l.set k (q, (l.getD k T0).2)) := by
  refine ⟨fun i hi => ?_, fun j => by simpa [World.frozen?_setCell] using h.2 j⟩
  have hi' : i < l.length := by simpa using hi
  obtain ⟨c0, c1⟩ := h.1 i hi'
  have d1 : (⟨b, k * 2, none⟩ : Addr) ≠ ⟨b, i * 2 + 1, none⟩ := fun he => by simp only [Addr.mk.injEq, and_true, true_and] at he; omega
  by_cases e : i = k
  · subst e
    rw [List.getD_eq_getElem?_getD, List.getElem?_set_self hi']
    exact ⟨World.cell?_setCell_same _ _ _ c0, by rw [World.cell?_setCell_other _ _ _ _ d1]; exact c1⟩
  · have d0 : (⟨b, k * 2, none⟩ : Addr) ≠ ⟨b, i * 2, none⟩ := fun he => by simp only [Addr.mk.injEq, and_true, true_and] at he; omega
    rw [World.cell?_setCell_other _ _ _ _ d0, World.cell?_setCell_other _ _ _ _ d1, c0, c1, List.getD_eq_getElem?_getD, List.getD_eq_getElem?_getD, List.getElem?_set_ne (by omega)]
    exact ⟨rfl, rfl⟩
theorem RowT.setB {W : World} {b : Nat} {l : List T} (h : RowT W b l) {k : Nat} (hk : k < l.length) (q : Int) : RowT (W.setCell ⟨b, k * 2 + 1, none⟩ (.int .i64 q)) b (l.set k ((l.getD k T0).1, q)) := by
  refine ⟨fun i hi => ?_, fun j => by simpa [World.frozen?_setCell] using h.2 j⟩
  have hi' : i < l.length := by simpa using hi
  obtain ⟨c0, c1⟩ := h.1 i hi'
  have d0 : (⟨b, k * 2 + 1, none⟩ : Addr) ≠ ⟨b, i * 2, none⟩ := fun he => by simp only [Addr.mk.injEq, and_true, true_and] at he; omega
  by_cases e : i = k
  · subst e
    rw [List.getD_eq_getElem?_getD, List.getElem?_set_self hi']
    exact ⟨by rw [World.cell?_setCell_other _ _ _ _ d0]; exact c0, World.cell?_setCell_same _ _ _ c1⟩
  · have d1 : (⟨b, k * 2 + 1, none⟩ : Addr) ≠ ⟨b, i * 2 + 1, none⟩ := fun he => by simp only [Addr.mk.injEq, and_true, true_and] at he; omega
    rw [World.cell?_setCell_other _ _ _ _ d0, World.cell?_setCell_other _ _ _ _ d1, c0, c1, List.getD_eq_getElem?_getD, List.getD_eq_getElem?_getD, List.getElem?_set_ne (by omega)]
    exact ⟨rfl, rfl⟩
end Go.Proofs.YtnchgeiinkaefaaGreatDoor.Rule
end

section
/-
  The laws' own marks on expressions: markRuleExprS, heldRuleExprS.
-/
namespace Go.Proofs.YtnchgeiinkaefaaGreatDoor.Rule
set_option linter.unusedVariables false
open Go.RowKit RegIn
open Tiers (T T0 TR hide unhide below_trans)

theorem RowX.set {W : World} {b : Nat} {xs : List X} {j c : Nat} {u : Value} {x x' : X} (h : RowX W b xs) (hx : xs[j]? = some x) (hc : c < 5) (hu : (cells5 x')[c]? = some u) (h' : ∀ i, i ≠ c → (cells5 x')[i]? = (cells5 x)[i]?) :
    RowX (W.setCell ⟨b, j * 5 + c, none⟩ u) b (xs.set j x') := by
  refine ⟨fun i y hy i5 v hv => ?_, fun q => by simpa [World.frozen?_setCell] using h.2 q⟩
  have h5 : ∀ (z : X) (v : Value), (cells5 z)[i5]? = some v → i5 < 5 := fun z v hv => by
    have := (List.getElem?_eq_some_iff.1 hv).1
    simpa [cells5] using this
  have hi5 := h5 y v hv
  obtain ⟨c0, hc0⟩ : ∃ z, (cells5 x)[c]? = some z := ⟨_, List.getElem?_eq_getElem (by simpa [cells5] using hc)⟩
  by_cases e : i = j
  · subst e
    have hlt : i < xs.length := (List.getElem?_eq_some_iff.1 hx).1
    rw [List.getElem?_set_self hlt] at hy
    obtain rfl : x' = y := by simpa using hy
    by_cases e2 : i5 = c
    · subst e2
      rw [hu] at hv
      obtain rfl : u = v := by simpa using hv
      exact World.cell?_setCell_same _ _ _ (h.1 i x hx i5 c0 hc0)
    · rw [h' i5 e2] at hv
      rw [World.cell?_setCell_other _ _ _ _ (fun he => by simp only [Addr.mk.injEq, and_true, true_and] at he; omega)]
      exact h.1 i x hx i5 v hv
  · rw [List.getElem?_set_ne (by omega)] at hy
    rw [World.cell?_setCell_other _ _ _ _ (fun he => by simp only [Addr.mk.injEq, and_true, true_and] at he; omega)]
    exact h.1 i y hy i5 v hv
theorem RowX.as {W : World} {b : Nat} {xs : List X} {j : Nat} {x x' : X} (h : RowX W b xs) (hx : xs[j]? = some x) (h' : cells5 x' = cells5 x) : RowX W b (xs.set j x') := by
  refine ⟨fun i y hy i5 v hv => ?_, h.2⟩
  by_cases e : i = j
  · subst e
    have hlt : i < xs.length := (List.getElem?_eq_some_iff.1 hx).1
    rw [List.getElem?_set_self hlt] at hy
    obtain rfl : x' = y := by simpa using hy
    rw [h'] at hv
    exact h.1 i x hx i5 v hv
  · rw [List.getElem?_set_ne (by omega)] at hy
    exact h.1 i y hy i5 v hv
theorem set_at {ys zs : List X} {x x' : X} : (ys ++ x :: zs).set ys.length x' = ys ++ x' :: zs := by
  rw [List.set_append_right _ _ (Nat.le_refl _), Nat.sub_self, List.set_cons_zero]
theorem get_at {ys zs : List X} {x : X} : (ys ++ x :: zs)[ys.length]? = some x := by simp

end Go.Proofs.YtnchgeiinkaefaaGreatDoor.Rule
end

section
/-
  Kids that are read one by one into a row that was made for them.
-/
namespace Go.Proofs.YtnchgeiinkaefaaGreatDoor.Rule
set_option linter.unusedVariables false
open Go.RowKit
open Tiers (T T0 TR hide unhide below_trans)
open Kinds hiding hide unhide below_trans ext_toList

/-- a kid that was not read yet -/
def Z0 : X := (E0, .slice none 0 0, .slice none 0 0)
theorem RowX.made (w : World) (n : Nat) (t : TypeId) : RowX (w.alloc (.cells (madeCells zero5 (n * 5)) t)) w.heap.size (List.replicate n Z0) := by
  have e1 := (MapKept.heap_alloc w (.cells (madeCells zero5 (n * 5)) t)).1
  refine ⟨fun i x hx j u hu => ?_, fun j => ?_⟩
  · have hi : i < n := by
      have := (List.getElem?_eq_some_iff.1 hx).1
      simpa using this
    obtain rfl : Z0 = x := by
      have := (List.getElem?_eq_some_iff.1 hx).2
      simpa using this
    simp only [World.cell?]
    rw [e1]
    match j, hu with
    | 0, hu =>
      obtain rfl : Value.int .i64 0 = u := by simpa [cells5, Z0, E0, Ex.kind, Ex.num, Ex.meter] using hu
      have m0 : (i * 5) % 5 = 0 := by omega
      have l0 : i * 5 < n * 5 := by omega
      simp [madeCells, zero5, l0, m0]
    | 1, hu =>
      obtain rfl : Value.int .i64 0 = u := by simpa [cells5, Z0, E0, Ex.kind, Ex.num, Ex.meter] using hu
      have m0 : (i * 5 + 1) % 5 = 1 := by omega
      have l0 : i * 5 + 1 < n * 5 := by omega
      simp [madeCells, zero5, l0, m0]
    | 2, hu =>
      obtain rfl : Value.string ByteArray.empty = u := by simpa [cells5, Z0, E0, Ex.kind, Ex.num, Ex.meter] using hu
      have m0 : (i * 5 + 2) % 5 = 2 := by omega
      have l0 : i * 5 + 2 < n * 5 := by omega
      simp [madeCells, zero5, l0, m0]
    | 3, hu =>
      obtain rfl : Value.slice none 0 0 = u := by simpa [cells5, Z0, E0, Ex.kind, Ex.num, Ex.meter] using hu
      have m0 : (i * 5 + 3) % 5 = 3 := by omega
      have l0 : i * 5 + 3 < n * 5 := by omega
      simp [madeCells, zero5, l0, m0]
    | 4, hu =>
      obtain rfl : Value.slice none 0 0 = u := by simpa [cells5, Z0, E0, Ex.kind, Ex.num, Ex.meter] using hu
      have m0 : (i * 5 + 4) % 5 = 4 := by omega
      have l0 : i * 5 + 4 < n * 5 := by omega
      simp [madeCells, zero5, l0, m0]
    | j + 5, hu => simp [cells5] at hu
  · simp only [World.frozen?]
    rw [e1]; simp
/-- the world with a kid laid at place j -/
def put5W (W : World) (b j : Nat) (x : X) : World :=
  ((((W.setCell ⟨b, j * 5, none⟩ (.int .i64 x.1.kind)).setCell ⟨b, j * 5 + 1, none⟩ (.int .i64 x.1.num)).setCell ⟨b, j * 5 + 2, none⟩ (.string x.1.meter)).setCell ⟨b, j * 5 + 3, none⟩ x.2.1).setCell ⟨b, j * 5 + 4, none⟩ x.2.2
theorem RowX.put5 {W : World} {b : Nat} {ys zs : List X} {x x' : X} (h : RowX W b (ys ++ x :: zs)) : RowX (put5W W b ys.length x') b (ys ++ x' :: zs) := by
  have r1 := h.set (x' := (.mk x'.1.kind x.1.num x.1.meter x.1.kids x.1.tiers, x.2.1, x.2.2)) (c := 0) (u := .int .i64 x'.1.kind) get_at (by omega) rfl (fun i hi => by match i, hi with | 0, h => exact absurd rfl h | 1, _ => rfl | 2, _ => rfl | 3, _ => rfl | 4, _ => rfl | i + 5, _ => rfl)
  rw [set_at, Nat.add_zero] at r1
  have r2 := r1.set (x' := (.mk x'.1.kind x'.1.num x.1.meter x.1.kids x.1.tiers, x.2.1, x.2.2)) (c := 1) (u := .int .i64 x'.1.num) get_at (by omega) rfl (fun i hi => by match i, hi with | 0, _ => rfl | 1, h => exact absurd rfl h | 2, _ => rfl | 3, _ => rfl | 4, _ => rfl | i + 5, _ => rfl)
  rw [set_at] at r2
  have r3 := r2.set (x' := (.mk x'.1.kind x'.1.num x'.1.meter x.1.kids x.1.tiers, x.2.1, x.2.2)) (c := 2) (u := .string x'.1.meter) get_at (by omega) rfl (fun i hi => by match i, hi with | 0, _ => rfl | 1, _ => rfl | 2, h => exact absurd rfl h | 3, _ => rfl | 4, _ => rfl | i + 5, _ => rfl)
  rw [set_at] at r3
  have r4 := r3.set (x' := (.mk x'.1.kind x'.1.num x'.1.meter x.1.kids x.1.tiers, x'.2.1, x.2.2)) (c := 3) (u := x'.2.1) get_at (by omega) rfl (fun i hi => by match i, hi with | 0, _ => rfl | 1, _ => rfl | 2, _ => rfl | 3, h => exact absurd rfl h | 4, _ => rfl | i + 5, _ => rfl)
  rw [set_at] at r4
  have r5 := r4.set (x' := x') (c := 4) (u := x'.2.2) get_at (by omega) rfl (fun i hi => by match i, hi with | 0, _ => rfl | 1, _ => rfl | 2, _ => rfl | 3, _ => rfl | 4, h => exact absurd rfl h | i + 5, _ => rfl)
  rw [set_at] at r5
  exact r5
theorem put5W_other (W : World) (b j : Nat) (x : X) (c : Nat) (h : c ≠ b) : (put5W W b j x).heap[c]? = W.heap[c]? := by
  have k : ∀ (V : World) (o : Nat) (u : Value), (V.setCell ⟨b, o, none⟩ u).heap[c]? = V.heap[c]? := fun V o u => Below.heap_setCell V ⟨b, o, none⟩ u c (by simpa using h)
  unfold put5W
  rw [k, k, k, k, k]
theorem put5W_size (W : World) (b j : Nat) (x : X) : (put5W W b j x).heap.size = W.heap.size := by simp [put5W]
theorem put5W_below {B : Nat} {w W : World} {b j : Nat} {x : X} (h : Below B w W) (hB : B ≤ b) : Below B w (put5W W b j x) :=
  ((((h.setCell (p := ⟨b, j * 5, none⟩) hB _).setCell (p := ⟨b, j * 5 + 1, none⟩) hB _).setCell (p := ⟨b, j * 5 + 2, none⟩) hB _).setCell (p := ⟨b, j * 5 + 3, none⟩) hB _).setCell (p := ⟨b, j * 5 + 4, none⟩) hB _

/-- kids under way: the boxes rb (the result) and eb (the expression), the row kb -/
structure RdK (w wr : World) (n rb eb kb nk : Nat) (k : Int) (r1 : List UInt8) (j : Nat) (xs : List X) (r : List UInt8) : Prop where
  len : xs.length = j ∧ j ≤ nk
  row : RowX wr kb (xs ++ List.replicate (nk - j) Z0)
  chain : Chain (OX wr n) (kb + 1) wr.heap.size xs
  ebox : Boxes.At wr eb [.int .i64 k, .int .i64 0, .string ⟨#[]⟩, .slice (some ⟨kb, 0, none⟩) nk nk, .slice none 0 0]
  rbox : Boxes.At wr rb [.int .i64 0, .int .i64 0, .string ⟨#[]⟩, .slice none 0 0, .slice none 0 0]
  kids : KidsOf (ReadsI n) r1 (xs.map (·.1)) r
  env : EnvR wr
  below : Below w.heap.size w wr
  blocks : rb < eb ∧ eb < kb ∧ kb < wr.heap.size ∧ w.heap.size ≤ rb
theorem RdK.rest {w wr : World} {n rb eb kb nk : Nat} {k : Int} {r1 : List UInt8} {j : Nat} {xs : List X} {r : List UInt8} (h : RdK w wr n rb eb kb nk k r1 j xs r) (h3 : nk ≤ 3) : r.length ≤ r1.length := by
  have := kids_len (fun t e r => reads_wt n t e r) h.kids
  have hl := h.len
  simp at this
  omega
/-- one kid more -/
theorem RdK.step {w wr w' : World} {n rb eb kb nk : Nat} {k : Int} {r1 : List UInt8} {j : Nat} {xs : List X} {r r' : List UInt8} {x : X} (h : RdK w wr n rb eb kb nk k r1 j xs r) (hj : j < nk) (hb : Below wr.heap.size wr w') (hx : OX w' n wr.heap.size w'.heap.size x) (hr : ReadsI n (trimSp r) x.1 r') (hE : EnvR (put5W w' kb j x)) :
    RdK w (put5W w' kb j x) n rb eb kb nk k r1 (j + 1) (xs ++ [x]) r' := by
  obtain ⟨⟨l1, l2⟩, hrow, hch, he, hrb, hk, hv, hbl, b1, b2, b3, b4⟩ := h
  have hz := hb.size
  have hs : ∀ s e, kb < s → e ≤ w'.heap.size → Same s e w' (put5W w' kb j x) := fun s e hs _ c c1 _ => put5W_other _ _ _ _ _ (by omega)
  refine ⟨⟨by simp [l1], by omega⟩, ?_, ?_, he.kept ((put5W_other _ _ _ _ _ (by omega)).trans (hb.block eb (by omega))), hrb.kept ((put5W_other _ _ _ _ _ (by omega)).trans (hb.block rb (by omega))), ?_, hE, put5W_below (below_trans hbl hb) (by omega), b1, b2, by rw [put5W_size]; omega, b4⟩
  · have e : List.replicate (nk - j) Z0 = Z0 :: List.replicate (nk - (j + 1)) Z0 := by
      rw [← List.replicate_succ]; congr 1; omega
    have h1 := hrow.kept (hb.block kb (by omega))
    rw [e] at h1
    have h2 := h1.put5 (x' := x)
    rw [l1] at h2
    simpa using h2
  · rw [put5W_size]
    refine Chain.append (m := wr.heap.size) (hch.imp (lo := kb + 1) (hi := wr.heap.size) (fun s e y hs1 he1 hy => hy.kept (same_trans (same_below hb he1) (hs s e (by omega) (by omega)))) (Nat.le_refl _) (Nat.le_refl _)) ⟨w'.heap.size, hz, Nat.le_refl _, hx.kept (hs _ _ b3 (Nat.le_refl _)), Nat.le_refl _⟩ (fun s s' e y hs hy => hy.mono hs (Nat.le_refl _))
  · rw [List.map_append]
    exact hk.snoc hr
end Go.Proofs.YtnchgeiinkaefaaGreatDoor.Rule
end

section
/-
  DERIVED: THE SHELF's CONTRACTS AT THIS DUMP, IN PLAIN WORDS (tools/lay-plain.mjs out of 'YtnchgeiinkaefaaGreatDoorShelfT.lean', which tools/lay-shelf.mjs wrote): THE SAME DECLARATIONS UNDER THE SAME NAMES: 'import', 'namespace', 'open', 'def', 'theorem' AND NOTHING ELSE: no command of the shelf's: FOR A HAND-IN. Each laying: the table of numbers ('.._ren') and one theorem, a field a fact of the dump's own or the kernel's comparison; each contract: ONE APPLICATION.
-/
namespace Go.Proofs
open Go.Shelf
def Tryz.lays156_ren : Go.Shelf.Ren := ⟨fun | 156 => 145 | 165 => 169 | 166 => 170 | 169 => 171 | 240 => 199 | 241 => 200 | 276 => 212 | 277 => 213 | n => n, fun | 31 => 158 | 9 => 9 | 3 => 3 | 4 => 4 | 0 => 0 | 20 => 20 | 72 => 261 | 76 => 218 | 70 => 259 | 37 => 97 | 75 => 62 | 127 => 292 | 164 => 130 | 5 => 5 | 80 => 144 | n => n, fun | n => n⟩
theorem Tryz.lays156 : Go.Proofs.Lays.n156 Tryz.prog Tryz.lays156_ren := {
  mixed := by kernel_rfl
  f156 := Tryz.func145.trans (congrArg some (by kernel_rfl))
  f165 := Tryz.func169.trans (congrArg some (by kernel_rfl))
  f166 := Tryz.func170.trans (congrArg some (by kernel_rfl))
  f169 := Tryz.func171.trans (congrArg some (by kernel_rfl))
  f240 := Tryz.func199.trans (congrArg some (by kernel_rfl))
  f241 := Tryz.func200.trans (congrArg some (by kernel_rfl))
  f276 := Tryz.func212.trans (congrArg some (by kernel_rfl))
  f277 := Tryz.func213.trans (congrArg some (by kernel_rfl))
  t0 := Tryz.underlying0
  a0 := Tryz.isAgg0
  z0 := Tryz.sizeOf0
  v0 := Tryz.zeroValue0
  t3 := Tryz.underlying3
  a3 := Tryz.isAgg3
  z3 := Tryz.sizeOf3
  v3 := Tryz.zeroValue3
  t4 := Tryz.underlying4
  a4 := Tryz.isAgg4
  z4 := Tryz.sizeOf4
  v4 := Tryz.zeroValue4
  t9 := Tryz.underlying9
  a9 := Tryz.isAgg9
  z9 := Tryz.sizeOf9
  v9 := Tryz.zeroValue9
  t20 := Tryz.underlying20
  a20 := Tryz.isAgg20
  z20 := Tryz.sizeOf20
  v20 := Tryz.zeroValue20
  t31 := Tryz.underlying158
  a31 := Tryz.isAgg158
  z31 := Tryz.sizeOf158
  v31 := Tryz.zeroValue158
  t37 := Tryz.underlying97
  a37 := Tryz.isAgg97
  z37 := Tryz.sizeOf97
  v37 := Tryz.zeroValue97
  t70 := Tryz.underlying259
  a70 := Tryz.isAgg259
  z70 := Tryz.sizeOf259
  v70 := Tryz.zeroValue259
  t72 := Tryz.underlying261
  a72 := Tryz.isAgg261
  z72 := Tryz.sizeOf261
  v72 := Tryz.zeroValue261
  t75 := Tryz.underlying62
  a75 := Tryz.isAgg62
  z75 := Tryz.sizeOf62
  v75 := Tryz.zeroValue62
  t76 := Tryz.underlying218
  a76 := Tryz.isAgg218
  z76 := Tryz.sizeOf218
  v76 := Tryz.zeroValue218
  t127 := Tryz.underlying292
  a127 := Tryz.isAgg292
  z127 := Tryz.sizeOf292
  v127 := Tryz.zeroValue292
  t164 := Tryz.underlying130
  a164 := Tryz.isAgg130
  z164 := Tryz.sizeOf130
  v164 := Tryz.zeroValue130 }
theorem Tryz.Builder_Extra_156 : Builder.Extra Tryz.prog Tryz.lays156_ren := {
  sizeBuilder := by kernel_rfl
  liesBuilder := by kernel_rfl
  t5 := Tryz.underlying5
  a5 := Tryz.isAgg5
  z5 := Tryz.sizeOf5
  v5 := Tryz.zeroValue5
  infoByte := by kernel_rfl
  cellsByte := by kernel_rfl
  sizeByte := by kernel_rfl
  neB5 := by decide }
open Go.RowKit in
/-- No element: the empty string; the world is as it was. (Whatever the slice's address and capacity: a nil slice too.) (LAID: no walk: one application.) -/
theorem Tryz.strings_Join_none (a : Option Addr) (c : Nat) (sep : ByteArray) (w : World) :
    Calls Tryz.prog 145 #[.slice a 0 c, .string sep] w fun e w' => e = .returned (.string ⟨#[]⟩) ∧ w' = w := Any.strings_Join_none Tryz.lays156 Tryz.Builder_Extra_156 a c sep w
open Go.RowKit in
/-- strings.Join: "Join concatenates the elements of its first argument to create a single string. The separator string sep is placed between elements in the resulting string.": HOWEVER MANY ELEMENTS. Below the heap's end the world is as it was. (LAID: no walk: one application.) -/
theorem Tryz.strings_Join (bk o c : Nat) (xs : List ByteArray) (sep : ByteArray) (w : World) (hcells : ∀ (j : Nat) x, xs[j]? = some x → w.cell? ⟨bk, o + j, none⟩ = some (.string x)) (hbk : bk < w.heap.size) (hN : xs.length ≤ 140737488355328) (hcap : xs.length ≤ c) (hlen : (Lib.join (xs.map (·.data.toList)) sep.data.toList).length ≤ 140737488355328) :
    Calls Tryz.prog 145 #[.slice (some ⟨bk, o, none⟩) xs.length c, .string sep] w fun e w' => e = .returned (.string ⟨(Lib.join (xs.map (·.data.toList)) sep.data.toList).toArray⟩) ∧ Below w.heap.size w w' := Any.strings_Join Tryz.lays156 Tryz.Builder_Extra_156 bk o c xs sep w hcells hbk hN hcap hlen
def Tryz.lays103_ren : Go.Shelf.Ren := ⟨fun | 103 => 116 | 210 => 133 | 206 => 159 | n => n, fun | 9 => 9 | 4 => 4 | 24 => 186 | 3 => 3 | n => n, fun | n => n⟩
theorem Tryz.lays103 : Go.Proofs.Lays.n103 Tryz.prog Tryz.lays103_ren := {
  mixed := by kernel_rfl
  f103 := Tryz.func116.trans (congrArg some (by kernel_rfl))
  f206 := Tryz.func159.trans (congrArg some (by kernel_rfl))
  f210 := Tryz.func133.trans (congrArg some (by kernel_rfl))
  t3 := Tryz.underlying3
  a3 := Tryz.isAgg3
  z3 := Tryz.sizeOf3
  v3 := Tryz.zeroValue3
  t4 := Tryz.underlying4
  a4 := Tryz.isAgg4
  z4 := Tryz.sizeOf4
  v4 := Tryz.zeroValue4
  t9 := Tryz.underlying9
  a9 := Tryz.isAgg9
  z9 := Tryz.sizeOf9
  v9 := Tryz.zeroValue9
  t24 := Tryz.underlying186
  a24 := Tryz.isAgg186
  z24 := Tryz.sizeOf186
  v24 := Tryz.zeroValue186 }
open Go.RowKit in
/-- strings.CutPrefix: "CutPrefix returns s without the provided leading prefix string and reports whether it found the prefix. If s doesn't start with prefix, CutPrefix returns s, false. If prefix is the empty string, CutPrefix returns s, true.": IT RETURNS '(Lib.trimPrefix s p, Lib.hasPrefix s p)'; the world is as it was. (LAID: no walk: one application.) -/
theorem Tryz.strings_CutPrefix (s p : ByteArray) (w : World) :
    Calls Tryz.prog 116 #[.string s, .string p] w fun e w' => e = .returned (.tuple #[.string ⟨(Lib.trimPrefix s.data.toList p.data.toList).toArray⟩, .bool (Lib.hasPrefix s.data.toList p.data.toList)]) ∧ w' = w := Any.strings_CutPrefix Tryz.lays103 s p w
def Tryz.lays101_ren : Go.Shelf.Ren := ⟨fun | 101 => 120 | 208 => 141 | 206 => 159 | n => n, fun | 9 => 9 | 4 => 4 | 3 => 3 | n => n, fun | n => n⟩
theorem Tryz.lays101 : Go.Proofs.Lays.n101 Tryz.prog Tryz.lays101_ren := {
  mixed := by kernel_rfl
  f101 := Tryz.func120.trans (congrArg some (by kernel_rfl))
  f206 := Tryz.func159.trans (congrArg some (by kernel_rfl))
  f208 := Tryz.func141.trans (congrArg some (by kernel_rfl))
  t3 := Tryz.underlying3
  a3 := Tryz.isAgg3
  z3 := Tryz.sizeOf3
  v3 := Tryz.zeroValue3
  t4 := Tryz.underlying4
  a4 := Tryz.isAgg4
  z4 := Tryz.sizeOf4
  v4 := Tryz.zeroValue4
  t9 := Tryz.underlying9
  a9 := Tryz.isAgg9
  z9 := Tryz.sizeOf9
  v9 := Tryz.zeroValue9 }
open Go.RowKit Go.Lib in
/-- strings.TrimPrefix: "TrimPrefix returns s without the provided leading prefix string. If s doesn't start with prefix, s is returned unchanged.": IT RETURNS 'Lib.trimPrefix s prefix'; the world is as it was. (LAID: no walk: one application.) -/
theorem Tryz.strings_TrimPrefix (s p : ByteArray) (w : World) :
    Calls Tryz.prog 120 #[.string s, .string p] w fun e w' => e = .returned (.string ⟨(Lib.trimPrefix s.data.toList p.data.toList).toArray⟩) ∧ w' = w := Any.strings_TrimPrefix Tryz.lays101 s p w
end Go.Proofs
end
