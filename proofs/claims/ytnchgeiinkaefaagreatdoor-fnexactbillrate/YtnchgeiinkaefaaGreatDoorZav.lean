/-
  Texts of this proof laid together, in build order; each says of itself what it holds.
-/
import Derived.Test.YtnchgeiinkaefaaGreatDoorZau
import Derived.Test.YtnchgeiinkaefaaGreatDoorZal
import Derived.Test.YtnchgeiinkaefaaGreatDoorZaf
import Derived.Test.YtnchgeiinkaefaaGreatDoorZag
import Derived.Test.YtnchgeiinkaefaaGreatDoorZah
import Derived.Test.YtnchgeiinkaefaaGreatDoorZaa
import Derived.Test.YtnchgeiinkaefaaGreatDoorZai
import Derived.Test.YtnchgeiinkaefaaGreatDoorZap
import Derived.Test.YtnchgeiinkaefaaGreatDoorProg
import Derived.Maps.Own
import Derived.Maps.OwnSet
import Derived.Sort.KeysCollected
import Derived.Maps.OwnOps
import Derived.Shelf.SlIter.Nil
import Derived.Shelf.SortM.Plain
import Derived.Shelf.SortM.SortNone
import Derived.Ground.GgzProg
import Derived.Ground.SlgmProg
section
/-
  placesByRate$1, walked.
-/
namespace Go.Proofs.YtnchgeiinkaefaaGreatDoor.Bill
set_option linter.unusedVariables false
open Go.RowKit Evs Go.Shelf
open Tax (plc plc_mem plc_lt plc_len rateF getD_map')
open Ints (Cells vals infoEx)
open RangeP (SeqP)

attribute [local go_sem] Oper.semAt_some

set_option maxRecDepth 100000 in
set_option maxHeartbeats 4000000 in
theorem pl1 (n : Nat) (hn : 1 ≤ n) (lp Bt B2 : Nat) (w0 : World) (ta : Option Addr) (tc : Nat) (t : List E) (hT : ER w0 (.slice ta t.length tc) t) (h6 : t.length ≤ 6)
    (h02 : w0.heap.size ≤ B2) (hBt2 : B2 ≤ Bt) (J Jx : Nat → World → Prop)
    (W : World) (hW0 : Below w0.heap.size w0 W) (hW2 : B2 ≤ W.heap.size) (hJa : AbidesFrom W.heap.size J)
    (hY : ∀ k args W1, J k W1 → PrP (rateF t) t.length B2 k args W1 → YieldAt Fence.wide (n - 1) Tryz.prog lp args W1 fun e W' =>
      (e = .returned (.bool true) ∧ J (k + 1) W' ∧ KpC w0.heap.size B2 W1 W') ∨ (e = .returned (.bool false) ∧ Jx (k + 1) W'))
    (hBt : W.cell? ⟨Bt, 0, none⟩ = some (.slice ta t.length tc)) (h0 : J 0 W) :
    CallsIn Fence.wide n Tryz.prog 67 #[.func (.yield lp) #[] #[], .pointer (some ⟨Bt, 0, none⟩)] W fun e W' => (∃ v, e = .returned v) ∧
      ((∃ k, k = (fsU (rateF t) t.length).length ∧ J k W') ∨ (∃ k, Jx k W')) := by
  have HJ := hide hJa
  have HY := hide hY
  have H0 := hide h0
  have HT := hide hT
  have HW0 := hide hW0
  have HBT := hide hBt
  have hz0 := hW0.size
  clear hJa hY h0 hT hW0
  refine callsIn_of_wp Tryz.func67 rfl trivial ?_ rfl
  simp only [Tryz.ntmps67, List.size_toArray, List.length_cons, List.length_nil, Nat.reduceAdd, Nat.reduceSub, Array.replicate_succ, Array.replicate_zero, List.push_toArray, List.append_toArray, List.nil_append, List.cons_append]
  gi_wp2
  gi_loopw [11] (fun iv wr => ∃ i : Nat, i ≤ t.length ∧ iv = .int .i64 i ∧ Hid (J (fsU (rateF t) i).length wr) ∧ Hid (KpC w0.heap.size B2 W wr)) (fun iv _ => t.length - (intOf iv).toNat)
  case atStart => exact ⟨0, Nat.zero_le _, rfl, H0, hide ⟨rfl, rfl, rfl, Nat.le_refl _, fun _ _ h _ => h⟩⟩
  case round =>
    obtain ⟨i, hi, rfl, hJs, hnx⟩ := hrel
    have hbw : Below w0.heap.size w0 wr := (unhide HW0).trans ((unhide hnx).below hz0)
    have HBW := hide hbw
    by_cases hlt : i < t.length
    · obtain ⟨b2, o2, cap2, hcf, hc⟩ : ∃ b2 o2 cap2, Value.slice ta t.length tc = .slice (some ⟨b2, o2, none⟩) t.length cap2 ∧ EC w0 b2 o2 t := by
        rcases unhide HT with ⟨h, _⟩ | h
        · rw [h] at hlt; simp at hlt
        · exact h
      simp only [Value.slice.injEq, true_and] at hcf
      obtain ⟨rfl, rfl⟩ := hcf
      have HC := hide hc
      obtain ⟨c0, c1, c2⟩ := (hc.kept hbw).2 i hlt
      have i1 : (0 : Int) ≤ (i : Int) := by omega
      have i2 : (i : Int) < (t.length : Int) := by omega
      have hBtc := (unhide hnx).cell (unhide HBT) (.inr hBt2)
      have hBtl := Rule.lt_of_cell hBtc
      have HWR2 : B2 ≤ wr.heap.size := Nat.le_trans hW2 (unhide hnx).size
      have HQ : Hid (rateF t i = (t.getD i E0).2.2) := hide rfl
      obtain ⟨WA, hWA⟩ : ∃ WA, WA = wr.alloc (.cells #[.string (t.getD i E0).1, .string (t.getD i E0).2.1, .int .i64 (t.getD i E0).2.2] 52) := ⟨_, rfl⟩
      have hbA : Below wr.heap.size wr WA := by rw [hWA]; exact Rule.below_alloc _ _
      have hAq : WA.cell? ⟨wr.heap.size, 2, none⟩ = some (.int .i64 (t.getD i E0).2.2) := by
        rw [hWA]; exact ((Boxes.At.new wr #[.string (t.getD i E0).1, .string (t.getD i E0).2.1, .int .i64 (t.getD i E0).2.2] 52) 2 _ rfl).1
      have hAs : WA.heap.size = wr.heap.size + 1 := by rw [hWA]; simp
      obtain ⟨LB, hLB⟩ : ∃ LB, LB = wr.heap.size := ⟨_, rfl⟩
      rw [← hLB] at hAq hAs
      have HLB := hide hLB
      clear hLB
      have hBtA := (hbA.cell (p := ⟨Bt, 0, none⟩) hBtl).trans hBtc
      have HWA := hide hWA
      have HBA := hide hbA
      have HAQ := hide hAq
      clear hc hbw hWA hbA hAq
      rw [← unhide HQ] at HAQ HWA
      have HRC : Hid (∀ W', Below w0.heap.size w0 W' → ∀ j, j < t.length → W'.cell? ⟨b2, o2 + j * 3, none⟩ = some (.string (t.getD j E0).1) ∧ W'.cell? ⟨b2, o2 + j * 3 + 1, none⟩ = some (.string (t.getD j E0).2.1) ∧ W'.cell? ⟨b2, o2 + j * 3 + 2, none⟩ = some (.int .i64 (rateF t j))) := hide (fun W' hW' j hj => ((unhide HC).kept hW').2 j hj)
      rw [← unhide HQ] at c2
      generalize (t.getD i E0).1 = s at *
      generalize (t.getD i E0).2.1 = m at *
      gi_wp2
      rw [← unhide HWA, ← unhide HLB]
      clear c0 c1 c2 hBtc
      have hBW0 : Below w0.heap.size w0 WA := (unhide HBW).trans ((unhide HBA).mono (unhide HBW).size)
      have HBW0 := hide hBW0
      have hz0A := hBW0.size
      clear hBW0
      gi_loopw [5, 18] (fun pv jv wr2 => ∃ (j : Nat) (pa : Option Addr) (pc : Nat), j ≤ t.length ∧ jv = .int .i64 j ∧ pv = .slice pa (plc (rateF t) (rateF t i) j).length pc ∧ Hid (OwnN wr2 WA.heap.size (.slice pa (plc (rateF t) (rateF t i) j).length pc) ((plc (rateF t) (rateF t i) j).map fun (x : Nat) => (x : Int))) ∧ Hid (Below WA.heap.size WA wr2)) (fun _ jv _ => t.length - (intOf jv).toNat)
      case atStart => exact ⟨0, none, 0, Nat.zero_le _, rfl, rfl, hide (OwnN.nil _ _), hide (Below.refl _ _)⟩
      case round =>
        obtain ⟨j, pa, pc, hj, rfl, rfl, hO, hB⟩ := hrel
        have hq := ((unhide hB).cell (p := ⟨LB, 2, none⟩) (by show LB < _; omega)).trans (unhide HAQ)
        have hBt3 := ((unhide hB).cell (p := ⟨Bt, 0, none⟩) (Rule.lt_of_cell hBtA)).trans hBtA
        have hzA := (unhide hB).size
        have hLBw : LB < wr.heap.size := by omega
        by_cases hjl : j < t.length
        · obtain ⟨c0, c1, c2⟩ := unhide HRC wr ((unhide HBW0).trans ((unhide hB).mono hz0A)) j hjl
          have j1 : (0 : Int) ≤ (j : Int) := by omega
          have j2 : (j : Int) < (t.length : Int) := by omega
          have HPS := hide (plc_succ (rateF t) (rateF t i) j)
          have hpl := plc_len (rateF t) (rateF t i) j
          by_cases he : rateF t j = rateF t i
          · rw [if_pos he] at HPS
            have HLN : Hid ((plc (rateF t) (rateF t i) (j + 1)).length = (plc (rateF t) (rateF t i) j).length + 1) := hide (by rw [unhide HPS]; simp)
            have HMP : Hid ((plc (rateF t) (rateF t i) (j + 1)).map (fun (x : Nat) => (x : Int)) = (plc (rateF t) (rateF t i) j).map (fun (x : Nat) => (x : Int)) ++ [(j : Int)]) := hide (by rw [unhide HPS]; simp)
            rw [he] at c2
            have hb1 := Rule.below_alloc wr (.cells #[.string (t.getD j E0).1, .string (t.getD j E0).2.1, .int .i64 (rateF t i)] 52)
            have hb2 := hb1.trans ((Rule.below_alloc _ (.cells #[.int .i64 j] 3)).mono hb1.size)
            have HO2 : Hid (OwnN ((wr.alloc (.cells #[.string (t.getD j E0).1, .string (t.getD j E0).2.1, .int .i64 (rateF t i)] 52)).alloc (.cells #[.int .i64 j] 3)) WA.heap.size (.slice pa (plc (rateF t) (rateF t i) j).length pc) ((plc (rateF t) (rateF t i) j).map fun (x : Nat) => (x : Int))) := hide ((unhide hO).kept (growB hb2 none))
            have HN2 : Hid (((wr.alloc (.cells #[.string (t.getD j E0).1, .string (t.getD j E0).2.1, .int .i64 (rateF t i)] 52)).alloc (.cells #[.int .i64 j] 3)).heap[wr.heap.size + 1]? = some (.cells #[.int .i64 j] 3 (0, 0))) := hide (by
              have := (MapKept.heap_alloc (wr.alloc (.cells #[.string (t.getD j E0).1, .string (t.getD j E0).2.1, .int .i64 (rateF t i)] 52)) (.cells #[.int .i64 j] 3)).1
              rwa [World.size_alloc] at this)
            have HB2 := hide ((unhide hB).trans (hb2.mono hzA))
            clear hb1 hb2 he
            generalize (t.getD j E0).1 = s2 at *
            generalize (t.getD j E0).2.1 = m2 at *
            generalize rateF t i = q at *
            have hml : ((plc (rateF t) q j).map fun (x : Nat) => (x : Int)).length = (plc (rateF t) q j).length := by simp
            gi_wp2_with (first | (gi_at_builtin; refine wpListIn_appN rfl _ _ rfl WA.heap.size (.slice pa (plc (rateF t) q j).length pc) ((plc (rateF t) q j).map fun (x : Nat) => (x : Int)) (j : Int) (wr.heap.size + 1) rfl (unhide HO2) rfl (unhide HN2) (by rw [hml]; omega) (by simp; omega) ?_; intro g5 c5 w5 ho5 hg5 hl5) | gi_in)
            have HO5 : Hid (OwnN w5 WA.heap.size (.slice (some ⟨g5, 0, none⟩) (plc (rateF t) q (j + 1)).length c5) ((plc (rateF t) q (j + 1)).map fun (x : Nat) => (x : Int))) := hide (by rw [unhide HMP, unhide HLN]; rw [hml] at ho5; exact ho5)
            have HB5 := hide ((unhide HB2).grown hg5 (unhide HB2).size (fun b hb => (World.ownsRow.lt (unhide HO2) b hb).1))
            clear ho5 hg5 hl5
            exact ⟨⟨j + 1, some ⟨g5, 0, none⟩, c5, by omega, by go_num, by rw [unhide HLN], HO5, HB5⟩, by simp [intOf]; omega⟩
          · rw [if_neg he, List.append_nil] at HPS
            have he2 : (rateF t j == rateF t i) = false := beq_eq_false_iff_ne.2 he
            have hb1 := fun o => Rule.below_alloc wr o
            have HO2 := fun o => hide ((unhide hO).kept (growB (hb1 o) none))
            have HB2 := fun o => hide ((unhide hB).trans ((hb1 o).mono hzA))
            clear hb1 he
            generalize (t.getD j E0).1 = s2 at *
            generalize (t.getD j E0).2.1 = m2 at *
            have HRJ : Hid (rateF t j = rateF t j) := hide rfl
            gi_wp2
            go_roundw
            case rel => exact ⟨j + 1, pa, pc, by omega, by go_num, by rw [unhide HPS], by rw [unhide HPS]; exact HO2 _, HB2 _⟩
            case measure => simp [intOf]; omega
        · obtain rfl : j = t.length := by omega
          have hpos : 0 < (plc (rateF t) (rateF t i) t.length).length := List.length_pos_of_mem (plc_mem.2 ⟨hlt, rfl⟩)
          have hml : ((plc (rateF t) (rateF t i) t.length).map fun (x : Nat) => (x : Int)).length = (plc (rateF t) (rateF t i) t.length).length := by simp
          obtain ⟨g, cap, hv, hbg, hgl⟩ := World.ownsRow.form (unhide hO) (by omega)
          simp only [hml, Value.slice.injEq, true_and] at hv
          obtain ⟨rfl, rfl⟩ := hv
          have hO' : OwnN wr WA.heap.size (.slice (some ⟨g, 0, none⟩) ((plc (rateF t) (rateF t i) t.length).map fun (x : Nat) => (x : Int)).length pc) ((plc (rateF t) (rateF t i) t.length).map fun (x : Nat) => (x : Int)) := by rw [hml]; exact unhide hO
          obtain ⟨hgB, hCl⟩ := hO'.cells
          have hc0 := (hCl.2 0 (by omega)).1
          rw [Nat.add_zero, getD_map' _ _ 0 0 hpos] at hc0
          have HCL := hide hCl
          have hB1 := (unhide HBA).trans ((unhide hB).mono (unhide HBA).size)
          have HJ1 := hide (unhide HJ _ _ wr none (unhide hJs) (growB hB1 none) (by simp))
          have HK1 := hide ((unhide hnx).trans (KpC.ofBelow hB1))
          have hgB2 : B2 ≤ g := by have := unhide HLB; omega
          clear hO hO' hCl hB1 hJs HRC
          cases hf : isF (rateF t) i with
          | true =>
            rw [(plc_head hlt).2 hf] at hc0
            have HSQ : Hid ((fsU (rateF t) (i + 1)).length = (fsU (rateF t) i).length + 1) := hide (by rw [fsU_succ, hf]; simp)
            obtain ⟨fn, tmps, assign, body, hy, hR⟩ := unhide HY (fsU (rateF t) i).length #[.int .i64 (rateF t i), .slice (some ⟨g, 0, none⟩) (plc (rateF t) (rateF t i) t.length).length pc] wr (unhide HJ1) ⟨i, g, pc, hlt, hf, rfl, rfl, unhide HCL, hgB2⟩
            have HR := hide hR
            clear hR hf
            generalize rateF t i = q at *
            gi_wp2
            refine (unhide HR).mono ?_
            rintro e3 W3 (⟨rfl, hJ3, hk3⟩ | ⟨rfl, hJx3⟩)
            · have HJ3 : Hid (J (fsU (rateF t) (i + 1)).length W3) := hide (by rw [unhide HSQ]; exact hJ3)
              have HK3 := hide ((unhide HK1).trans hk3)
              clear hJ3 hk3
              gi_wp2
              go_roundw
              case rel => exact ⟨i + 1, by omega, by go_num, HJ3, HK3⟩
              case measure => simp [intOf]; omega
            · have HJ3 := hide hJx3
              clear hJx3
              gi_wp2
              refine bodyPost_ret (results_none rfl _ _ _) rfl ?_
              exact ⟨⟨_, rfl⟩, .inr ⟨_, unhide HJ3⟩⟩
          | false =>
            have hne : ((((plc (rateF t) (rateF t i) t.length).getD 0 0 : Nat) : Int) == (i : Int)) = false := beq_eq_false_iff_ne.2 (fun h => by
              have := (plc_head (rate := rateF t) hlt).1 (by omega)
              rw [hf] at this; cases this)
            have HJ3 : Hid (J (fsU (rateF t) (i + 1)).length wr) := hide (by rw [fsU_succ, hf]; simpa using unhide HJ1)
            clear hf
            generalize (plc (rateF t) (rateF t i) t.length).getD 0 0 = x0 at *
            generalize rateF t i = q at *
            gi_wp2
            refine ⟨fun f h => (by cases h), ?_⟩
            gi_wp2
            go_roundw
            case rel => exact ⟨i + 1, by omega, by go_num, HJ3, HK1⟩
            case measure => simp [intOf]; omega
    · have hk2 : i = t.length := by omega
      subst hk2
      gi_wp2
      go_end0
      exact ⟨⟨_, rfl⟩, .inl ⟨_, rfl, unhide hJs⟩⟩

/-- what placesByRate hands out, as the loop over it wants it -/
theorem pl_stops (n : Nat) (hn : 1 ≤ n) (Bt B2 : Nat) (w0 : World) (ta : Option Addr) (tc : Nat) (t : List E) (hT : ER w0 (.slice ta t.length tc) t) (h6 : t.length ≤ 6)
    (h02 : w0.heap.size ≤ B2) (hBt2 : B2 ≤ Bt) (w : World) (hW0 : Below w0.heap.size w0 w) (hW2 : B2 ≤ w.heap.size) (hBts : Bt < w.heap.size) (hBt : w.cell? ⟨Bt, 0, none⟩ = some (.slice ta t.length tc)) :
    SeqP Fence.wide n Tryz.prog 67 #[.pointer (some ⟨Bt, 0, none⟩)] (PrP (rateF t) t.length B2) (KpC w0.heap.size B2) (fun k => k = (fsU (rateF t) t.length).length) w :=
  fun l J Jy W hW hJ _ hY h0 => pl1 n hn l Bt B2 w0 ta tc t hT h6 h02 hBt2 J Jy W (hW0.trans (hW.mono hW0.size)) (Nat.le_trans hW2 hW.size) hJ hY ((hW.cell (p := ⟨Bt, 0, none⟩) hBts).trans hBt) h0

theorem placesByRate (n : Nat) (v : Value) (hv : v.oneCell' = true) (w : World) :
    CallsIn Fence.wide n Tryz.prog 44 #[v] w fun e w' => e = .returned (.func (.func 67) #[] #[.pointer (some ⟨w.heap.size, 0, none⟩)]) ∧ w' = w.alloc (.cells #[v] 29) := by
  refine callsIn_of_wp Tryz.func44 rfl trivial ?_ rfl
  simp only [Tryz.ntmps44, List.size_toArray, List.length_cons, List.length_nil, Nat.reduceAdd, Nat.reduceSub, Array.replicate_succ, Array.replicate_zero, List.push_toArray, List.append_toArray, List.nil_append, List.cons_append]
  gi_wp2
  go_ret
  exact ⟨rfl, rfl⟩

theorem fsU_mem {rate : Nat → Int} {n j : Nat} (hj : j < n) : ∃ m, m ∈ fsU rate n ∧ rate m = rate j := by
  induction j using Nat.strongRecOn with
  | ind j ih =>
    cases h : isF rate j with
    | true => exact ⟨j, by simp [fsU, hj, h], rfl⟩
    | false =>
      unfold isF at h
      rw [List.all_eq_false] at h
      obtain ⟨m, hm, h2⟩ := h
      have hm' : m < j := by simpa using hm
      have h3 : rate m = rate j := by simpa using h2
      obtain ⟨m', a, b⟩ := ih m hm' (by omega)
      exact ⟨m', a, b.trans h3⟩
end Go.Proofs.YtnchgeiinkaefaaGreatDoor.Bill
end

section
/-
  Rows that are right: impl.rowRight, impl.rightInOrder at rows, impl.rowsRight.
-/
namespace Go.Proofs.YtnchgeiinkaefaaGreatDoor.Bill
set_option linter.unusedVariables false
open Go.RowKit RegIn
open Evs (hide unhide below_trans below_drewN' ltS)
open BRow (R R0 RR RC)
open Kinds (nameB nameI)

/-- the worlds of a round: the round's own row at B, the one ahead of it at p in block b -/
def SWR (w : World) (B b p : Nat) (s : ByteArray) (m q : Int) (t : ByteArray) (m' q' : Int) (w2 : World) : Prop :=
  w2.cell? ⟨B, 0, none⟩ = some (.string s) ∧ w2.cell? ⟨B, 1, none⟩ = some (.int .i64 m) ∧ w2.cell? ⟨B, 2, none⟩ = some (.int .i64 q) ∧ w2.cell? ⟨b, p, none⟩ = some (.string t) ∧ w2.cell? ⟨b, p + 1, none⟩ = some (.int .i64 m') ∧ w2.cell? ⟨b, p + 2, none⟩ = some (.int .i64 q') ∧ B < w2.heap.size ∧ b < w2.heap.size ∧ Below w.heap.size w w2
theorem SWR.kept {w : World} {B b p : Nat} {s : ByteArray} {m q : Int} {t : ByteArray} {m' q' : Int} {w2 w3 : World} (h : SWR w B b p s m q t m' q' w2) (hb : Below w2.heap.size w2 w3) : SWR w B b p s m q t m' q' w3 := by
  obtain ⟨a1, a2, a3, a4, a5, a6, a7, a8, a9⟩ := h
  exact ⟨(hb.cell (p := ⟨B, 0, none⟩) a7).trans a1, (hb.cell (p := ⟨B, 1, none⟩) a7).trans a2, (hb.cell (p := ⟨B, 2, none⟩) a7).trans a3, (hb.cell (p := ⟨b, p, none⟩) a8).trans a4, (hb.cell (p := ⟨b, p + 1, none⟩) a8).trans a5, (hb.cell (p := ⟨b, p + 2, none⟩) a8).trans a6, Nat.lt_of_lt_of_le a7 hb.size, Nat.lt_of_lt_of_le a8 hb.size, below_trans a9 hb⟩

end Go.Proofs.YtnchgeiinkaefaaGreatDoor.Bill
end

section
/-
  Invoices that are right: impl.rowSums, impl.invoiceRight.
-/
namespace Go.Proofs.YtnchgeiinkaefaaGreatDoor.Bill
set_option linter.unusedVariables false
open Go.RowKit RegIn
open Evs (hide unhide below_trans below_drewN' ltS E ER)
open BRow (R R0 RR RC)
open Bills (I I0 IW IR)

/-- the sums of rows -/
def netS (l : List R) : Int := (l.map (·.2.1)).sum
def taxS (l : List R) : Int := (l.map (·.2.2)).sum
theorem sum_take (f : R → Int) (l : List R) (k : Nat) (h : k < l.length) : ((l.take (k + 1)).map f).sum = ((l.take k).map f).sum + f (l.getD k R0) := by
  have e : l.take (k + 1) = l.take k ++ [l.getD k R0] := by rw [List.take_add_one, List.getElem?_eq_getElem h]; simp [List.getD, h]
  rw [e, List.map_append, List.sum_append]
  simp
theorem sum_bd (f : R → Int) (M : Int) : ∀ (l : List R), (∀ x ∈ l, 0 ≤ f x ∧ f x ≤ M) → 0 ≤ (l.map f).sum ∧ (l.map f).sum ≤ l.length * M
  | [], _ => by simp
  | x :: l, h => by
    have := h x (List.mem_cons_self ..)
    have ih := sum_bd f M l (fun y hy => h y (List.mem_cons_of_mem _ hy))
    simp only [List.map_cons, List.sum_cons, List.length_cons]
    have e : ((l.length + 1 : Nat) : Int) * M = l.length * M + M := by rw [Int.natCast_add, Int.add_mul]; simp
    rw [e]
    omega
end Go.Proofs.YtnchgeiinkaefaaGreatDoor.Bill
end

section
/-
  impl.rateRows: what the rows' taxes are between two rates; impl.rowSums on any rows in bounds.
-/
namespace Go.Proofs.YtnchgeiinkaefaaGreatDoor.Bill
set_option linter.unusedVariables false
open Go.RowKit Evs
open Tax
open BRow (R R0 RC RR ROwn RN)
open Coin (partV partB)
open Uses (U)

theorem fsU_mono (rate : Nat → Int) (i d : Nat) : (fsU rate i).length ≤ (fsU rate (i + d)).length := by
  induction d with
  | zero => exact Nat.le_refl _
  | succ d ih => rw [← Nat.add_assoc, fsU_succ, List.length_append]; omega
theorem isF_no {rate : Nat → Int} {i : Nat} (h : isF rate i = false) : ∃ f, f < i ∧ rate f = rate i := by
  unfold isF at h
  rw [List.all_eq_false] at h
  obtain ⟨m, hm, h2⟩ := h
  exact ⟨m, by simpa using hm, by simpa using h2⟩
theorem isF_yes {rate : Nat → Int} {i : Nat} (h : isF rate i = true) : ∀ m, m < i → rate m ≠ rate i := by
  intro m hm
  unfold isF at h
  rw [List.all_eq_true] at h
  have := h m (by simpa using hm)
  simpa using this
theorem taxI_add (net rate : Nat → Int) (n i : Nat) : ∀ d, (fsU rate (i + d)).length = (fsU rate i).length → ∀ j, taxI net rate n (i + d) j = taxI net rate n i j
  | 0, _, j => rfl
  | d + 1, h, j => by
    rw [← Nat.add_assoc] at h ⊢
    have h1 := fsU_mono rate i d
    rw [fsU_succ, List.length_append] at h
    have hf : isF rate (i + d) = false := by
      cases hh : isF rate (i + d)
      · rfl
      · rw [hh] at h; simp at h; omega
    obtain ⟨f, hfl, he⟩ := isF_no hf
    rw [taxI_skip hfl he]
    refine taxI_add net rate n i d ?_ j
    rw [hf] at h
    simpa using h
/-- the taxes behind as many rates are the same -/
theorem taxI_len {net rate : Nat → Int} {n i i2 : Nat} (h : (fsU rate i).length = (fsU rate i2).length) (j : Nat) : taxI net rate n i j = taxI net rate n i2 j := by
  rcases Nat.le_total i i2 with hle | hle
  · obtain ⟨d, rfl⟩ : ∃ d, i2 = i + d := ⟨i2 - i, by omega⟩
    exact (taxI_add net rate n i d h.symm j).symm
  · obtain ⟨d, rfl⟩ : ∃ d, i = i2 + d := ⟨i - i2, by omega⟩
    exact taxI_add net rate n i2 d h j
theorem fsU_next {rate : Nat → Int} {i : Nat} (h : isF rate i = true) : (fsU rate (i + 1)).length = (fsU rate i).length + 1 := by
  rw [fsU_succ, h, if_pos rfl]; simp
/-- one rate more -/
theorem taxed_step {l : List R} {rate : Nat → Int} {n i : Nat} (hl : l.length = n) (hF : isF rate i = true) :
    rowsF (rowsF l (taxI (netF l) rate n i)) (spreadF (netF (rowsF l (taxI (netF l) rate n i))) rate (oldF (rowsF l (taxI (netF l) rate n i))) n (rate i) (sumQ (netF (rowsF l (taxI (netF l) rate n i))) rate n (rate i)) (partV (sumQ (netF (rowsF l (taxI (netF l) rate n i))) rate n (rate i)) (rate i) 10000)) = rowsF l (taxI (netF l) rate n (i + 1)) := by
  rw [rowsF_rows, netF_rows]
  refine rowsF_congr l fun j hj => ?_
  rw [spread_old (o2 := taxI (netF l) rate n i) (oldF_rows l _ hj)]
  exact taxI_step (isF_yes hF) j

/-- rows whose amounts are in bounds -/
def bdR (l : List R) : Prop := l.length ≤ 6 ∧ ∀ x ∈ l, (0 ≤ x.2.1 ∧ x.2.1 ≤ 1000000000000000) ∧ (0 ≤ x.2.2 ∧ x.2.2 ≤ 1000000000000000)
theorem sums_bdB {l : List R} (h : bdR l) (k : Nat) : (0 ≤ netS (l.take k) ∧ netS (l.take k) ≤ 6000000000000000) ∧ (0 ≤ taxS (l.take k) ∧ taxS (l.take k) ≤ 6000000000000000) := by
  obtain ⟨h1, h2⟩ := h
  have hl : (l.take k).length ≤ 6 := by simp; omega
  have a := sum_bd (·.2.1) 1000000000000000 (l.take k) (fun x hx => (h2 x (List.mem_of_mem_take hx)).1)
  have b := sum_bd (·.2.2) 1000000000000000 (l.take k) (fun x hx => (h2 x (List.mem_of_mem_take hx)).2)
  unfold netS taxS
  omega

set_option maxHeartbeats 1000000 in
/-- impl.rowSums, of rows in bounds -/
theorem sumsB (v : Value) (l : List R) (w : World) (h : RR w v l) (hk : bdR l) :
    Calls Tryz.prog 46 #[v] w fun x w' => x = .returned (.tuple #[.int .i64 (netS l), .int .i64 (taxS l)]) ∧ Below w.heap.size w w' := by
  have h6 := hk.1
  rcases h with ⟨rfl, a, c, rfl⟩ | ⟨b, o, cap, rfl, hc⟩
  · go_enter Tryz.func46, Tryz.ntmps46
    go_wp2
    refine wp_loop_rounds 1 ?_
    rw [rounds_succ]
    go_wp2
    go_ret2
    exact ⟨rfl, Below.refl _ _⟩
  · have HC := hide hc
    have hbs := hc.1
    have HBD := hide (fun k => sums_bdB hk k)
    have HST : Hid (∀ k, k < l.length → netS (l.take (k + 1)) = netS (l.take k) + (l.getD k R0).2.1 ∧ taxS (l.take (k + 1)) = taxS (l.take k) + (l.getD k R0).2.2) := hide (fun k hk' => ⟨sum_take (·.2.1) l k hk', sum_take (·.2.2) l k hk'⟩)
    have HF := hide hk.2
    clear hc
    go_enter Tryz.func46, Tryz.ntmps46
    go_wp2
    go_loopw [4, 5, 10] (fun a b i wr => ∃ k : Nat, k ≤ l.length ∧ i = .int .i64 k ∧ a = .int .i64 (netS (l.take k)) ∧ b = .int .i64 (taxS (l.take k)) ∧ Hid (Below w.heap.size w wr)) (fun _ _ i _ => l.length - (intOf i).toNat)
    case atStart => exact ⟨0, Nat.zero_le _, rfl, rfl, rfl, hide (Below.refl _ _)⟩
    case round =>
      obtain ⟨k, hk', rfl, rfl, rfl, hb⟩ := hrel
      by_cases hlt : k < l.length
      · obtain ⟨c0, c1, c2⟩ := ((unhide HC).kept (unhide hb)).2 k hlt
        obtain ⟨s1, s2⟩ := unhide HST k hlt
        have b1 := unhide HBD k
        have b2 := unhide HF (l.getD k R0) (by simp [List.getD, hlt])
        have i1 : (0 : Int) ≤ (k : Int) := by omega
        have i2 : (k : Int) < (l.length : Int) := by omega
        have S1 := hide s1
        have S2 := hide s2
        clear s1 s2
        generalize l.getD k R0 = x at *
        obtain ⟨s, m, q⟩ := x
        simp only at c0 c1 c2 b2 S1 S2
        generalize netS (l.take k) = n1 at *
        generalize taxS (l.take k) = n2 at *
        go_wp2
        exact ⟨⟨k + 1, by omega, by go_num, by rw [unhide S1], by rw [unhide S2], hide ((unhide hb).alloc (unhide hb).size _)⟩, by simp [intOf]; omega⟩
      · obtain rfl : k = l.length := by omega
        rw [List.take_length]
        go_wp2
        go_ret2
        exact ⟨rfl, unhide hb⟩

theorem netS_rowsF (l : List R) (f : Nat → Int) : netS (rowsF l f) = sumA (netF l) l.length ∧ taxS (rowsF l f) = sumA f l.length := by
  have key : ∀ (g : Nat → Int) (n : Nat), ((List.range n).map g).sum = sumA g n := by
    intro g n
    induction n with
    | zero => simp [sumA, sumG]
    | succ n ih => rw [List.range_succ, List.map_append, List.sum_append, ih, sumA_succ]; simp
  constructor
  · unfold netS rowsF; rw [List.map_map]; exact key _ _
  · unfold taxS rowsF; rw [List.map_map]; exact key _ _
theorem rated_bd {us : List U} {t : List E} (h : okL t = true) : bdR (rated us t) := by
  obtain ⟨h6, h2⟩ := okL_parts h
  refine ⟨by unfold rated; rw [rowsF_len, rowsN_len]; exact h6, fun x hx => ?_⟩
  unfold rated rowsF at hx
  rw [List.mem_map] at hx
  obtain ⟨j, hj, rfl⟩ := hx
  rw [List.mem_range, rowsN_len] at hj
  have h3 := (h2 j hj).2
  have ho := owed_bd (net := netJ us t) (rate := rateF t) hj (netJ_bd us t j) h3
  refine ⟨?_, ?_⟩
  · show 0 ≤ netF (rowsN us t t.length) j ∧ _
    rw [netF_rowsN]
    exact netJ_bd us t j
  · simp only
    omega
theorem rated_sums (us : List U) (t : List E) : netS (rated us t) = sumA (netJ us t) t.length ∧ taxS (rated us t) = sumA (owed (netJ us t) (rateF t) t.length) t.length := by
  have := netS_rowsF (rowsN us t t.length) (owed (netJ us t) (rateF t) t.length)
  rw [rowsN_len, netF_rowsN] at this
  exact this
/-- the last check tells the code -/
theorem rateB_last {us : List U} {t : List E} (h : okL t = true) (h1 : ∀ j, j < t.length → hasJ us t j = true) (h3 : allTold (netJ us t) (rateF t) t.length = true) : rateB us t = Coin.okB (netS (rated us t) + taxS (rated us t)) := by
  obtain ⟨e1, e2⟩ := rated_sums us t
  rw [e1, e2]
  cases h2 : Coin.okB (sumA (netJ us t) t.length) with
  | true => exact rateB_end h1 h2 h3
  | false =>
    rw [rateB_over (Nat.le_refl _) h2]
    have a0 := sumA_nonneg (fun j => (netJ_bd us t j).1) t.length
    have b0 : 0 ≤ sumA (owed (netJ us t) (rateF t) t.length) t.length := by
      have hb := (sums_bdB (rated_bd (us := us) h) t.length).2.1
      rw [List.take_of_length_le (by unfold rated; rw [rowsF_len, rowsN_len]; exact Nat.le_refl _), e2] at hb
      exact hb
    symm
    cases hh : Coin.okB (sumA (netJ us t) t.length + sumA (owed (netJ us t) (rateF t) t.length) t.length) with
    | false => rfl
    | true =>
      rw [Coin.okB_iff] at hh
      have hn : ¬ Coin.okB (sumA (netJ us t) t.length) = true := by rw [h2]; simp
      rw [Coin.okB_iff] at hn
      omega
end Go.Proofs.YtnchgeiinkaefaaGreatDoor.Bill
end

section
/-
  A map whose keys are texts, as the ascending list of its entries: what a store, a look-up and the sorted keys make of it. No program here.
-/
namespace Go.Proofs.YtnchgeiinkaefaaGreatDoor.MapM
set_option linter.unusedVariables false
open Go Go.Proofs

section
variable {α : Type} (key : α → ByteArray) (val : α → Value)

/-- the bytes of a key -/
abbrev kb (a : α) : List UInt8 := (key a).data.toList
/-- an entry as read -/
abbrev ent (a : α) : Lit × DataW Value := (.string (kb key a), .held (val a))
/-- the map as read -/
def DM (l : List α) : DataW Value := .map (l.map (ent key val))
/-- ascending by the keys -/
def Asc (l : List α) : Prop := l.Pairwise (fun a b => kb key a < kb key b)
/-- where a key is, or belongs -/
def pos (k : List UInt8) (l : List α) : Nat := (l.takeWhile (fun a => decide (kb key a < k))).length

theorem before_eq : ∀ (x y : List UInt8), bytesBefore x y = decide (x < y)
  | [], [] => by simp [bytesBefore]
  | _ :: _, [] => by simp [bytesBefore]
  | [], _ :: _ => by simp [bytesBefore]
  | a :: x, b :: y => by
    rw [bytesBefore, before_eq x y]
    by_cases h : a < b <;> by_cases h' : a = b <;> simp [h, h', List.cons_lt_cons_iff]

theorem lt_asymm {x y : List UInt8} (h : x < y) : ¬ y < x := fun h' => List.lt_irrefl _ (List.lt_trans h h')
theorem lt_tri {x y : List UInt8} (h : ¬ x < y) (hne : x ≠ y) : y < x := by
  rcases Decidable.em (y < x) with h' | h'
  · exact h'
  · exact absurd (List.le_antisymm h' h) hne

theorem pos_le (k : List UInt8) (l : List α) : pos key k l ≤ l.length := (List.takeWhile_prefix _).length_le
theorem pos_cons_lt {k : List UInt8} {a : α} {l : List α} (h : kb key a < k) : pos key k (a :: l) = pos key k l + 1 := by simp [pos, h]
theorem pos_cons_ge {k : List UInt8} {a : α} {l : List α} (h : ¬ kb key a < k) : pos key k (a :: l) = 0 := by simp [pos, h]

/-- those before are smaller, the one there is not -/
theorem pos_spec (k : List UInt8) : ∀ (l : List α) (i : Nat) (hi : i < l.length), (i < pos key k l → kb key l[i] < k) ∧ (i = pos key k l → ¬ kb key l[i] < k)
  | [], i, hi => by simp at hi
  | a :: l, i, hi => by
    by_cases h : kb key a < k
    · rw [pos_cons_lt key h]
      cases i with
      | zero => exact ⟨fun _ => h, fun e => by omega⟩
      | succ i =>
        have := pos_spec k l i (by simpa using hi)
        exact ⟨fun e => this.1 (by omega), fun e => this.2 (by omega)⟩
    · rw [pos_cons_ge key h]
      refine ⟨fun e => by omega, fun e => ?_⟩
      subst e
      exact h
/-- a walk that goes on while the keys are smaller ends there -/
theorem pos_of {k : List UInt8} : ∀ {l : List α} {n : Nat}, n ≤ l.length → (∀ i (hi : i < l.length), i < n → kb key l[i] < k) → (∀ (hn : n < l.length), ¬ kb key l[n] < k) → pos key k l = n
  | [], n, hn, _, _ => by have : n = 0 := by simpa using hn
                          subst this; rfl
  | a :: l, 0, _, _, h => pos_cons_ge key (h (by simp))
  | a :: l, n + 1, hn, h1, h2 => by
    have h0 : kb key a < k := h1 0 (by simp) (by omega)
    rw [pos_cons_lt key h0, pos_of (l := l) (n := n) (by simpa using hn) (fun i hi hin => h1 (i + 1) (by simpa using hi) (by omega)) (fun hn' => h2 (by simpa using hn'))]

theorem filter_none {k : List UInt8} : ∀ (l : List α), (∀ a ∈ l, kb key a ≠ k) → (l.map (ent key val)).filter (fun p => !p.1.sameKey (.string k)) = l.map (ent key val)
  | [], _ => rfl
  | a :: l, h => by
    have h0 : (Lit.string (kb key a)).sameKey (.string k) = false := by simpa [Lit.sameKey] using h a (by simp)
    rw [List.map_cons, List.filter_cons_of_pos (by rw [h0]; rfl), filter_none l (fun b hb => h b (by simp [hb]))]

theorem insert_at (e : α) : ∀ (l : List α), (∀ a ∈ l, kb key a ≠ kb key e) → DataW.insert (ent key val e) (l.map (ent key val)) = (l.take (pos key (kb key e) l) ++ e :: l.drop (pos key (kb key e) l)).map (ent key val)
  | [], _ => rfl
  | a :: l, h => by
    have hb : (Lit.string (kb key e)).before (.string (kb key a)) = decide (kb key e < kb key a) := before_eq _ _
    rw [List.map_cons]
    unfold DataW.insert
    by_cases hlt : kb key a < kb key e
    · have : ¬ kb key e < kb key a := lt_asymm hlt
      rw [hb, decide_eq_false this, pos_cons_lt key hlt, insert_at e l (fun b hb => h b (by simp [hb]))]
      simp
    · have : kb key e < kb key a := lt_tri hlt (h a (by simp))
      rw [hb, decide_eq_true this, pos_cons_ge key hlt]
      simp

/-- a store at a key that is not there -/
theorem put_new (l : List α) (e : α) (h : ∀ a ∈ l, kb key a ≠ kb key e) : (DM key val l).put (.string (kb key e)) (.held (val e)) = DM key val (l.take (pos key (kb key e) l) ++ e :: l.drop (pos key (kb key e) l)) := by
  show DataW.map (DataW.insert (ent key val e) ((l.map (ent key val)).filter fun p => !p.1.sameKey (.string (kb key e)))) = _
  rw [filter_none key val l h, insert_at key val e l h]; rfl

/-- a store at a key that is there -/
theorem put_old : ∀ (l : List α) (e : α) (k : Nat) (hk : k < l.length), Asc key l → kb key l[k] = kb key e → (DM key val l).put (.string (kb key e)) (.held (val e)) = DM key val (l.set k e) := by
  intro l e k hk ha he
  show DataW.map (DataW.insert (ent key val e) ((l.map (ent key val)).filter fun p => !p.1.sameKey (.string (kb key e)))) = _
  have main : ∀ (l : List α) (k : Nat) (hk : k < l.length), Asc key l → kb key l[k] = kb key e → DataW.insert (ent key val e) ((l.map (ent key val)).filter fun p => !p.1.sameKey (.string (kb key e))) = (l.set k e).map (ent key val) := by
    intro l
    induction l with
    | nil => intro k hk; simp at hk
    | cons a l ih =>
      intro k hk ha he
      have hp := List.pairwise_cons.1 ha
      cases k with
      | zero =>
        have hs : (Lit.string (kb key a)).sameKey (.string (kb key e)) = true := by simpa [Lit.sameKey] using he
        have hno : ∀ b ∈ l, kb key b ≠ kb key e := fun b hb h => by
          have h1 : kb key a < kb key b := hp.1 b hb
          have h2 : kb key a = kb key e := he
          rw [h, h2] at h1
          exact List.lt_irrefl _ h1
        have h0 : pos key (kb key e) l = 0 := by
          cases l with
          | nil => rfl
          | cons b l =>
            have h1 : kb key a < kb key b := hp.1 b (by simp)
            have h2 : kb key a = kb key e := he
            rw [h2] at h1
            exact pos_cons_ge key (lt_asymm h1)
        rw [List.map_cons, List.filter_cons_of_neg (by rw [hs]; simp), filter_none key val l hno, insert_at key val e l hno, h0]
        simp
      | succ k =>
        have hk' : k < l.length := by simpa using hk
        have he' : kb key l[k] = kb key e := by simpa using he
        have hlt : kb key a < kb key e := by rw [← he']; exact hp.1 _ (List.getElem_mem hk')
        have hs : (Lit.string (kb key a)).sameKey (.string (kb key e)) = false := by
          have : kb key a ≠ kb key e := fun h => by rw [h] at hlt; exact List.lt_irrefl _ hlt
          simpa [Lit.sameKey] using this
        have hb : (Lit.string (kb key e)).before (.string (kb key a)) = false := by
          show bytesBefore _ _ = false
          rw [before_eq]; exact decide_eq_false (lt_asymm hlt)
        rw [List.map_cons, List.filter_cons_of_pos (by rw [hs]; rfl)]
        unfold DataW.insert
        rw [hb, ih k hk' hp.2 he']
        simp
  rw [main l k hk ha he]; rfl

theorem atKey_hit (z : DataW Value) : ∀ (l : List α) (k : Nat) (hk : k < l.length), Asc key l → (DM key val l).atKey (.string (kb key l[k])) z = .held (val l[k]) := by
  intro l k hk ha
  have main : ∀ (l : List α) (k : Nat) (hk : k < l.length), Asc key l → (l.map (ent key val)).find? (fun p => p.1.sameKey (.string (kb key l[k]))) = some (ent key val l[k]) := by
    intro l
    induction l with
    | nil => intro k hk; simp at hk
    | cons a l ih =>
      intro k hk ha
      have hp := List.pairwise_cons.1 ha
      cases k with
      | zero => rw [List.map_cons, List.find?_cons_of_pos (by simp [Lit.sameKey])]; rfl
      | succ k =>
        have hk' : k < l.length := by simpa using hk
        have hlt : kb key a < kb key l[k] := hp.1 _ (List.getElem_mem hk')
        have hs : (Lit.string (kb key a)).sameKey (.string (kb key l[k])) = false := by
          have : kb key a ≠ kb key l[k] := fun h => by rw [h] at hlt; exact List.lt_irrefl _ hlt
          simpa [Lit.sameKey] using this
        rw [List.map_cons]
        simp only [List.getElem_cons_succ]
        rw [List.find?_cons_of_neg (by rw [hs]; simp)]
        exact ih k hk' hp.2
  unfold DM DataW.atKey
  simp only [main l k hk ha]

theorem find_none {k : List UInt8} : ∀ (l : List α), (∀ a ∈ l, kb key a ≠ k) → (l.map (ent key val)).find? (fun p => p.1.sameKey (.string k)) = none
  | [], _ => rfl
  | a :: l, h => by
    have h0 : (Lit.string (kb key a)).sameKey (.string k) = false := by simpa [Lit.sameKey] using h a (by simp)
    rw [List.map_cons, List.find?_cons_of_neg (by rw [h0]; simp)]
    exact find_none l (fun b hb => h b (by simp [hb]))
theorem atKey_miss (z : DataW Value) (l : List α) {k : List UInt8} (h : ∀ a ∈ l, kb key a ≠ k) : (DM key val l).atKey (.string k) z = z := by
  unfold DM DataW.atKey
  simp only [find_none key val l h]

theorem has_hit (l : List α) {k : List UInt8} (h : ∃ a ∈ l, kb key a = k) : Maps.has (DM key val l) (.string k) = true := by
  obtain ⟨a, ha, rfl⟩ := h
  unfold DM
  rw [Maps.has_eq, List.any_map, List.any_eq_true]
  exact ⟨a, ha, by simp [Lit.sameKey]⟩
theorem has_miss (l : List α) {k : List UInt8} (h : ∀ a ∈ l, kb key a ≠ k) : Maps.has (DM key val l) (.string k) = false := by
  unfold DM
  rw [Maps.has_eq, List.any_map, List.any_eq_false]
  intro a ha
  simpa [Lit.sameKey] using h a ha
theorem size_DM (l : List α) : Maps.size (DM key val l) = l.length := by unfold DM; rw [Maps.size_eq]; simp
theorem keys_DM (l : List α) : strKeys (DM key val l) = l.map (kb key) := by
  unfold DM strKeys
  simp only [List.map_map]
  rfl

/-- the keys, sorted -/
theorem sorted_keys {l : List α} (ha : Asc key l) {ss : List (List UInt8)} (h : ss.Perm (l.map (kb key))) : ss.mergeSort (fun x y => decide (x ≤ y)) = l.map (kb key) := by
  have trans : ∀ a b c : List UInt8, decide (a ≤ b) = true → decide (b ≤ c) = true → decide (a ≤ c) = true := fun a b c h1 h2 => by
    simp only [decide_eq_true_eq] at *; exact List.le_trans h1 h2
  have total : ∀ a b : List UInt8, (decide (a ≤ b) || decide (b ≤ a)) = true := fun a b => by
    simp only [Bool.or_eq_true, decide_eq_true_eq]; exact List.le_total a b
  have h1 : (ss.mergeSort (fun x y => decide (x ≤ y))).Pairwise (fun a b => decide (a ≤ b) = true) := List.pairwise_mergeSort trans total ss
  have h2 : (l.map (kb key)).Pairwise (fun a b => decide (a ≤ b) = true) := by
    rw [List.pairwise_map]
    exact ha.imp (fun {a b} hab => by simp only [decide_eq_true_eq]; exact List.le_of_lt hab)
  refine List.Perm.eq_of_pairwise ?_ h1 h2 ((List.mergeSort_perm ss _).trans h)
  intro a b _ _ hab hba
  simp only [decide_eq_true_eq] at hab hba
  exact List.le_antisymm hab hba
end
end Go.Proofs.YtnchgeiinkaefaaGreatDoor.MapM
end

section
/-
  Events in a map by their Ids: impl.keepEvents.
-/
namespace Go.Proofs.YtnchgeiinkaefaaGreatDoor.Evs
set_option linter.unusedVariables false
open Go.RowKit Go.Maps MapM

/-- every value reads as itself -/
def RV (v : Value) : Option (DataW Value × List MemPlace) := some (.held v, [])
/-- the key of an event -/
abbrev keyE (e : E) : ByteArray := e.1
/-- the map of events as read -/
abbrev DE (l : List E) : DataW Value := DM keyE eV l
/-- block b is the map of the events l -/
def EM (W : World) (b : Nat) (l : List E) : Prop := W.ownsMap Tryz.prog 9 RV b l.length (DE l)

theorem law : Keyed Tryz.prog 9 := string_keyed Tryz.underlying9
theorem ltS_iff {s t : ByteArray} : ltS s t = true ↔ s.data.toList < t.data.toList := by
  rw [ltS, Proofs.bytesLess_eq, Lib.toList_data, Lib.toList_data, decide_eq_true_eq]

theorem okB_len {l : List E} (h : okB l = true) : l.length ≤ 20 := by
  rcases Nat.lt_or_ge 20 l.length with h' | h'
  · rw [okB_long h'] at h; simp at h
  · exact h'
theorem okB_at {l : List E} (h : okB l = true) {k : Nat} (hk : k < l.length) : badAt l k = false := by
  cases hb : badAt l k with
  | false => rfl
  | true => rw [okB_bad hk hb] at h; simp at h
theorem okB_right {l : List E} (h : okB l = true) {k : Nat} (hk : k < l.length) : rightE (l.getD k E0) = true := by
  have := okB_at h hk
  simp only [badAt, Bool.or_eq_false_iff, Bool.not_eq_false'] at this
  exact this.1
theorem EM.kept {W W' : World} {b : Nat} {l : List E} (h : EM W b l) (hb : Below W.heap.size W W') : EM W' b l :=
  World.ownsMap.kept (row := none) h ⟨hb.os, hb.tape, hb.output, hb.size, fun j hj _ => hb.block j hj⟩ (by simp)
theorem EM.lt {W : World} {b : Nat} {l : List E} (h : EM W b l) : b < W.heap.size := World.ownsMap.lt h

end Go.Proofs.YtnchgeiinkaefaaGreatDoor.Evs
end

section
/-
  Events in a map by their Ids: the methods 'put' and 'fix'.
-/
namespace Go.Proofs.YtnchgeiinkaefaaGreatDoor.Evs
set_option linter.unusedVariables false
open Go.RowKit Go.Maps MapM

/-- the event of that Id, and whether there is one -/
def lookE (l : List E) (s : ByteArray) : E × Bool := match l.find? (fun x => decide (x.1 = s)) with | some x => (x, true) | none => (E0, false)

theorem kb_inj {a : E} {s : ByteArray} (h : kb keyE a = s.data.toList) : a.1 = s := by
  have h1 : a.1.data = s.data := Array.toList_inj.1 h
  cases ha : a.1; cases s; rw [ha] at h1; simp only at h1; rw [h1]
theorem lookE_cases (l : List E) (s : ByteArray) : (∃ k, ∃ hk : k < l.length, l[k].1 = s ∧ lookE l s = (l[k], true)) ∨ ((∀ a ∈ l, a.1 ≠ s) ∧ lookE l s = (E0, false)) := by
  cases hf : l.find? (fun x => decide (x.1 = s)) with
  | some x =>
    refine .inl ?_
    have hm := List.mem_of_find?_eq_some hf
    have hx := List.find?_some hf
    obtain ⟨k, hk, rfl⟩ := List.getElem_of_mem hm
    exact ⟨k, hk, by simpa using hx, by unfold lookE; rw [hf]⟩
  | none =>
    refine .inr ⟨fun a ha he => ?_, by unfold lookE; rw [hf]⟩
    have := List.find?_eq_none.1 hf a ha
    simp [he] at this
theorem ext_toList {s t : ByteArray} (h : s.toList = t.toList) : s = t := by
  rw [Lib.toList_data, Lib.toList_data] at h
  cases s; cases t
  simp only at h
  rw [Array.toList_inj.1 h]
theorem look_DE {l : List E} (ha : Asc keyE l) (s : ByteArray) : (DE l).atKey (.string s.data.toList) (.held (eV E0)) = .held (eV (lookE l s).1) ∧ Maps.has (DE l) (.string s.data.toList) = (lookE l s).2 := by
  rcases lookE_cases l s with ⟨k, hk, rfl, e⟩ | ⟨hn, e⟩
  · rw [e]
    exact ⟨atKey_hit keyE eV _ l k hk ha, has_hit keyE eV l ⟨l[k], List.getElem_mem hk, rfl⟩⟩
  · rw [e]
    have : ∀ a ∈ l, kb keyE a ≠ s.data.toList := fun a hm he => hn a hm (kb_inj he)
    exact ⟨atKey_miss keyE eV _ l this, has_miss keyE eV l this⟩

theorem zeroE (w : World) : (zeroValue 59).run Tryz.prog w = .ok (eV E0) w := by kernel_rfl

theorem EM.grown {W W' : World} {b : Nat} {l : List E} {r : Option Nat} (h : EM W b l) (hg : W.grownBy W' r) (hne : some b ≠ r) : EM W' b l := World.ownsMap.kept h hg hne
theorem below_grown {a b : World} (h : Below a.heap.size a b) (r : Option Nat) : a.grownBy b r := ⟨h.os, h.tape, h.output, h.size, fun j hj _ => h.block j hj⟩
theorem grown_trans {a b c : World} {r : Option Nat} (h : a.grownBy b r) (k : b.grownBy c r) : a.grownBy c r :=
  ⟨k.os.trans h.os, k.tape.trans h.tape, k.output.trans h.output, Nat.le_trans h.size k.size, fun j hj hne => (k.block j (Nat.lt_of_lt_of_le hj h.size) hne).trans (h.block j hj hne)⟩

end Go.Proofs.YtnchgeiinkaefaaGreatDoor.Evs
end

section
/-
  Events in a map by their Ids: the method 'fix'.
-/
namespace Go.Proofs.YtnchgeiinkaefaaGreatDoor.Evs
set_option linter.unusedVariables false
open Go.RowKit Go.Maps MapM

theorem ownsMap_tight {W : World} {b n n' : Nat} {D : DataW Value} (h : W.ownsMap Tryz.prog 9 RV b n D) (hn : Maps.size D = n') : W.ownsMap Tryz.prog 9 RV b n' D := by
  obtain ⟨es, clock, hb, F, hs, rfl⟩ := h
  refine ⟨es, clock, hb, F, ?_, rfl⟩
  rw [← hn, Maps.size_eq, length_read]
  exact Nat.le_refl _

end Go.Proofs.YtnchgeiinkaefaaGreatDoor.Evs
end

section
/-
  DERIVED: THE SHELF's CONTRACTS AT THIS DUMP, IN PLAIN WORDS (tools/lay-plain.mjs out of 'YtnchgeiinkaefaaGreatDoorIter.lean', which tools/lay-shelf.mjs wrote): THE SAME DECLARATIONS UNDER THE SAME NAMES: 'import', 'namespace', 'open', 'def', 'theorem' AND NOTHING ELSE: no command of the shelf's: FOR A HAND-IN. Each laying: the table of numbers ('.._ren') and one theorem, a field a fact of the dump's own or the kernel's comparison; each contract: ONE APPLICATION.
-/
namespace Go.Proofs
open Go.Shelf
def Tryz.keys101_ren : Go.Shelf.Ren := ⟨fun | 7 => 101 | 10 => 128 | n => n, fun | 23 => 116 | 26 => 9 | 3 => 3 | 28 => 161 | 0 => 0 | 27 => 160 | 33 => 98 | 4 => 4 | n => n, fun | n => n⟩
theorem Tryz.keys101 : Go.Proofs.SlLaysZ.n7 Tryz.prog Tryz.keys101_ren := {
  mixed := by kernel_rfl
  f7 := ⟨Tryz.f101.name, by decide, Tryz.func101.trans (congrArg some (by kernel_rfl))⟩
  f10 := ⟨Tryz.f128.name, by decide, Tryz.func128.trans (congrArg some (by kernel_rfl))⟩
  t0 := Tryz.underlying0
  a0 := Tryz.isAgg0
  z0 := Tryz.sizeOf0
  v0 := Tryz.zeroValue0
  t4 := Tryz.underlying4
  a4 := Tryz.isAgg4
  z4 := Tryz.sizeOf4
  v4 := Tryz.zeroValue4
  t23 := Tryz.underlying116
  a23 := Tryz.isAgg116
  z23 := Tryz.sizeOf116
  v23 := Tryz.zeroValue116
  t26 := Tryz.underlying9
  a26 := Tryz.isAgg9
  z26 := Tryz.sizeOf9
  v26 := Tryz.zeroValue9
  t27 := Tryz.underlying160
  a27 := Tryz.isAgg160
  z27 := Tryz.sizeOf160
  v27 := Tryz.zeroValue160
  t28 := Tryz.underlying161
  a28 := Tryz.isAgg161
  z28 := Tryz.sizeOf161
  v28 := Tryz.zeroValue161
  t33 := Tryz.underlying98
  a33 := Tryz.isAgg98
  z33 := Tryz.sizeOf98
  v33 := Tryz.zeroValue98 }
def Tryz.sorted100_ren : Go.Shelf.Ren := ⟨fun | 6 => 100 | 8 => 126 | 9 => 127 | 11 => 146 | 13 => 130 | 12 => 147 | 23 => 156 | 24 => 157 | 14 => 172 | 15 => 173 | 16 => 174 | 17 => 175 | 18 => 176 | 19 => 177 | 20 => 178 | 21 => 179 | 22 => 180 | 25 => 201 | 26 => 182 | 27 => 183 | 28 => 202 | 29 => 203 | 30 => 204 | 31 => 214 | n => n, fun | 26 => 9 | 28 => 161 | 24 => 158 | 0 => 0 | 3 => 3 | 37 => 214 | 48 => 243 | 50 => 245 | 4 => 4 | 40 => 237 | 39 => 236 | 45 => 50 | 5 => 5 | 9 => 9 | 51 => 268 | 55 => 204 | 57 => 295 | 58 => 93 | 33 => 98 | n => n, fun | n => n⟩
theorem Tryz.sorted100 : Go.Proofs.SlLaysZ.n6 Tryz.prog Tryz.sorted100_ren := {
  mixed := by kernel_rfl
  f6 := ⟨Tryz.f100.name, by decide, Tryz.func100.trans (congrArg some (by kernel_rfl))⟩
  f8 := ⟨Tryz.f126.name, by decide, Tryz.func126.trans (congrArg some (by kernel_rfl))⟩
  f11 := ⟨Tryz.f146.name, by decide, Tryz.func146.trans (congrArg some (by kernel_rfl))⟩
  t0 := Tryz.underlying0
  a0 := Tryz.isAgg0
  z0 := Tryz.sizeOf0
  v0 := Tryz.zeroValue0
  t24 := Tryz.underlying158
  a24 := Tryz.isAgg158
  z24 := Tryz.sizeOf158
  v24 := Tryz.zeroValue158
  t26 := Tryz.underlying9
  a26 := Tryz.isAgg9
  z26 := Tryz.sizeOf9
  v26 := Tryz.zeroValue9
  t28 := Tryz.underlying161
  a28 := Tryz.isAgg161
  z28 := Tryz.sizeOf161
  v28 := Tryz.zeroValue161
  i26 := by kernel_rfl }
def Tryz.sort127_ren : Go.Shelf.Ren := ⟨fun | 6 => 127 | 8 => 130 | 9 => 147 | 19 => 156 | 20 => 157 | 21 => 172 | 22 => 173 | 23 => 174 | 24 => 175 | 25 => 176 | 26 => 177 | 27 => 178 | 28 => 179 | 29 => 180 | 36 => 201 | 31 => 182 | 32 => 183 | 37 => 202 | 38 => 203 | 39 => 204 | 41 => 214 | n => n, fun | 27 => 158 | 29 => 9 | 3 => 3 | 32 => 214 | 26 => 158 | 0 => 0 | 44 => 243 | 46 => 245 | 4 => 4 | 36 => 237 | 35 => 236 | 41 => 50 | 5 => 5 | 9 => 9 | 53 => 268 | 57 => 204 | 63 => 295 | 64 => 93 | n => n, fun | n => n⟩
theorem Tryz.sort127 : Go.Proofs.SlLaysM.n6 Tryz.prog Tryz.sort127_ren := {
  mixed := by kernel_rfl
  f6 := ⟨Tryz.f127.name, by decide, Tryz.func127.trans (congrArg some (by kernel_rfl))⟩
  f8 := Tryz.func130.trans (congrArg some (by kernel_rfl))
  f9 := ⟨Tryz.f147.name, by decide, Tryz.func147.trans (congrArg some (by kernel_rfl))⟩
  f19 := Tryz.func156.trans (congrArg some (by kernel_rfl))
  f20 := Tryz.func157.trans (congrArg some (by kernel_rfl))
  f21 := ⟨Tryz.f172.name, by decide, Tryz.func172.trans (congrArg some (by kernel_rfl))⟩
  f22 := ⟨Tryz.f173.name, by decide, Tryz.func173.trans (congrArg some (by kernel_rfl))⟩
  f23 := ⟨Tryz.f174.name, by decide, Tryz.func174.trans (congrArg some (by kernel_rfl))⟩
  f24 := ⟨Tryz.f175.name, by decide, Tryz.func175.trans (congrArg some (by kernel_rfl))⟩
  f25 := ⟨Tryz.f176.name, by decide, Tryz.func176.trans (congrArg some (by kernel_rfl))⟩
  f26 := ⟨Tryz.f177.name, by decide, Tryz.func177.trans (congrArg some (by kernel_rfl))⟩
  f27 := ⟨Tryz.f178.name, by decide, Tryz.func178.trans (congrArg some (by kernel_rfl))⟩
  f28 := ⟨Tryz.f179.name, by decide, Tryz.func179.trans (congrArg some (by kernel_rfl))⟩
  f29 := ⟨Tryz.f180.name, by decide, Tryz.func180.trans (congrArg some (by kernel_rfl))⟩
  f31 := Tryz.func182.trans (congrArg some (by kernel_rfl))
  f32 := Tryz.func183.trans (congrArg some (by kernel_rfl))
  f36 := ⟨Tryz.f201.name, by decide, Tryz.func201.trans (congrArg some (by kernel_rfl))⟩
  f37 := ⟨Tryz.f202.name, by decide, Tryz.func202.trans (congrArg some (by kernel_rfl))⟩
  f38 := ⟨Tryz.f203.name, by decide, Tryz.func203.trans (congrArg some (by kernel_rfl))⟩
  f39 := ⟨Tryz.f204.name, by decide, Tryz.func204.trans (congrArg some (by kernel_rfl))⟩
  f41 := ⟨Tryz.f214.name, by decide, Tryz.func214.trans (congrArg some (by kernel_rfl))⟩
  t0 := Tryz.underlying0
  a0 := Tryz.isAgg0
  z0 := Tryz.sizeOf0
  v0 := Tryz.zeroValue0
  t3 := Tryz.underlying3
  a3 := Tryz.isAgg3
  z3 := Tryz.sizeOf3
  v3 := Tryz.zeroValue3
  t4 := Tryz.underlying4
  a4 := Tryz.isAgg4
  z4 := Tryz.sizeOf4
  v4 := Tryz.zeroValue4
  t5 := Tryz.underlying5
  a5 := Tryz.isAgg5
  z5 := Tryz.sizeOf5
  v5 := Tryz.zeroValue5
  t9 := Tryz.underlying9
  a9 := Tryz.isAgg9
  z9 := Tryz.sizeOf9
  v9 := Tryz.zeroValue9
  t26 := Tryz.underlying158
  a26 := Tryz.isAgg158
  z26 := Tryz.sizeOf158
  v26 := Tryz.zeroValue158
  t27 := Tryz.underlying158
  a27 := Tryz.isAgg158
  z27 := Tryz.sizeOf158
  v27 := Tryz.zeroValue158
  t29 := Tryz.underlying9
  a29 := Tryz.isAgg9
  z29 := Tryz.sizeOf9
  v29 := Tryz.zeroValue9
  t32 := Tryz.underlying214
  a32 := Tryz.isAgg214
  z32 := Tryz.sizeOf214
  v32 := Tryz.zeroValue214
  t35 := Tryz.underlying236
  a35 := Tryz.isAgg236
  z35 := Tryz.sizeOf236
  v35 := Tryz.zeroValue236
  t36 := Tryz.underlying237
  a36 := Tryz.isAgg237
  z36 := Tryz.sizeOf237
  v36 := Tryz.zeroValue237
  t41 := Tryz.underlying50
  a41 := Tryz.isAgg50
  z41 := Tryz.sizeOf50
  v41 := Tryz.zeroValue50
  t44 := Tryz.underlying243
  a44 := Tryz.isAgg243
  z44 := Tryz.sizeOf243
  v44 := Tryz.zeroValue243
  t46 := Tryz.underlying245
  a46 := Tryz.isAgg245
  z46 := Tryz.sizeOf245
  v46 := Tryz.zeroValue245
  t53 := Tryz.underlying268
  a53 := Tryz.isAgg268
  z53 := Tryz.sizeOf268
  v53 := Tryz.zeroValue268
  t57 := Tryz.underlying204
  a57 := Tryz.isAgg204
  z57 := Tryz.sizeOf204
  v57 := Tryz.zeroValue204
  t63 := Tryz.underlying295
  a63 := Tryz.isAgg295
  z63 := Tryz.sizeOf295
  v63 := Tryz.zeroValue295
  t64 := Tryz.underlying93
  a64 := Tryz.isAgg93
  z64 := Tryz.sizeOf93
  v64 := Tryz.zeroValue93 }
open Go.RowKit Go.Maps Go.Sort Go.Shelf

/-- slices.Sort's two contracts at this dump, at the fence that asks nothing. -/
theorem Tryz.sorts100 (m : Nat) : AnyZ.SortsIn Tryz.prog Tryz.sorted100_ren Fence.wide m :=
  ⟨fun blk off cap ss W hH hblk hsz => callsIn_wide.2 (AnyM.slices_Sort_string Tryz.sort127 blk off cap ss W hH hblk hsz),
   fun p cap W => callsIn_wide.2 (AnyM.slices_Sort_string_none Tryz.sort127 p cap W)⟩

/-- **maps.Keys[map[string]int,string,int], at whatever map, the nil one too:** a function value over ONE NEW BLOCK, which holds the map. -/
theorem Tryz.maps_Keys_101 (mb : Option Nat) (W : World) : CallsIn Fence.wide 5 Tryz.prog 101 #[.map mb] W fun e w' => e = .returned (.func (.func 128) #[] #[.pointer (some ⟨W.heap.size, 0, none⟩)]) ∧ w' = W.alloc (.cells #[.map mb] 116) :=
  AnyZ.keys_in Tryz.keys101 Fence.wide 5 trivial rfl mb W

set_option maxHeartbeats 1000000 in
/-- **slices.Sorted[string] AT WHAT maps.Keys[map[string]int,string,int] HANDED BACK FOR A MAP THAT IS NOT nil** ('w': the world AHEAD of maps.Keys' call): A NEW SLICE THAT HOLDS THE MAP's KEYS, SORTED; nil just where it has none; nothing that lay before has turned. -/
theorem Tryz.slices_Sorted_keys_100_101 {H : Type} (b nn : Nat) (D0 : DataW H) (R : Value → Option (DataW H × List MemPlace)) (w : World) (hown : w.ownsMap Tryz.prog 9 R b nn D0) (hmax : Maps.size D0 ≤ maxLen) (hbytes : Maps.size D0 * 16 ≤ 140737488355328) :
    CallsIn Fence.wide 5 Tryz.prog 100 #[.func (.func 128) #[] #[.pointer (some ⟨w.heap.size, 0, none⟩)]] (w.alloc (.cells #[.map (some b)] 116)) fun e w' => ∃ (v : Value) (ss : List (List UInt8)), e = .returned v ∧ ss.Perm (strKeys D0) ∧
      w'.ownsRow (w.alloc (.cells #[.map (some b)] 116)).heap.size 9 1 v ss.length ((ss.mergeSort (fun x y => decide (x ≤ y))).map encStr) ∧ (v = .slice none 0 0 ↔ ss = []) ∧ Below (w.alloc (.cells #[.map (some b)] 116)).heap.size (w.alloc (.cells #[.map (some b)] 116)) w' := by
  have hbl := hown.lt
  have hseq : SeqGives Fence.wide 2 Tryz.prog 128 #[.pointer (some ⟨w.heap.size, 0, none⟩)] encStr (fun ss => ss.Perm (strKeys D0)) (Maps.size D0) (w.alloc (.cells #[.map (some b)] 116)) :=
    AnyZ.keys_gives (ρ := Tryz.keys101_ren) { Tryz.keys101 with } Fence.wide _ trivial rfl (by omega) w.heap.size b nn D0 _ (by simp) (by simp) (by
      obtain ⟨es, clock, hb, Ft, hs, hD⟩ := hown
      exact ⟨es, clock, (Below.heap_alloc _ _ b hbl).trans hb, Ft, hs, hD⟩)
  exact AnyZ.sorted_in Tryz.sorted100 Fence.wide 5 trivial trivial trivial trivial rfl (by omega) (Tryz.sorts100 _) (enters_of Tryz.func127 (by kernel_rfl) rfl) 128 #[.pointer (some ⟨w.heap.size, 0, none⟩)] trivial (enters_of Tryz.func128 (by kernel_rfl) rfl) _ _ hmax hbytes _ hseq

set_option maxHeartbeats 1000000 in
/-- **.. AND FOR THE nil MAP: nil.** -/
theorem Tryz.slices_Sorted_keys_nil_100_101 (w : World) :
    CallsIn Fence.wide 5 Tryz.prog 100 #[.func (.func 128) #[] #[.pointer (some ⟨w.heap.size, 0, none⟩)]] (w.alloc (.cells #[.map none] 116)) fun e w' => ∃ (v : Value) (ss : List (List UInt8)), e = .returned v ∧ ss = [] ∧
      w'.ownsRow (w.alloc (.cells #[.map none] 116)).heap.size 9 1 v ss.length ((ss.mergeSort (fun x y => decide (x ≤ y))).map encStr) ∧ (v = .slice none 0 0 ↔ ss = []) ∧ Below (w.alloc (.cells #[.map none] 116)).heap.size (w.alloc (.cells #[.map none] 116)) w' := by
  have hseq : SeqGives Fence.wide 2 Tryz.prog 128 #[.pointer (some ⟨w.heap.size, 0, none⟩)] encStr (fun ss : List (List UInt8) => ss = []) 0 (w.alloc (.cells #[.map none] 116)) :=
    AnyZ.keys_gives_nil (ρ := Tryz.keys101_ren) { Tryz.keys101 with } Fence.wide _ trivial rfl w.heap.size _ (by simp) (by simp)
  exact AnyZ.sorted_in Tryz.sorted100 Fence.wide 5 trivial trivial trivial trivial rfl (by omega) (Tryz.sorts100 _) (enters_of Tryz.func127 (by kernel_rfl) rfl) 128 #[.pointer (some ⟨w.heap.size, 0, none⟩)] trivial (enters_of Tryz.func128 (by kernel_rfl) rfl) _ 0 (Nat.zero_le _) (by omega) _ hseq
end Go.Proofs
end
