/-
  Texts of this proof laid together, in build order; each says of itself what it holds.
-/
import Derived.Test.YtnchgeiinkaefaaGreatDoorZaz
import Derived.Test.YtnchgeiinkaefaaGreatDoorZak
import Derived.Test.YtnchgeiinkaefaaGreatDoorZap
import Derived.Test.YtnchgeiinkaefaaGreatDoorZav
import Derived.Test.YtnchgeiinkaefaaGreatDoorZac
import Derived.Test.YtnchgeiinkaefaaGreatDoorZas
import Derived.LaidHandle
import Derived.Test.YtnchgeiinkaefaaGreatDoorZat
section
/-
  placesByRate$1, walked.
-/
namespace Go.Proofs.YtnchgeiinkaefaaGreatDoor.Bill
set_option linter.unusedVariables false
open Go.RowKit Evs Go.Shelf
open Tax (plc plc_mem plc_lt plc_len rateF getD_map')
open Ints (Cells vals infoEx)
open RangeP (SeqP)

attribute [local go_sem] Oper.semAt_some

set_option maxRecDepth 100000 in
set_option maxHeartbeats 4000000 in
theorem pl1 (n : Nat) (hn : 1 ≤ n) (lp Bt B2 : Nat) (w0 : World) (ta : Option Addr) (tc : Nat) (t : List E) (hT : ER w0 (.slice ta t.length tc) t) (h6 : t.length ≤ 6)
    (h02 : w0.heap.size ≤ B2) (hBt2 : B2 ≤ Bt) (J Jx : Nat → World → Prop)
    (W : World) (hW0 : Below w0.heap.size w0 W) (hW2 : B2 ≤ W.heap.size) (hJa : AbidesFrom W.heap.size J)
    (hY : ∀ k args W1, J k W1 → PrP (rateF t) t.length B2 k args W1 → YieldAt Fence.wide (n - 1) Tryz.prog lp args W1 fun e W' =>
      (e = .returned (.bool true) ∧ J (k + 1) W' ∧ KpC w0.heap.size B2 W1 W') ∨ (e = .returned (.bool false) ∧ Jx (k + 1) W'))
    (hBt : W.cell? ⟨Bt, 0, none⟩ = some (.slice ta t.length tc)) (h0 : J 0 W) :
    CallsIn Fence.wide n Tryz.prog 67 #[.func (.yield lp) #[] #[], .pointer (some ⟨Bt, 0, none⟩)] W fun e W' => (∃ v, e = .returned v) ∧
      ((∃ k, k = (fsU (rateF t) t.length).length ∧ J k W') ∨ (∃ k, Jx k W')) := by
  have HJ := hide hJa
  have HY := hide hY
  have H0 := hide h0
  have HT := hide hT
  have HW0 := hide hW0
  have HBT := hide hBt
  have hz0 := hW0.size
  clear hJa hY h0 hT hW0
  refine callsIn_of_wp Tryz.func67 rfl trivial ?_ rfl
  simp only [Tryz.ntmps67, List.size_toArray, List.length_cons, List.length_nil, Nat.reduceAdd, Nat.reduceSub, Array.replicate_succ, Array.replicate_zero, List.push_toArray, List.append_toArray, List.nil_append, List.cons_append]
  gi_wp2
  gi_loopw [11] (fun iv wr => ∃ i : Nat, i ≤ t.length ∧ iv = .int .i64 i ∧ Hid (J (fsU (rateF t) i).length wr) ∧ Hid (KpC w0.heap.size B2 W wr)) (fun iv _ => t.length - (intOf iv).toNat)
  case atStart => exact ⟨0, Nat.zero_le _, rfl, H0, hide ⟨rfl, rfl, rfl, Nat.le_refl _, fun _ _ h _ => h⟩⟩
  case round =>
    obtain ⟨i, hi, rfl, hJs, hnx⟩ := hrel
    have hbw : Below w0.heap.size w0 wr := (unhide HW0).trans ((unhide hnx).below hz0)
    have HBW := hide hbw
    by_cases hlt : i < t.length
    · obtain ⟨b2, o2, cap2, hcf, hc⟩ : ∃ b2 o2 cap2, Value.slice ta t.length tc = .slice (some ⟨b2, o2, none⟩) t.length cap2 ∧ EC w0 b2 o2 t := by
        rcases unhide HT with ⟨h, _⟩ | h
        · rw [h] at hlt; simp at hlt
        · exact h
      simp only [Value.slice.injEq, true_and] at hcf
      obtain ⟨rfl, rfl⟩ := hcf
      have HC := hide hc
      obtain ⟨c0, c1, c2⟩ := (hc.kept hbw).2 i hlt
      have i1 : (0 : Int) ≤ (i : Int) := by omega
      have i2 : (i : Int) < (t.length : Int) := by omega
      have hBtc := (unhide hnx).cell (unhide HBT) (.inr hBt2)
      have hBtl := Rule.lt_of_cell hBtc
      have HWR2 : B2 ≤ wr.heap.size := Nat.le_trans hW2 (unhide hnx).size
      have HQ : Hid (rateF t i = (t.getD i E0).2.2) := hide rfl
      obtain ⟨WA, hWA⟩ : ∃ WA, WA = wr.alloc (.cells #[.string (t.getD i E0).1, .string (t.getD i E0).2.1, .int .i64 (t.getD i E0).2.2] 52) := ⟨_, rfl⟩
      have hbA : Below wr.heap.size wr WA := by rw [hWA]; exact Rule.below_alloc _ _
      have hAq : WA.cell? ⟨wr.heap.size, 2, none⟩ = some (.int .i64 (t.getD i E0).2.2) := by
        rw [hWA]; exact ((Boxes.At.new wr #[.string (t.getD i E0).1, .string (t.getD i E0).2.1, .int .i64 (t.getD i E0).2.2] 52) 2 _ rfl).1
      have hAs : WA.heap.size = wr.heap.size + 1 := by rw [hWA]; simp
      obtain ⟨LB, hLB⟩ : ∃ LB, LB = wr.heap.size := ⟨_, rfl⟩
      rw [← hLB] at hAq hAs
      have HLB := hide hLB
      clear hLB
      have hBtA := (hbA.cell (p := ⟨Bt, 0, none⟩) hBtl).trans hBtc
      have HWA := hide hWA
      have HBA := hide hbA
      have HAQ := hide hAq
      clear hc hbw hWA hbA hAq
      rw [← unhide HQ] at HAQ HWA
      have HRC : Hid (∀ W', Below w0.heap.size w0 W' → ∀ j, j < t.length → W'.cell? ⟨b2, o2 + j * 3, none⟩ = some (.string (t.getD j E0).1) ∧ W'.cell? ⟨b2, o2 + j * 3 + 1, none⟩ = some (.string (t.getD j E0).2.1) ∧ W'.cell? ⟨b2, o2 + j * 3 + 2, none⟩ = some (.int .i64 (rateF t j))) := hide (fun W' hW' j hj => ((unhide HC).kept hW').2 j hj)
      rw [← unhide HQ] at c2
      generalize (t.getD i E0).1 = s at *
      generalize (t.getD i E0).2.1 = m at *
      gi_wp2
      rw [← unhide HWA, ← unhide HLB]
      clear c0 c1 c2 hBtc
      have hBW0 : Below w0.heap.size w0 WA := (unhide HBW).trans ((unhide HBA).mono (unhide HBW).size)
      have HBW0 := hide hBW0
      have hz0A := hBW0.size
      clear hBW0
      gi_loopw [5, 18] (fun pv jv wr2 => ∃ (j : Nat) (pa : Option Addr) (pc : Nat), j ≤ t.length ∧ jv = .int .i64 j ∧ pv = .slice pa (plc (rateF t) (rateF t i) j).length pc ∧ Hid (OwnN wr2 WA.heap.size (.slice pa (plc (rateF t) (rateF t i) j).length pc) ((plc (rateF t) (rateF t i) j).map fun (x : Nat) => (x : Int))) ∧ Hid (Below WA.heap.size WA wr2)) (fun _ jv _ => t.length - (intOf jv).toNat)
      case atStart => exact ⟨0, none, 0, Nat.zero_le _, rfl, rfl, hide (OwnN.nil _ _), hide (Below.refl _ _)⟩
      case round =>
        obtain ⟨j, pa, pc, hj, rfl, rfl, hO, hB⟩ := hrel
        have hq := ((unhide hB).cell (p := ⟨LB, 2, none⟩) (by show LB < _; omega)).trans (unhide HAQ)
        have hBt3 := ((unhide hB).cell (p := ⟨Bt, 0, none⟩) (Rule.lt_of_cell hBtA)).trans hBtA
        have hzA := (unhide hB).size
        have hLBw : LB < wr.heap.size := by omega
        by_cases hjl : j < t.length
        · obtain ⟨c0, c1, c2⟩ := unhide HRC wr ((unhide HBW0).trans ((unhide hB).mono hz0A)) j hjl
          have j1 : (0 : Int) ≤ (j : Int) := by omega
          have j2 : (j : Int) < (t.length : Int) := by omega
          have HPS := hide (plc_succ (rateF t) (rateF t i) j)
          have hpl := plc_len (rateF t) (rateF t i) j
          by_cases he : rateF t j = rateF t i
          · rw [if_pos he] at HPS
            have HLN : Hid ((plc (rateF t) (rateF t i) (j + 1)).length = (plc (rateF t) (rateF t i) j).length + 1) := hide (by rw [unhide HPS]; simp)
            have HMP : Hid ((plc (rateF t) (rateF t i) (j + 1)).map (fun (x : Nat) => (x : Int)) = (plc (rateF t) (rateF t i) j).map (fun (x : Nat) => (x : Int)) ++ [(j : Int)]) := hide (by rw [unhide HPS]; simp)
            rw [he] at c2
            have hb1 := Rule.below_alloc wr (.cells #[.string (t.getD j E0).1, .string (t.getD j E0).2.1, .int .i64 (rateF t i)] 52)
            have hb2 := hb1.trans ((Rule.below_alloc _ (.cells #[.int .i64 j] 3)).mono hb1.size)
            have HO2 : Hid (OwnN ((wr.alloc (.cells #[.string (t.getD j E0).1, .string (t.getD j E0).2.1, .int .i64 (rateF t i)] 52)).alloc (.cells #[.int .i64 j] 3)) WA.heap.size (.slice pa (plc (rateF t) (rateF t i) j).length pc) ((plc (rateF t) (rateF t i) j).map fun (x : Nat) => (x : Int))) := hide ((unhide hO).kept (growB hb2 none))
            have HN2 : Hid (((wr.alloc (.cells #[.string (t.getD j E0).1, .string (t.getD j E0).2.1, .int .i64 (rateF t i)] 52)).alloc (.cells #[.int .i64 j] 3)).heap[wr.heap.size + 1]? = some (.cells #[.int .i64 j] 3 (0, 0))) := hide (by
              have := (MapKept.heap_alloc (wr.alloc (.cells #[.string (t.getD j E0).1, .string (t.getD j E0).2.1, .int .i64 (rateF t i)] 52)) (.cells #[.int .i64 j] 3)).1
              rwa [World.size_alloc] at this)
            have HB2 := hide ((unhide hB).trans (hb2.mono hzA))
            clear hb1 hb2 he
            generalize (t.getD j E0).1 = s2 at *
            generalize (t.getD j E0).2.1 = m2 at *
            generalize rateF t i = q at *
            have hml : ((plc (rateF t) q j).map fun (x : Nat) => (x : Int)).length = (plc (rateF t) q j).length := by simp
            gi_wp2_with (first | (gi_at_builtin; refine wpListIn_appN rfl _ _ rfl WA.heap.size (.slice pa (plc (rateF t) q j).length pc) ((plc (rateF t) q j).map fun (x : Nat) => (x : Int)) (j : Int) (wr.heap.size + 1) rfl (unhide HO2) rfl (unhide HN2) (by rw [hml]; omega) (by simp; omega) ?_; intro g5 c5 w5 ho5 hg5 hl5) | gi_in)
            have HO5 : Hid (OwnN w5 WA.heap.size (.slice (some ⟨g5, 0, none⟩) (plc (rateF t) q (j + 1)).length c5) ((plc (rateF t) q (j + 1)).map fun (x : Nat) => (x : Int))) := hide (by rw [unhide HMP, unhide HLN]; rw [hml] at ho5; exact ho5)
            have HB5 := hide ((unhide HB2).grown hg5 (unhide HB2).size (fun b hb => (World.ownsRow.lt (unhide HO2) b hb).1))
            clear ho5 hg5 hl5
            exact ⟨⟨j + 1, some ⟨g5, 0, none⟩, c5, by omega, by go_num, by rw [unhide HLN], HO5, HB5⟩, by simp [intOf]; omega⟩
          · rw [if_neg he, List.append_nil] at HPS
            have he2 : (rateF t j == rateF t i) = false := beq_eq_false_iff_ne.2 he
            have hb1 := fun o => Rule.below_alloc wr o
            have HO2 := fun o => hide ((unhide hO).kept (growB (hb1 o) none))
            have HB2 := fun o => hide ((unhide hB).trans ((hb1 o).mono hzA))
            clear hb1 he
            generalize (t.getD j E0).1 = s2 at *
            generalize (t.getD j E0).2.1 = m2 at *
            have HRJ : Hid (rateF t j = rateF t j) := hide rfl
            gi_wp2
            go_roundw
            case rel => exact ⟨j + 1, pa, pc, by omega, by go_num, by rw [unhide HPS], by rw [unhide HPS]; exact HO2 _, HB2 _⟩
            case measure => simp [intOf]; omega
        · obtain rfl : j = t.length := by omega
          have hpos : 0 < (plc (rateF t) (rateF t i) t.length).length := List.length_pos_of_mem (plc_mem.2 ⟨hlt, rfl⟩)
          have hml : ((plc (rateF t) (rateF t i) t.length).map fun (x : Nat) => (x : Int)).length = (plc (rateF t) (rateF t i) t.length).length := by simp
          obtain ⟨g, cap, hv, hbg, hgl⟩ := World.ownsRow.form (unhide hO) (by omega)
          simp only [hml, Value.slice.injEq, true_and] at hv
          obtain ⟨rfl, rfl⟩ := hv
          have hO' : OwnN wr WA.heap.size (.slice (some ⟨g, 0, none⟩) ((plc (rateF t) (rateF t i) t.length).map fun (x : Nat) => (x : Int)).length pc) ((plc (rateF t) (rateF t i) t.length).map fun (x : Nat) => (x : Int)) := by rw [hml]; exact unhide hO
          obtain ⟨hgB, hCl⟩ := hO'.cells
          have hc0 := (hCl.2 0 (by omega)).1
          rw [Nat.add_zero, getD_map' _ _ 0 0 hpos] at hc0
          have HCL := hide hCl
          have hB1 := (unhide HBA).trans ((unhide hB).mono (unhide HBA).size)
          have HJ1 := hide (unhide HJ _ _ wr none (unhide hJs) (growB hB1 none) (by simp))
          have HK1 := hide ((unhide hnx).trans (KpC.ofBelow hB1))
          have hgB2 : B2 ≤ g := by have := unhide HLB; omega
          clear hO hO' hCl hB1 hJs HRC
          cases hf : isF (rateF t) i with
          | true =>
            rw [(plc_head hlt).2 hf] at hc0
            have HSQ : Hid ((fsU (rateF t) (i + 1)).length = (fsU (rateF t) i).length + 1) := hide (by rw [fsU_succ, hf]; simp)
            obtain ⟨fn, tmps, assign, body, hy, hR⟩ := unhide HY (fsU (rateF t) i).length #[.int .i64 (rateF t i), .slice (some ⟨g, 0, none⟩) (plc (rateF t) (rateF t i) t.length).length pc] wr (unhide HJ1) ⟨i, g, pc, hlt, hf, rfl, rfl, unhide HCL, hgB2⟩
            have HR := hide hR
            clear hR hf
            generalize rateF t i = q at *
            gi_wp2
            refine (unhide HR).mono ?_
            rintro e3 W3 (⟨rfl, hJ3, hk3⟩ | ⟨rfl, hJx3⟩)
            · have HJ3 : Hid (J (fsU (rateF t) (i + 1)).length W3) := hide (by rw [unhide HSQ]; exact hJ3)
              have HK3 := hide ((unhide HK1).trans hk3)
              clear hJ3 hk3
              gi_wp2
              go_roundw
              case rel => exact ⟨i + 1, by omega, by go_num, HJ3, HK3⟩
              case measure => simp [intOf]; omega
            · have HJ3 := hide hJx3
              clear hJx3
              gi_wp2
              refine bodyPost_ret (results_none rfl _ _ _) rfl ?_
              exact ⟨⟨_, rfl⟩, .inr ⟨_, unhide HJ3⟩⟩
          | false =>
            have hne : ((((plc (rateF t) (rateF t i) t.length).getD 0 0 : Nat) : Int) == (i : Int)) = false := beq_eq_false_iff_ne.2 (fun h => by
              have := (plc_head (rate := rateF t) hlt).1 (by omega)
              rw [hf] at this; cases this)
            have HJ3 : Hid (J (fsU (rateF t) (i + 1)).length wr) := hide (by rw [fsU_succ, hf]; simpa using unhide HJ1)
            clear hf
            generalize (plc (rateF t) (rateF t i) t.length).getD 0 0 = x0 at *
            generalize rateF t i = q at *
            gi_wp2
            refine ⟨fun f h => (by cases h), ?_⟩
            gi_wp2
            go_roundw
            case rel => exact ⟨i + 1, by omega, by go_num, HJ3, HK1⟩
            case measure => simp [intOf]; omega
    · have hk2 : i = t.length := by omega
      subst hk2
      gi_wp2
      go_end0
      exact ⟨⟨_, rfl⟩, .inl ⟨_, rfl, unhide hJs⟩⟩

/-- what placesByRate hands out, as the loop over it wants it -/
theorem pl_stops (n : Nat) (hn : 1 ≤ n) (Bt B2 : Nat) (w0 : World) (ta : Option Addr) (tc : Nat) (t : List E) (hT : ER w0 (.slice ta t.length tc) t) (h6 : t.length ≤ 6)
    (h02 : w0.heap.size ≤ B2) (hBt2 : B2 ≤ Bt) (w : World) (hW0 : Below w0.heap.size w0 w) (hW2 : B2 ≤ w.heap.size) (hBts : Bt < w.heap.size) (hBt : w.cell? ⟨Bt, 0, none⟩ = some (.slice ta t.length tc)) :
    SeqP Fence.wide n Tryz.prog 67 #[.pointer (some ⟨Bt, 0, none⟩)] (PrP (rateF t) t.length B2) (KpC w0.heap.size B2) (fun k => k = (fsU (rateF t) t.length).length) w :=
  fun l J Jy W hW hJ _ hY h0 => pl1 n hn l Bt B2 w0 ta tc t hT h6 h02 hBt2 J Jy W (hW0.trans (hW.mono hW0.size)) (Nat.le_trans hW2 hW.size) hJ hY ((hW.cell (p := ⟨Bt, 0, none⟩) hBts).trans hBt) h0

theorem placesByRate (n : Nat) (v : Value) (hv : v.oneCell' = true) (w : World) :
    CallsIn Fence.wide n Tryz.prog 44 #[v] w fun e w' => e = .returned (.func (.func 67) #[] #[.pointer (some ⟨w.heap.size, 0, none⟩)]) ∧ w' = w.alloc (.cells #[v] 29) := by
  refine callsIn_of_wp Tryz.func44 rfl trivial ?_ rfl
  simp only [Tryz.ntmps44, List.size_toArray, List.length_cons, List.length_nil, Nat.reduceAdd, Nat.reduceSub, Array.replicate_succ, Array.replicate_zero, List.push_toArray, List.append_toArray, List.nil_append, List.cons_append]
  gi_wp2
  go_ret
  exact ⟨rfl, rfl⟩

theorem fsU_mem {rate : Nat → Int} {n j : Nat} (hj : j < n) : ∃ m, m ∈ fsU rate n ∧ rate m = rate j := by
  induction j using Nat.strongRecOn with
  | ind j ih =>
    cases h : isF rate j with
    | true => exact ⟨j, by simp [fsU, hj, h], rfl⟩
    | false =>
      unfold isF at h
      rw [List.all_eq_false] at h
      obtain ⟨m, hm, h2⟩ := h
      have hm' : m < j := by simpa using hm
      have h3 : rate m = rate j := by simpa using h2
      obtain ⟨m', a, b⟩ := ih m hm' (by omega)
      exact ⟨m', a, b.trans h3⟩
end Go.Proofs.YtnchgeiinkaefaaGreatDoor.Bill
end

section
/-
  impl.rateRows: what the rows' taxes are between two rates; impl.rowSums on any rows in bounds.
-/
namespace Go.Proofs.YtnchgeiinkaefaaGreatDoor.Bill
set_option linter.unusedVariables false
open Go.RowKit Evs
open Tax
open BRow (R R0 RC RR ROwn RN)
open Coin (partV partB)
open Uses (U)

theorem fsU_mono (rate : Nat → Int) (i d : Nat) : (fsU rate i).length ≤ (fsU rate (i + d)).length := by
  induction d with
  | zero => exact Nat.le_refl _
  | succ d ih => rw [← Nat.add_assoc, fsU_succ, List.length_append]; omega
theorem isF_no {rate : Nat → Int} {i : Nat} (h : isF rate i = false) : ∃ f, f < i ∧ rate f = rate i := by
  unfold isF at h
  rw [List.all_eq_false] at h
  obtain ⟨m, hm, h2⟩ := h
  exact ⟨m, by simpa using hm, by simpa using h2⟩
theorem isF_yes {rate : Nat → Int} {i : Nat} (h : isF rate i = true) : ∀ m, m < i → rate m ≠ rate i := by
  intro m hm
  unfold isF at h
  rw [List.all_eq_true] at h
  have := h m (by simpa using hm)
  simpa using this
theorem taxI_add (net rate : Nat → Int) (n i : Nat) : ∀ d, (fsU rate (i + d)).length = (fsU rate i).length → ∀ j, taxI net rate n (i + d) j = taxI net rate n i j
  | 0, _, j => rfl
  | d + 1, h, j => by
    rw [← Nat.add_assoc] at h ⊢
    have h1 := fsU_mono rate i d
    rw [fsU_succ, List.length_append] at h
    have hf : isF rate (i + d) = false := by
      cases hh : isF rate (i + d)
      · rfl
      · rw [hh] at h; simp at h; omega
    obtain ⟨f, hfl, he⟩ := isF_no hf
    rw [taxI_skip hfl he]
    refine taxI_add net rate n i d ?_ j
    rw [hf] at h
    simpa using h
/-- the taxes behind as many rates are the same -/
theorem taxI_len {net rate : Nat → Int} {n i i2 : Nat} (h : (fsU rate i).length = (fsU rate i2).length) (j : Nat) : taxI net rate n i j = taxI net rate n i2 j := by
  rcases Nat.le_total i i2 with hle | hle
  · obtain ⟨d, rfl⟩ : ∃ d, i2 = i + d := ⟨i2 - i, by omega⟩
    exact (taxI_add net rate n i d h.symm j).symm
  · obtain ⟨d, rfl⟩ : ∃ d, i = i2 + d := ⟨i - i2, by omega⟩
    exact taxI_add net rate n i2 d h j
theorem fsU_next {rate : Nat → Int} {i : Nat} (h : isF rate i = true) : (fsU rate (i + 1)).length = (fsU rate i).length + 1 := by
  rw [fsU_succ, h, if_pos rfl]; simp
/-- one rate more -/
theorem taxed_step {l : List R} {rate : Nat → Int} {n i : Nat} (hl : l.length = n) (hF : isF rate i = true) :
    rowsF (rowsF l (taxI (netF l) rate n i)) (spreadF (netF (rowsF l (taxI (netF l) rate n i))) rate (oldF (rowsF l (taxI (netF l) rate n i))) n (rate i) (sumQ (netF (rowsF l (taxI (netF l) rate n i))) rate n (rate i)) (partV (sumQ (netF (rowsF l (taxI (netF l) rate n i))) rate n (rate i)) (rate i) 10000)) = rowsF l (taxI (netF l) rate n (i + 1)) := by
  rw [rowsF_rows, netF_rows]
  refine rowsF_congr l fun j hj => ?_
  rw [spread_old (o2 := taxI (netF l) rate n i) (oldF_rows l _ hj)]
  exact taxI_step (isF_yes hF) j

/-- rows whose amounts are in bounds -/
def bdR (l : List R) : Prop := l.length ≤ 6 ∧ ∀ x ∈ l, (0 ≤ x.2.1 ∧ x.2.1 ≤ 1000000000000000) ∧ (0 ≤ x.2.2 ∧ x.2.2 ≤ 1000000000000000)
theorem sums_bdB {l : List R} (h : bdR l) (k : Nat) : (0 ≤ netS (l.take k) ∧ netS (l.take k) ≤ 6000000000000000) ∧ (0 ≤ taxS (l.take k) ∧ taxS (l.take k) ≤ 6000000000000000) := by
  obtain ⟨h1, h2⟩ := h
  have hl : (l.take k).length ≤ 6 := by simp; omega
  have a := sum_bd (·.2.1) 1000000000000000 (l.take k) (fun x hx => (h2 x (List.mem_of_mem_take hx)).1)
  have b := sum_bd (·.2.2) 1000000000000000 (l.take k) (fun x hx => (h2 x (List.mem_of_mem_take hx)).2)
  unfold netS taxS
  omega

set_option maxHeartbeats 1000000 in
/-- impl.rowSums, of rows in bounds -/
theorem sumsB (v : Value) (l : List R) (w : World) (h : RR w v l) (hk : bdR l) :
    Calls Tryz.prog 46 #[v] w fun x w' => x = .returned (.tuple #[.int .i64 (netS l), .int .i64 (taxS l)]) ∧ Below w.heap.size w w' := by
  have h6 := hk.1
  rcases h with ⟨rfl, a, c, rfl⟩ | ⟨b, o, cap, rfl, hc⟩
  · go_enter Tryz.func46, Tryz.ntmps46
    go_wp2
    refine wp_loop_rounds 1 ?_
    rw [rounds_succ]
    go_wp2
    go_ret2
    exact ⟨rfl, Below.refl _ _⟩
  · have HC := hide hc
    have hbs := hc.1
    have HBD := hide (fun k => sums_bdB hk k)
    have HST : Hid (∀ k, k < l.length → netS (l.take (k + 1)) = netS (l.take k) + (l.getD k R0).2.1 ∧ taxS (l.take (k + 1)) = taxS (l.take k) + (l.getD k R0).2.2) := hide (fun k hk' => ⟨sum_take (·.2.1) l k hk', sum_take (·.2.2) l k hk'⟩)
    have HF := hide hk.2
    clear hc
    go_enter Tryz.func46, Tryz.ntmps46
    go_wp2
    go_loopw [4, 5, 10] (fun a b i wr => ∃ k : Nat, k ≤ l.length ∧ i = .int .i64 k ∧ a = .int .i64 (netS (l.take k)) ∧ b = .int .i64 (taxS (l.take k)) ∧ Hid (Below w.heap.size w wr)) (fun _ _ i _ => l.length - (intOf i).toNat)
    case atStart => exact ⟨0, Nat.zero_le _, rfl, rfl, rfl, hide (Below.refl _ _)⟩
    case round =>
      obtain ⟨k, hk', rfl, rfl, rfl, hb⟩ := hrel
      by_cases hlt : k < l.length
      · obtain ⟨c0, c1, c2⟩ := ((unhide HC).kept (unhide hb)).2 k hlt
        obtain ⟨s1, s2⟩ := unhide HST k hlt
        have b1 := unhide HBD k
        have b2 := unhide HF (l.getD k R0) (by simp [List.getD, hlt])
        have i1 : (0 : Int) ≤ (k : Int) := by omega
        have i2 : (k : Int) < (l.length : Int) := by omega
        have S1 := hide s1
        have S2 := hide s2
        clear s1 s2
        generalize l.getD k R0 = x at *
        obtain ⟨s, m, q⟩ := x
        simp only at c0 c1 c2 b2 S1 S2
        generalize netS (l.take k) = n1 at *
        generalize taxS (l.take k) = n2 at *
        go_wp2
        exact ⟨⟨k + 1, by omega, by go_num, by rw [unhide S1], by rw [unhide S2], hide ((unhide hb).alloc (unhide hb).size _)⟩, by simp [intOf]; omega⟩
      · obtain rfl : k = l.length := by omega
        rw [List.take_length]
        go_wp2
        go_ret2
        exact ⟨rfl, unhide hb⟩

theorem netS_rowsF (l : List R) (f : Nat → Int) : netS (rowsF l f) = sumA (netF l) l.length ∧ taxS (rowsF l f) = sumA f l.length := by
  have key : ∀ (g : Nat → Int) (n : Nat), ((List.range n).map g).sum = sumA g n := by
    intro g n
    induction n with
    | zero => simp [sumA, sumG]
    | succ n ih => rw [List.range_succ, List.map_append, List.sum_append, ih, sumA_succ]; simp
  constructor
  · unfold netS rowsF; rw [List.map_map]; exact key _ _
  · unfold taxS rowsF; rw [List.map_map]; exact key _ _
theorem rated_bd {us : List U} {t : List E} (h : okL t = true) : bdR (rated us t) := by
  obtain ⟨h6, h2⟩ := okL_parts h
  refine ⟨by unfold rated; rw [rowsF_len, rowsN_len]; exact h6, fun x hx => ?_⟩
  unfold rated rowsF at hx
  rw [List.mem_map] at hx
  obtain ⟨j, hj, rfl⟩ := hx
  rw [List.mem_range, rowsN_len] at hj
  have h3 := (h2 j hj).2
  have ho := owed_bd (net := netJ us t) (rate := rateF t) hj (netJ_bd us t j) h3
  refine ⟨?_, ?_⟩
  · show 0 ≤ netF (rowsN us t t.length) j ∧ _
    rw [netF_rowsN]
    exact netJ_bd us t j
  · simp only
    omega
theorem rated_sums (us : List U) (t : List E) : netS (rated us t) = sumA (netJ us t) t.length ∧ taxS (rated us t) = sumA (owed (netJ us t) (rateF t) t.length) t.length := by
  have := netS_rowsF (rowsN us t t.length) (owed (netJ us t) (rateF t) t.length)
  rw [rowsN_len, netF_rowsN] at this
  exact this
/-- the last check tells the code -/
theorem rateB_last {us : List U} {t : List E} (h : okL t = true) (h1 : ∀ j, j < t.length → hasJ us t j = true) (h3 : allTold (netJ us t) (rateF t) t.length = true) : rateB us t = Coin.okB (netS (rated us t) + taxS (rated us t)) := by
  obtain ⟨e1, e2⟩ := rated_sums us t
  rw [e1, e2]
  cases h2 : Coin.okB (sumA (netJ us t) t.length) with
  | true => exact rateB_end h1 h2 h3
  | false =>
    rw [rateB_over (Nat.le_refl _) h2]
    have a0 := sumA_nonneg (fun j => (netJ_bd us t j).1) t.length
    have b0 : 0 ≤ sumA (owed (netJ us t) (rateF t) t.length) t.length := by
      have hb := (sums_bdB (rated_bd (us := us) h) t.length).2.1
      rw [List.take_of_length_le (by unfold rated; rw [rowsF_len, rowsN_len]; exact Nat.le_refl _), e2] at hb
      exact hb
    symm
    cases hh : Coin.okB (sumA (netJ us t) t.length + sumA (owed (netJ us t) (rateF t) t.length) t.length) with
    | false => rfl
    | true =>
      rw [Coin.okB_iff] at hh
      have hn : ¬ Coin.okB (sumA (netJ us t) t.length) = true := by rw [h2]; simp
      rw [Coin.okB_iff] at hn
      omega
end Go.Proofs.YtnchgeiinkaefaaGreatDoor.Bill
end

section
/-
  impl.rateRows: what its first loop keeps, and one append.
-/
namespace Go.Proofs.YtnchgeiinkaefaaGreatDoor.Bill
set_option linter.unusedVariables false
open Go.RowKit Evs Go.Shelf
open Tax
open BRow (R R0 RC RR ROwn RN)

/-- the rows of what was yielded -/
def rowY (pre : List Y) : List R := pre.map fun x => (x.1, x.2.1, 0)
theorem rowY_len (pre : List Y) : (rowY pre).length = pre.length := by simp [rowY]
theorem rowY_snoc (pre : List Y) (x : Y) : rowY (pre ++ [x]) = rowY pre ++ [(x.1, x.2.1, 0)] := by simp [rowY]
theorem rowY_seq (us : List Uses.U) (t : List E) (n : Nat) : rowY (seqY us t n) = rowsN us t n := by
  unfold rowY seqY rowsN; rw [List.map_map]; rfl

/-- between two rounds of the first loop -/
def LI (w : World) (S n Z : Nat) (pre : List Y) (W : World) : Prop :=
  ((W.cell? ⟨w.heap.size, 0, none⟩ = some (.slice none 0 0) ∧ W.frozen? ⟨w.heap.size, 0, none⟩ = false) ∧ (W.cell? ⟨w.heap.size + 1, 0, none⟩ = some .nilIface ∧ W.frozen? ⟨w.heap.size + 1, 0, none⟩ = false) ∧
    (W.cell? ⟨S + 1, 0, none⟩ = some (.slice (some ⟨S, 0, none⟩) pre.length n) ∧ W.frozen? ⟨S + 1, 0, none⟩ = false) ∧ (0 < n → ROwn W S (padR n (rowY pre))) ∧ Z ≤ W.heap.size ∧ (∀ x ∈ pre, x.2.2 = true)) ∧ Below w.heap.size w W
/-- when it stopped -/
def LX (w : World) (c : Code) (pre : List Y) (W : World) : Prop :=
  (c = .ret ∧ (∃ x ∈ pre, x.2.2 = false) ∧ W.cell? ⟨w.heap.size, 0, none⟩ = some (.slice none 0 0) ∧ W.cell? ⟨w.heap.size + 1, 0, none⟩ = some (.iface 84 (.int .i64 6))) ∧ Below w.heap.size w W

theorem LI_own (w : World) (S n Z B : Nat) (hB : w.heap.size ≤ B) : OwnFrom B (LI w S n Z) :=
  OwnFrom.and (Own.from (fun pre A B row hs hg hr => ⟨⟨cell_kept hs.1.1 hg hr, (frozen_kept hs.1.1 hg hr).trans hs.1.2⟩, ⟨cell_kept hs.2.1.1 hg hr, (frozen_kept hs.2.1.1 hg hr).trans hs.2.1.2⟩, ⟨cell_kept hs.2.2.1.1 hg hr, (frozen_kept hs.2.2.1.1 hg hr).trans hs.2.2.1.2⟩, fun h0 => rown_keptR (hs.2.2.2.1 h0) (padR_pos _ h0) hg hr, Nat.le_trans hs.2.2.2.2.1 hg.size, hs.2.2.2.2.2⟩) _) (ownFrom_below (Nat.le_refl _) hB)
theorem LX_own (w : World) (c : Code) (B : Nat) (hB : w.heap.size ≤ B) : OwnFrom B (LX w c) :=
  OwnFrom.and (Own.from (fun pre A B row hs hg hr => ⟨hs.1, hs.2.1, cell_kept hs.2.2.1 hg hr, cell_kept hs.2.2.2 hg hr⟩) _) (ownFrom_below (Nat.le_refl _) hB)

theorem rown_other {W : World} {b : Nat} {l : List R} (h : ROwn W b l) {j : Nat} (hj : b ≠ j) (o : Nat) (u : Value) : ROwn (W.setCell ⟨j, o, none⟩ u) b l := rown_off h u (fun e => hj e.symm)

/-- the world behind an append -/
abbrev appW (W : World) (S k n : Nat) (s : ByteArray) (m : Int) : World :=
  ((((W.alloc (.cells #[.string s, .int .i64 m, .int .i64 0] 55)).setCell ⟨S, k * 3, none⟩ (.string s)).setCell ⟨S, k * 3 + 1, none⟩ (.int .i64 m)).setCell ⟨S, k * 3 + 2, none⟩ (.int .i64 0))

theorem app_LI {w W : World} {S n Z : Nat} {pre : List Y} (s : ByteArray) (m : Int) (hS : w.heap.size + 2 ≤ S) (hZ : S + 2 ≤ Z) (h : LI w S n Z pre W) (hlen : pre.length < n) :
    (∀ ty, (Builtin.append_ #[26, 26] ty #[.slice (some ⟨S, 0, none⟩) pre.length n, .slice (some ⟨W.heap.size, 0, none⟩) 1 1]).run Tryz.prog (W.alloc (.cells #[.string s, .int .i64 m, .int .i64 0] 55)) = .ok (.slice (some ⟨S, 0, none⟩) (pre.length + 1) n) (appW W S pre.length n s m)) ∧
    (appW W S pre.length n s m).cell? ⟨S + 1, 0, none⟩ = some (.slice (some ⟨S, 0, none⟩) pre.length n) ∧ (appW W S pre.length n s m).frozen? ⟨S + 1, 0, none⟩ = false ∧
    KeepsOthers W ((appW W S pre.length n s m).setCell ⟨S + 1, 0, none⟩ (.slice (some ⟨S, 0, none⟩) (pre.length + 1) n)) ∧
    KpC w.heap.size (S + 2) W ((appW W S pre.length n s m).setCell ⟨S + 1, 0, none⟩ (.slice (some ⟨S, 0, none⟩) (pre.length + 1) n)) ∧
    LI w S n Z (pre ++ [(s, m, true)]) ((appW W S pre.length n s m).setCell ⟨S + 1, 0, none⟩ (.slice (some ⟨S, 0, none⟩) (pre.length + 1) n)) := by
  obtain ⟨⟨⟨h4, f4⟩, ⟨h5, f5⟩, ⟨h6, f6⟩, h7, h8, h9⟩, hB⟩ := h
  have hE := h7 (by omega)
  have hl : (rowY pre).length < n := by rw [rowY_len]; exact hlen
  have hrun := fun ty => app_runR s m 0 hE hl ty
  rw [rowY_len] at hrun
  have hg0 := grown_alloc W (.cells #[.string s, .int .i64 m, .int .i64 0] 55)
  have hk1 := hE.kept ((Below.refl W.heap.size W).alloc (Nat.le_refl _) (.cells #[.string s, .int .i64 m, .int .i64 0] 55))
  have hk2 := hk1.set (k := pre.length) (by rw [padR_len (by omega)]; exact hlen) (s, m, 0)
  have hst := padR_step hl (s, m, 0)
  rw [rowY_len] at hst
  rw [hst, ← rowY_snoc pre (s, m, true)] at hk2
  rw [Nat.zero_add] at hk2
  have x6 : (appW W S pre.length n s m).cell? ⟨S + 1, 0, none⟩ = some (.slice (some ⟨S, 0, none⟩) pre.length n) := by
    rw [World.cell?_setCell_other _ _ _ _ (by simp), World.cell?_setCell_other _ _ _ _ (by simp), World.cell?_setCell_other _ _ _ _ (by simp)]
    exact cell_kept h6 hg0 (by simp)
  have y6 : (appW W S pre.length n s m).frozen? ⟨S + 1, 0, none⟩ = false := by
    rw [World.frozen?_setCell, World.frozen?_setCell, World.frozen?_setCell]
    exact (frozen_kept h6 hg0 (by simp)).trans f6
  have hlow : ∀ (j : Nat) (v : Value), j < S → W.cell? ⟨j, 0, none⟩ = some v → (appW W S pre.length n s m).cell? ⟨j, 0, none⟩ = some v := fun j v hj hc => by
    rw [World.cell?_setCell_other _ _ _ _ (by simp <;> omega), World.cell?_setCell_other _ _ _ _ (by simp <;> omega), World.cell?_setCell_other _ _ _ _ (by simp <;> omega)]
    exact cell_kept hc hg0 (by simp)
  have hlof : ∀ (j : Nat) (v : Value), W.cell? ⟨j, 0, none⟩ = some v → (appW W S pre.length n s m).frozen? ⟨j, 0, none⟩ = W.frozen? ⟨j, 0, none⟩ := fun j v hc => by
    rw [World.frozen?_setCell, World.frozen?_setCell, World.frozen?_setCell]
    exact frozen_kept hc hg0 (by simp)
  have hS' : w.heap.size ≤ S := by omega
  refine ⟨hrun, x6, y6, ?_, ?_, ⟨⟨?_, ?_⟩, ⟨?_, ?_⟩, ⟨?_, ?_⟩, fun _ => rown_other hk2 (by omega) _ _, ?_, ?_⟩, ?_⟩
  · exact (((((KeepsOthers.alloc _ _).trans (KeepsOthers.setCell _ _ _)).trans (KeepsOthers.setCell _ _ _)).trans (KeepsOthers.setCell _ _ _))).trans (KeepsOthers.setCell _ _ _)
  · refine ((((KpC.grown hg0 (by simp)).trans (KpC.grown (set_grown _ _ _ _) ?_)).trans (KpC.grown (set_grown _ _ _ _) ?_)).trans (KpC.grown (set_grown _ _ _ _) ?_)).trans (KpC.grown (set_grown _ _ _ _) ?_)
    all_goals (intro j e; simp only [Option.some.injEq] at e; omega)
  · rw [World.cell?_setCell_other _ _ _ _ (by simp <;> omega)]; exact hlow _ _ (by omega) h4
  · rw [World.frozen?_setCell]; exact (hlof _ _ h4).trans f4
  · rw [World.cell?_setCell_other _ _ _ _ (by simp <;> omega)]; exact hlow _ _ (by omega) h5
  · rw [World.frozen?_setCell]; exact (hlof _ _ h5).trans f5
  · rw [World.cell?_setCell_same _ _ _ x6]; simp
  · rw [World.frozen?_setCell]; exact y6
  · simp; omega
  · intro x hx
    rcases List.mem_append.1 hx with hx | hx
    · exact h9 x hx
    · rw [List.mem_singleton] at hx; rw [hx]
  · exact ((((hB.alloc hB.size _).setCell (p := ⟨S, pre.length * 3, none⟩) hS' _).setCell (p := ⟨S, pre.length * 3 + 1, none⟩) hS' _).setCell (p := ⟨S, pre.length * 3 + 2, none⟩) hS' _).setCell (p := ⟨S + 1, 0, none⟩) (by simp <;> omega) _
end Go.Proofs.YtnchgeiinkaefaaGreatDoor.Bill
end

section
/-
  What the listed package variables give, a handle of the type error among them; two openers of slices.
-/
namespace Go.Proofs.YtnchgeiinkaefaaGreatDoor.Laid
open Go.RowKit Go.Deep Go.ChangeShapes Go.WideShapes
open ErrA (rty hdl)

theorem etG : Tryz.prog.globalNamed "errors.errorType" = some 0 := by kernel_rfl
theorem etR : (Tryz.prog.cutTypes.find? (·.1 == "internal/reflectlite.rtype")).map (·.2) = some 170 := by kernel_rfl
theorem etOne : ((List.range Tryz.prog.types.size).filter fun t => Tryz.prog.rowNamed t [101, 114, 114, 111, 114]) = [62] := by kernel_rfl

/-- the handle of the type error, where the hypothesis lists it -/
theorem handleE {W : World} {l : List (String × DataW Unit)} (h : handlesMet Tryz.prog l W) (hm : ("errors.errorType", (Rows.laid_errors_errorType : DataW Unit)) ∈ l) : W.cell? ⟨0, 0, none⟩ = some (rty 62) := by
  obtain ⟨name, u, ty, e1, e2, e3, e4, e5⟩ := h _ hm
  have en : name = [101, 114, 114, 111, 114] := (Option.some.inj e1).symm
  subst en
  obtain rfl := Option.some.inj (etR.symm.trans e2)
  have hmm : ty ∈ (List.range Tryz.prog.types.size).filter fun t => Tryz.prog.rowNamed t [101, 114, 114, 111, 114] := List.mem_filter.2 ⟨List.mem_range.2 e3, e4⟩
  rw [etOne] at hmm
  obtain rfl := List.mem_singleton.1 hmm
  have hh : typeHandle Tryz.prog 62 = hdl 62 := by kernel_rfl
  rw [hh] at e5
  simpa using World.var?_cell etG e5 0

set_option maxRecDepth 100000 in
theorem openLinsS {H : Type} {enc : TypeId × Value → H} {w : World} {base : Nat} {held : Bool} {r : Reach} {b0 : Nat} {v : Value} {dd : DataW H} {p : List MemPlace} (hv : Value.okWide Tryz.prog w r b0 22 v) (h : DataW.Trod enc Tryz.prog w base (fun _ => true) held 22 v dd p) :
    ∃ v' l, v = v' ∧ Evs.ER w v' l ∧ l.length ≤ maxLen ∧ ∀ u ∈ l, u.1.size ≤ maxLen ∧ u.2.1.size ≤ maxLen := by
  obtain ⟨a, len, cap, rfl⟩ := okWide_slice Tryz.underlying22 hv
  obtain ⟨fuel, hf⟩ := h
  obtain ⟨v, l, e, f⟩ := Bills.openLins hf
  have : Value.slice a len cap = v := by simpa [Value.cells] using e
  exact ⟨_, l, this, f⟩
set_option maxRecDepth 100000 in
theorem openEvsS {H : Type} {enc : TypeId × Value → H} {w : World} {base : Nat} {held : Bool} {r : Reach} {b0 : Nat} {v : Value} {dd : DataW H} {p : List MemPlace} (hv : Value.okWide Tryz.prog w r b0 23 v) (h : DataW.Trod enc Tryz.prog w base (fun _ => true) held 23 v dd p) :
    ∃ v' l, v = v' ∧ Evs.ER w v' l ∧ l.length ≤ maxLen ∧ ∀ u ∈ l, u.1.size ≤ maxLen ∧ u.2.1.size ≤ maxLen := by
  obtain ⟨a, len, cap, rfl⟩ := okWide_slice Tryz.underlying23 hv
  obtain ⟨fuel, hf⟩ := h
  obtain ⟨v, l, e, f⟩ := Evs.openEvs hf
  have : Value.slice a len cap = v := by simpa [Value.cells] using e
  exact ⟨_, l, this, f⟩
theorem lt_cell {W : World} {b o : Nat} {v : Value} (h : W.cell? ⟨b, o, none⟩ = some v) : b < W.heap.size := Evs.lt_of_cell h
end Go.Proofs.YtnchgeiinkaefaaGreatDoor.Laid
end

section
/-
  impl.rateRows: what its second loop keeps, and one rate.
-/
namespace Go.Proofs.YtnchgeiinkaefaaGreatDoor.Bill
set_option linter.unusedVariables false
open Go.RowKit Evs Go.Shelf
open Tax
open BRow (R R0 RC RR ROwn RN)
open Coin (partV partB)
open Ints (Cells)
open Uses (U)

/-- the rows, the taxes of the first i lines' rates told -/
noncomputable def rowsT (us : List U) (t : List E) (i : Nat) : List R := rowsF (rowsN us t t.length) (taxI (netJ us t) (rateF t) t.length i)
theorem rowsT_len (us : List U) (t : List E) (i : Nat) : (rowsT us t i).length = t.length := by unfold rowsT; rw [rowsF_len, rowsN_len]
theorem rowsT_same {us : List U} {t : List E} {i j : Nat} (h : (fsU (rateF t) i).length = (fsU (rateF t) j).length) : rowsT us t i = rowsT us t j := rowsF_congr _ fun m _ => taxI_len h m
theorem rowsT_zero (us : List U) (t : List E) : rowsT us t 0 = rowsN us t t.length := by
  unfold rowsT
  refine (rowsF_congr _ fun j hj => ?_).trans (rowsF_old _)
  rw [oldF_rowsN us t (by rw [rowsN_len] at hj; exact hj)]
  rfl
theorem rowsT_end (us : List U) (t : List E) : rowsT us t t.length = rated us t := by
  unfold rowsT rated
  exact rowsF_congr _ fun j hj => taxI_end _ _ (by rw [rowsN_len] at hj; exact hj)

/-- between two rounds of the second loop -/
def LJ (w : World) (S D Z : Nat) (us : List U) (t : List E) (k : Nat) (W : World) : Prop :=
  ((W.cell? ⟨w.heap.size, 0, none⟩ = some (.slice none 0 0) ∧ W.frozen? ⟨w.heap.size, 0, none⟩ = false) ∧ (W.cell? ⟨w.heap.size + 1, 0, none⟩ = some .nilIface ∧ W.frozen? ⟨w.heap.size + 1, 0, none⟩ = false) ∧
    W.cell? ⟨S + 1, 0, none⟩ = some (.slice (some ⟨S, 0, none⟩) t.length t.length) ∧ (0 < t.length → ∀ i, i ≤ t.length → (fsU (rateF t) i).length = k → ROwn W S (rowsT us t i)) ∧ Z ≤ W.heap.size ∧ W.heap[D]? = some (.deferred (some [])) ∧ (∀ m ∈ (fsU (rateF t) t.length).take k, toldB (netJ us t) (rateF t) t.length m = true)) ∧ Below w.heap.size w W
/-- when it stopped -/
def LY (w : World) (D : Nat) (us : List U) (t : List E) (k : Nat) (W : World) : Prop :=
  ((∃ m, m < t.length ∧ toldB (netJ us t) (rateF t) t.length m = false) ∧ W.cell? ⟨w.heap.size, 0, none⟩ = some (.slice none 0 0) ∧ W.cell? ⟨w.heap.size + 1, 0, none⟩ = some (.iface 84 (.int .i64 6)) ∧ W.heap[D]? = some (.deferred (some []))) ∧ Below w.heap.size w W

theorem heap_kept {W W' : World} {D B : Nat} {o : Obj} {row : Option Nat} (h : W.heap[D]? = some o) (hg : W.grownBy W' row) (hr : ∀ r, row = some r → B ≤ r) (hD : D < B) : W'.heap[D]? = some o := by
  have hs : D < W.heap.size := by
    refine Nat.lt_of_not_le fun hle => ?_
    rw [Array.getElem?_eq_none hle] at h; simp at h
  rw [hg.block D hs (fun e => by have := hr D e.symm; omega)]
  exact h
theorem LJ_own (w : World) (S D Z B : Nat) (us : List U) (t : List E) (hB : w.heap.size ≤ B) (hD : D < B) : OwnFrom B (LJ w S D Z us t) :=
  OwnFrom.and (fun k A C row hs hg hr => ⟨⟨cell_kept hs.1.1 hg (fun r e => (hr r e).2), (frozen_kept hs.1.1 hg (fun r e => (hr r e).2)).trans hs.1.2⟩, ⟨cell_kept hs.2.1.1 hg (fun r e => (hr r e).2), (frozen_kept hs.2.1.1 hg (fun r e => (hr r e).2)).trans hs.2.1.2⟩, cell_kept hs.2.2.1 hg (fun r e => (hr r e).2), fun h0 i hi he => rown_keptR (hs.2.2.2.1 h0 i hi he) (by rw [rowsT_len]; exact h0) hg (fun r e => (hr r e).2), Nat.le_trans hs.2.2.2.2.1 hg.size, heap_kept hs.2.2.2.2.2.1 hg (fun r e => (hr r e).1) hD, hs.2.2.2.2.2.2⟩) (ownFrom_below (Nat.le_refl _) hB)
theorem LY_own (w : World) (D B : Nat) (us : List U) (t : List E) (hB : w.heap.size ≤ B) (hD : D < B) : OwnFrom B (LY w D us t) :=
  OwnFrom.and (fun k A C row hs hg hr => ⟨hs.1, cell_kept hs.2.1 hg (fun r e => (hr r e).2), cell_kept hs.2.2.1 hg (fun r e => (hr r e).2), heap_kept hs.2.2.2 hg (fun r e => (hr r e).1) hD⟩) (ownFrom_below (Nat.le_refl _) hB)
theorem PrP_own (rate : Nat → Int) (n B2 B : Nat) (args : Array Value) : OwnFrom B (fun k W => PrP rate n B2 k args W) := by
  rintro k A C row ⟨i, g, cap, hi, hF, hk, ha, hc, hb⟩ hg hr
  refine ⟨i, g, cap, hi, hF, hk, ha, ?_, hb⟩
  have hp : 0 < (plc rate (rate i) n).length := List.length_pos_of_mem (plc_mem.2 ⟨hi, rfl⟩)
  refine hc.kept hg ?_
  intro e
  obtain ⟨_, o, ho, hoc⟩ := hr g e.symm
  obtain ⟨o2, ho2, hoc2⟩ := cells_of_cell (hc.2 0 (by simpa using hp)).1
  rw [ho] at ho2
  simp only [Option.some.injEq] at ho2
  subst ho2
  rw [hoc] at hoc2
  simp at hoc2

/-- one rate: what impl.shareTax does to the rows -/
theorem share_LJ {w W : World} {S D Z : Nat} {us : List U} {t : List E} {k i g cap : Nat} (h6 : t.length ≤ 6) (hq : ∀ j, j < t.length → 0 ≤ rateF t j ∧ rateF t j ≤ 5000) (h : LJ w S D Z us t k W) (hi : i < t.length) (hF : isF (rateF t) i = true) (hk : k = (fsU (rateF t) i).length) (hc : Cells W g 0 ((plc (rateF t) (rateF t i) t.length).map fun (j : Nat) => (j : Int))) (hg : S + 2 ≤ g) :
    Calls Tryz.prog 45 #[.slice (some ⟨S, 0, none⟩) t.length t.length, .slice (some ⟨g, 0, none⟩) (plc (rateF t) (rateF t i) t.length).length cap, .int .i64 (rateF t i)] W fun e W' => W.grownBy W' (some S) ∧
      ((toldB (netJ us t) (rateF t) t.length i = true ∧ e = .returned .nilIface ∧ ROwn W' S (rowsT us t (i + 1))) ∨ (toldB (netJ us t) (rateF t) t.length i = false ∧ e = .returned (.iface 84 (.int .i64 6)))) := by
  have hR := h.1.2.2.2.1 (by omega) i (by omega) hk.symm
  have eN : netF (rowsT us t i) = netJ us t := by unfold rowsT; rw [netF_rows, netF_rowsN]
  have hst := taxed_step (l := rowsN us t t.length) (rate := rateF t) (n := t.length) (i := i) (rowsN_len us t _) hF
  rw [netF_rowsN] at hst
  have := shareTax S t.length g cap t.length (rowsT us t i) (rateF t) (rateF t i) W hR hc (by omega) (rowsT_len us t i) h6 (fun j _ => by rw [eN]; exact netJ_bd us t j) (hq i hi).1 (hq i hi).2
    (fun j hj he => by
      unfold rowsT
      rw [oldF_rows _ _ (by rw [rowsN_len]; exact hj)]
      unfold taxI
      rw [if_neg]
      intro hs
      obtain ⟨m, hm, h2⟩ := seen_iff.1 hs
      exact isF_yes hF m hm (h2.trans he)) (List.length_pos_of_mem (plc_mem.2 ⟨hi, rfl⟩))
  refine this.mono ?_
  rintro e W' ⟨hgr, h1⟩
  refine ⟨hgr, ?_⟩
  rcases h1 with ⟨h1, h2, h3⟩ | ⟨h1, h2⟩
  · refine .inl ⟨?_, h2, ?_⟩
    · rw [eN] at h1; exact h1
    · have e2 : rowsT us t (i + 1) = _ := hst.symm
      rw [e2]
      exact h3
  · refine .inr ⟨?_, h2⟩
    rw [eN] at h1; exact h1

/-- a rate more -/
theorem LJ_step {w W W' : World} {S D Z : Nat} {us : List U} {t : List E} {k i : Nat} (hS : w.heap.size + 2 ≤ S) (hD : S + 2 ≤ D) (h : LJ w S D Z us t k W) (hi : i < t.length) (hF : isF (rateF t) i = true) (hk : k = (fsU (rateF t) i).length) (hg : W.grownBy W' (some S)) (hR : ROwn W' S (rowsT us t (i + 1))) (ht : toldB (netJ us t) (rateF t) t.length i = true) : LJ w S D Z us t (k + 1) W' := by
  obtain ⟨⟨⟨h4, f4⟩, ⟨h5, f5⟩, h6, h7, h8, h9, h10⟩, hB⟩ := h
  have hlt : ∀ (j : Nat) (v : Value), W.cell? ⟨j, 0, none⟩ = some v → j < W.heap.size := fun j v hc => by
    obtain ⟨o, ho, _⟩ := cells_of_cell hc
    refine Nat.lt_of_not_le fun hle => ?_
    rw [Array.getElem?_eq_none hle] at ho; simp at ho
  have hnx : (fsU (rateF t) (i + 1)).length = k + 1 := by rw [fsU_next hF, hk]
  refine ⟨⟨⟨hg.cell h4 (by simp; omega), ?_⟩, ⟨hg.cell h5 (by simp; omega), ?_⟩, hg.cell h6 (by simp), fun _ j hj he => ?_, Nat.le_trans h8 hg.size, ?_, ?_⟩, ?_⟩
  · rw [World.frozen?_of_block (hg.block _ (hlt _ _ h4) (by simp; omega))]; exact f4
  · rw [World.frozen?_of_block (hg.block _ (hlt _ _ h5) (by simp; omega))]; exact f5
  · rw [rowsT_same (he.trans hnx.symm)]; exact hR
  · have hs : D < W.heap.size := by
      refine Nat.lt_of_not_le fun hle => ?_
      rw [Array.getElem?_eq_none hle] at h9; simp at h9
    rw [hg.block D hs (by simp; omega)]; exact h9
  · intro m hm
    have hat := fsU_at hi hF
    rw [← hk] at hat
    rw [List.take_add_one, hat] at hm
    rcases List.mem_append.1 hm with hm | hm
    · exact h10 m hm
    · have : m = i := by simpa using hm
      rw [this]; exact ht
  · exact hB.grown hg hB.size (fun j e => by simp only [Option.some.injEq] at e; omega)

/-- all rates are told -/
theorem LJ_told {us : List U} {t : List E} (h : ∀ m ∈ fsU (rateF t) t.length, toldB (netJ us t) (rateF t) t.length m = true) : allTold (netJ us t) (rateF t) t.length = true :=
  allTold_yes fun j hj => by
    obtain ⟨m, hm, he⟩ := fsU_mem (rate := rateF t) hj
    have := h m hm
    unfold toldB at this ⊢
    rw [← he]; exact this
end Go.Proofs.YtnchgeiinkaefaaGreatDoor.Bill
end
