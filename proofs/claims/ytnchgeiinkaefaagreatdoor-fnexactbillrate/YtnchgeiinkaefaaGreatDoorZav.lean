/-
  Texts of this proof laid together, in build order; each says of itself what it holds.
-/
import Derived.Test.YtnchgeiinkaefaaGreatDoorZau
import Derived.Test.YtnchgeiinkaefaaGreatDoorZal
import Derived.Test.YtnchgeiinkaefaaGreatDoorZaf
import Derived.Test.YtnchgeiinkaefaaGreatDoorZag
import Derived.Test.YtnchgeiinkaefaaGreatDoorZah
import Derived.Test.YtnchgeiinkaefaaGreatDoorZaa
import Derived.Test.YtnchgeiinkaefaaGreatDoorZai
import Derived.Test.YtnchgeiinkaefaaGreatDoorZap
import Derived.Test.YtnchgeiinkaefaaGreatDoorProg
import Derived.Maps.Own
import Derived.Maps.OwnSet
import Derived.Sort.KeysCollected
import Derived.Maps.OwnOps
section
/-
  The closure that placesByRate hands out: each rate with the places of all lines that have it.
-/
namespace Go.Proofs.YtnchgeiinkaefaaGreatDoor.Bill
set_option linter.unusedVariables false
open Go.RowKit Evs Go.Shelf
open Tax (plc plc_mem plc_lt plc_len rateF getD_map')
open Ints (Cells vals infoEx)
open RangeP (SeqP)

attribute [local go_sem] Oper.semAt_some

/-- line i is the first of its rate -/
def isF (rate : Nat → Int) (i : Nat) : Bool := (List.range i).all fun m => !decide (rate m = rate i)
/-- the first lines of their rates among the first k -/
def fsU (rate : Nat → Int) (k : Nat) : List Nat := (List.range k).filter (isF rate)
theorem fsU_succ (rate : Nat → Int) (k : Nat) : fsU rate (k + 1) = fsU rate k ++ if isF rate k then [k] else [] := by
  unfold fsU; rw [List.range_succ, List.filter_append]
  cases h : isF rate k <;> simp [h]
theorem fsU_at {rate : Nat → Int} {n i : Nat} (hi : i < n) (h : isF rate i = true) : (fsU rate n)[(fsU rate i).length]? = some i := by
  obtain ⟨m, rfl⟩ : ∃ m, n = (i + 1) + m := ⟨n - (i + 1), by omega⟩
  have e : fsU rate (i + 1 + m) = fsU rate (i + 1) ++ ((List.range m).map fun x => i + 1 + x).filter (isF rate) := by
    unfold fsU; rw [List.range_add, List.filter_append]
  rw [e, fsU_succ, h, if_pos rfl]
  simp
theorem plc_succ (rate : Nat → Int) (q : Int) (k : Nat) : plc rate q (k + 1) = plc rate q k ++ if rate k = q then [k] else [] := by
  unfold plc; rw [List.range_succ, List.filter_append]
  by_cases h : rate k = q <;> simp [h]
theorem plc_head {rate : Nat → Int} {n i : Nat} (hi : i < n) : ((plc rate (rate i) n).getD 0 0 = i) ↔ isF rate i = true := by
  have hm : i ∈ plc rate (rate i) n := plc_mem.2 ⟨hi, rfl⟩
  have hpos : 0 < (plc rate (rate i) n).length := List.length_pos_of_mem hm
  obtain ⟨h1, h2⟩ := plc_lt (rate := rate) (q := rate i) (n := n) hpos
  obtain ⟨k, hk, hke⟩ := List.getElem_of_mem hm
  have hge : (plc rate (rate i) n).getD k 0 = i := by simp [List.getD, hk, hke]
  have hle : (plc rate (rate i) n).getD 0 0 ≤ i := by
    by_cases e : k = 0
    · subst e; omega
    · have := (Tax.plc_ord (rate := rate) (q := rate i) (n := n) hpos hk).2 (by omega)
      omega
  constructor
  · intro h
    unfold isF
    rw [List.all_eq_true]
    intro m hmm
    have hml : m < i := by simpa using hmm
    by_cases e : rate m = rate i
    · have hm2 : m ∈ plc rate (rate i) n := plc_mem.2 ⟨by omega, e⟩
      obtain ⟨k2, hk2, hke2⟩ := List.getElem_of_mem hm2
      have hge2 : (plc rate (rate i) n).getD k2 0 = m := by simp [List.getD, hk2, hke2]
      have : (plc rate (rate i) n).getD 0 0 ≤ m := by
        by_cases e2 : k2 = 0
        · subst e2; omega
        · have := (Tax.plc_ord (rate := rate) (q := rate i) (n := n) hpos hk2).2 (by omega)
          omega
      omega
    · simp [e]
  · intro h
    unfold isF at h
    rw [List.all_eq_true] at h
    rcases Nat.lt_or_ge ((plc rate (rate i) n).getD 0 0) i with hlt | hge'
    · have := h _ (List.mem_range.2 hlt)
      rw [decide_eq_true h2] at this
      cases this
    · omega

/-- a slice of ints of the call's own, nil or not -/
def OwnN (W : World) (B : Nat) (v : Value) (l : List Int) : Prop := W.ownsRow B 3 1 v l.length (vals l)
theorem OwnN.kept {W W' : World} {B : Nat} {v : Value} {l : List Int} (h : OwnN W B v l) (hg : W.grownBy W' none) : OwnN W' B v l :=
  World.ownsRow.kept h hg (by cases e : v.ownBlock with | none => exact .inl rfl | some b => exact .inr (by simp))
theorem OwnN.nil (W : World) (B : Nat) : OwnN W B (.slice none 0 0) [] := ⟨by simp, .inl ⟨rfl, rfl⟩⟩
theorem OwnN.cells {W : World} {B g c : Nat} {l : List Int} (h : OwnN W B (.slice (some ⟨g, 0, none⟩) l.length c) l) : B ≤ g ∧ Cells W g 0 l :=
  ⟨(Ints.Own.lt (show Ints.Own W B g c l from h)).1, Ints.Own.cells (show Ints.Own W B g c l from h)⟩

/-- one more, inside a fence -/
theorem wpListIn_appN {F : Fence} {nF : Nat} {w : World} {ops : Array Oper} {rest : List Oper} {o : Oper} {a : Act} {Q : Exit → Act → World → Prop} (hgd : o.guard = none) (s x : Operand)
    (ho : o.op = .call { callee := .builtin .append, args := #[s, x], argTypes := #[91, 91] }) (B : Nat) (v : Value) (l : List Int) (q : Int) (N : Nat) (hs : a.eval s = v) (hown : OwnN w B v l) (hx : a.eval x = .slice (some ⟨N, 0, none⟩) 1 1) (hN : w.heap[N]? = some (.cells #[.int .i64 q] 3 (0, 0)))
    (hl : l.length ≤ 1000000) (hB : B ≤ w.heap.size)
    (h : ∀ g c w', OwnN w' B (.slice (some ⟨g, 0, none⟩) (l.length + 1) c) (l ++ [q]) → w.grownBy w' v.ownBlock → g < w'.heap.size → wpListIn F nF Tryz.prog ops Q rest (a.put o.dst (.slice (some ⟨g, 0, none⟩) (l.length + 1) c)) w') : wpListIn F nF Tryz.prog ops Q (o :: rest) a w := by
  obtain ⟨infoInt, hinfo, hzero, hsize, hbytes⟩ := infoEx
  obtain ⟨g, c, w', hr, h1, h2, _, h4⟩ := run_append_lies (P := Tryz.prog) w 91 o.type B 3 infoInt (.int .i64 0) 1 8 Tryz.underlying91 hinfo hzero hsize hbytes rfl (by omega) v l.length (vals l) hown ⟨N, 0, none⟩ 1 1 (vals [q]) rfl (Ints.news w N q hN) (by simp [Value.oneCell']) (by omega) (by unfold maxLen; omega) (by omega) hB _ rfl
  refine wpListIn_plain hgd fun K hK => ?_
  unfold Oper.wpIn
  refine ⟨by simp [Oper.about, ho, resolve, Target.leads, Sem.run_pure], ?_⟩
  rw [Oper.semAt_plain F _ _ (by rw [ho]; intro c hc'; cases hc')]
  simp [execOp, ho, resolve, invoke, builtin, hs, hx, hr, Result.andThen]
  exact hK _ _ (h g c w' (by unfold OwnN; simpa using h1) h2 h4)

/-- what round k is told: the rate and the places of the k-th rate -/
def PrP (rate : Nat → Int) (n B2 : Nat) (k : Nat) (args : Array Value) (W : World) : Prop :=
  ∃ i g cap, i < n ∧ isF rate i = true ∧ k = (fsU rate i).length ∧ args = #[.int .i64 (rate i), .slice (some ⟨g, 0, none⟩) (plc rate (rate i) n).length cap] ∧ Cells W g 0 ((plc rate (rate i) n).map fun (j : Nat) => (j : Int)) ∧ B2 ≤ g
end Go.Proofs.YtnchgeiinkaefaaGreatDoor.Bill
end

section
/-
  placesByRate$1, walked.
-/
namespace Go.Proofs.YtnchgeiinkaefaaGreatDoor.Bill
set_option linter.unusedVariables false
open Go.RowKit Evs Go.Shelf
open Tax (plc plc_mem plc_lt plc_len rateF getD_map')
open Ints (Cells vals infoEx)
open RangeP (SeqP)

attribute [local go_sem] Oper.semAt_some

set_option maxRecDepth 100000 in
set_option maxHeartbeats 4000000 in
theorem pl1 (n : Nat) (hn : 1 ≤ n) (lp Bt B2 : Nat) (w0 : World) (ta : Option Addr) (tc : Nat) (t : List E) (hT : ER w0 (.slice ta t.length tc) t) (h6 : t.length ≤ 6)
    (h02 : w0.heap.size ≤ B2) (hBt2 : B2 ≤ Bt) (J Jx : Nat → World → Prop)
    (W : World) (hW0 : Below w0.heap.size w0 W) (hW2 : B2 ≤ W.heap.size) (hJa : AbidesFrom W.heap.size J)
    (hY : ∀ k args W1, J k W1 → PrP (rateF t) t.length B2 k args W1 → YieldAt Fence.wide (n - 1) Tryz.prog lp args W1 fun e W' =>
      (e = .returned (.bool true) ∧ J (k + 1) W' ∧ KpC w0.heap.size B2 W1 W') ∨ (e = .returned (.bool false) ∧ Jx (k + 1) W'))
    (hBt : W.cell? ⟨Bt, 0, none⟩ = some (.slice ta t.length tc)) (h0 : J 0 W) :
    CallsIn Fence.wide n Tryz.prog 67 #[.func (.yield lp) #[] #[], .pointer (some ⟨Bt, 0, none⟩)] W fun e W' => (∃ v, e = .returned v) ∧
      ((∃ k, k = (fsU (rateF t) t.length).length ∧ J k W') ∨ (∃ k, Jx k W')) := by
  have HJ := hide hJa
  have HY := hide hY
  have H0 := hide h0
  have HT := hide hT
  have HW0 := hide hW0
  have HBT := hide hBt
  have hz0 := hW0.size
  clear hJa hY h0 hT hW0
  refine callsIn_of_wp Tryz.func67 rfl trivial ?_ rfl
  simp only [Tryz.ntmps67, List.size_toArray, List.length_cons, List.length_nil, Nat.reduceAdd, Nat.reduceSub, Array.replicate_succ, Array.replicate_zero, List.push_toArray, List.append_toArray, List.nil_append, List.cons_append]
  gi_wp2
  gi_loopw [11] (fun iv wr => ∃ i : Nat, i ≤ t.length ∧ iv = .int .i64 i ∧ Hid (J (fsU (rateF t) i).length wr) ∧ Hid (KpC w0.heap.size B2 W wr)) (fun iv _ => t.length - (intOf iv).toNat)
  case atStart => exact ⟨0, Nat.zero_le _, rfl, H0, hide ⟨rfl, rfl, rfl, Nat.le_refl _, fun _ _ h _ => h⟩⟩
  case round =>
    obtain ⟨i, hi, rfl, hJs, hnx⟩ := hrel
    have hbw : Below w0.heap.size w0 wr := (unhide HW0).trans ((unhide hnx).below hz0)
    have HBW := hide hbw
    by_cases hlt : i < t.length
    · obtain ⟨b2, o2, cap2, hcf, hc⟩ : ∃ b2 o2 cap2, Value.slice ta t.length tc = .slice (some ⟨b2, o2, none⟩) t.length cap2 ∧ EC w0 b2 o2 t := by
        rcases unhide HT with ⟨h, _⟩ | h
        · rw [h] at hlt; simp at hlt
        · exact h
      simp only [Value.slice.injEq, true_and] at hcf
      obtain ⟨rfl, rfl⟩ := hcf
      have HC := hide hc
      obtain ⟨c0, c1, c2⟩ := (hc.kept hbw).2 i hlt
      have i1 : (0 : Int) ≤ (i : Int) := by omega
      have i2 : (i : Int) < (t.length : Int) := by omega
      have hBtc := (unhide hnx).cell (unhide HBT) (.inr hBt2)
      have hBtl := Rule.lt_of_cell hBtc
      have HWR2 : B2 ≤ wr.heap.size := Nat.le_trans hW2 (unhide hnx).size
      have HQ : Hid (rateF t i = (t.getD i E0).2.2) := hide rfl
      obtain ⟨WA, hWA⟩ : ∃ WA, WA = wr.alloc (.cells #[.string (t.getD i E0).1, .string (t.getD i E0).2.1, .int .i64 (t.getD i E0).2.2] 52) := ⟨_, rfl⟩
      have hbA : Below wr.heap.size wr WA := by rw [hWA]; exact Rule.below_alloc _ _
      have hAq : WA.cell? ⟨wr.heap.size, 2, none⟩ = some (.int .i64 (t.getD i E0).2.2) := by
        rw [hWA]; exact ((Boxes.At.new wr #[.string (t.getD i E0).1, .string (t.getD i E0).2.1, .int .i64 (t.getD i E0).2.2] 52) 2 _ rfl).1
      have hAs : WA.heap.size = wr.heap.size + 1 := by rw [hWA]; simp
      obtain ⟨LB, hLB⟩ : ∃ LB, LB = wr.heap.size := ⟨_, rfl⟩
      rw [← hLB] at hAq hAs
      have HLB := hide hLB
      clear hLB
      have hBtA := (hbA.cell (p := ⟨Bt, 0, none⟩) hBtl).trans hBtc
      have HWA := hide hWA
      have HBA := hide hbA
      have HAQ := hide hAq
      clear hc hbw hWA hbA hAq
      rw [← unhide HQ] at HAQ HWA
      have HRC : Hid (∀ W', Below w0.heap.size w0 W' → ∀ j, j < t.length → W'.cell? ⟨b2, o2 + j * 3, none⟩ = some (.string (t.getD j E0).1) ∧ W'.cell? ⟨b2, o2 + j * 3 + 1, none⟩ = some (.string (t.getD j E0).2.1) ∧ W'.cell? ⟨b2, o2 + j * 3 + 2, none⟩ = some (.int .i64 (rateF t j))) := hide (fun W' hW' j hj => ((unhide HC).kept hW').2 j hj)
      rw [← unhide HQ] at c2
      generalize (t.getD i E0).1 = s at *
      generalize (t.getD i E0).2.1 = m at *
      gi_wp2
      rw [← unhide HWA, ← unhide HLB]
      clear c0 c1 c2 hBtc
      have hBW0 : Below w0.heap.size w0 WA := (unhide HBW).trans ((unhide HBA).mono (unhide HBW).size)
      have HBW0 := hide hBW0
      have hz0A := hBW0.size
      clear hBW0
      gi_loopw [5, 18] (fun pv jv wr2 => ∃ (j : Nat) (pa : Option Addr) (pc : Nat), j ≤ t.length ∧ jv = .int .i64 j ∧ pv = .slice pa (plc (rateF t) (rateF t i) j).length pc ∧ Hid (OwnN wr2 WA.heap.size (.slice pa (plc (rateF t) (rateF t i) j).length pc) ((plc (rateF t) (rateF t i) j).map fun (x : Nat) => (x : Int))) ∧ Hid (Below WA.heap.size WA wr2)) (fun _ jv _ => t.length - (intOf jv).toNat)
      case atStart => exact ⟨0, none, 0, Nat.zero_le _, rfl, rfl, hide (OwnN.nil _ _), hide (Below.refl _ _)⟩
      case round =>
        obtain ⟨j, pa, pc, hj, rfl, rfl, hO, hB⟩ := hrel
        have hq := ((unhide hB).cell (p := ⟨LB, 2, none⟩) (by show LB < _; omega)).trans (unhide HAQ)
        have hBt3 := ((unhide hB).cell (p := ⟨Bt, 0, none⟩) (Rule.lt_of_cell hBtA)).trans hBtA
        have hzA := (unhide hB).size
        have hLBw : LB < wr.heap.size := by omega
        by_cases hjl : j < t.length
        · obtain ⟨c0, c1, c2⟩ := unhide HRC wr ((unhide HBW0).trans ((unhide hB).mono hz0A)) j hjl
          have j1 : (0 : Int) ≤ (j : Int) := by omega
          have j2 : (j : Int) < (t.length : Int) := by omega
          have HPS := hide (plc_succ (rateF t) (rateF t i) j)
          have hpl := plc_len (rateF t) (rateF t i) j
          by_cases he : rateF t j = rateF t i
          · rw [if_pos he] at HPS
            have HLN : Hid ((plc (rateF t) (rateF t i) (j + 1)).length = (plc (rateF t) (rateF t i) j).length + 1) := hide (by rw [unhide HPS]; simp)
            have HMP : Hid ((plc (rateF t) (rateF t i) (j + 1)).map (fun (x : Nat) => (x : Int)) = (plc (rateF t) (rateF t i) j).map (fun (x : Nat) => (x : Int)) ++ [(j : Int)]) := hide (by rw [unhide HPS]; simp)
            rw [he] at c2
            have hb1 := Rule.below_alloc wr (.cells #[.string (t.getD j E0).1, .string (t.getD j E0).2.1, .int .i64 (rateF t i)] 52)
            have hb2 := hb1.trans ((Rule.below_alloc _ (.cells #[.int .i64 j] 3)).mono hb1.size)
            have HO2 : Hid (OwnN ((wr.alloc (.cells #[.string (t.getD j E0).1, .string (t.getD j E0).2.1, .int .i64 (rateF t i)] 52)).alloc (.cells #[.int .i64 j] 3)) WA.heap.size (.slice pa (plc (rateF t) (rateF t i) j).length pc) ((plc (rateF t) (rateF t i) j).map fun (x : Nat) => (x : Int))) := hide ((unhide hO).kept (growB hb2 none))
            have HN2 : Hid (((wr.alloc (.cells #[.string (t.getD j E0).1, .string (t.getD j E0).2.1, .int .i64 (rateF t i)] 52)).alloc (.cells #[.int .i64 j] 3)).heap[wr.heap.size + 1]? = some (.cells #[.int .i64 j] 3 (0, 0))) := hide (by
              have := (MapKept.heap_alloc (wr.alloc (.cells #[.string (t.getD j E0).1, .string (t.getD j E0).2.1, .int .i64 (rateF t i)] 52)) (.cells #[.int .i64 j] 3)).1
              rwa [World.size_alloc] at this)
            have HB2 := hide ((unhide hB).trans (hb2.mono hzA))
            clear hb1 hb2 he
            generalize (t.getD j E0).1 = s2 at *
            generalize (t.getD j E0).2.1 = m2 at *
            generalize rateF t i = q at *
            have hml : ((plc (rateF t) q j).map fun (x : Nat) => (x : Int)).length = (plc (rateF t) q j).length := by simp
            gi_wp2_with (first | (gi_at_builtin; refine wpListIn_appN rfl _ _ rfl WA.heap.size (.slice pa (plc (rateF t) q j).length pc) ((plc (rateF t) q j).map fun (x : Nat) => (x : Int)) (j : Int) (wr.heap.size + 1) rfl (unhide HO2) rfl (unhide HN2) (by rw [hml]; omega) (by simp; omega) ?_; intro g5 c5 w5 ho5 hg5 hl5) | gi_in)
            have HO5 : Hid (OwnN w5 WA.heap.size (.slice (some ⟨g5, 0, none⟩) (plc (rateF t) q (j + 1)).length c5) ((plc (rateF t) q (j + 1)).map fun (x : Nat) => (x : Int))) := hide (by rw [unhide HMP, unhide HLN]; rw [hml] at ho5; exact ho5)
            have HB5 := hide ((unhide HB2).grown hg5 (unhide HB2).size (fun b hb => (World.ownsRow.lt (unhide HO2) b hb).1))
            clear ho5 hg5 hl5
            exact ⟨⟨j + 1, some ⟨g5, 0, none⟩, c5, by omega, by go_num, by rw [unhide HLN], HO5, HB5⟩, by simp [intOf]; omega⟩
          · rw [if_neg he, List.append_nil] at HPS
            have he2 : (rateF t j == rateF t i) = false := beq_eq_false_iff_ne.2 he
            have hb1 := fun o => Rule.below_alloc wr o
            have HO2 := fun o => hide ((unhide hO).kept (growB (hb1 o) none))
            have HB2 := fun o => hide ((unhide hB).trans ((hb1 o).mono hzA))
            clear hb1 he
            generalize (t.getD j E0).1 = s2 at *
            generalize (t.getD j E0).2.1 = m2 at *
            have HRJ : Hid (rateF t j = rateF t j) := hide rfl
            gi_wp2
            go_roundw
            case rel => exact ⟨j + 1, pa, pc, by omega, by go_num, by rw [unhide HPS], by rw [unhide HPS]; exact HO2 _, HB2 _⟩
            case measure => simp [intOf]; omega
        · obtain rfl : j = t.length := by omega
          have hpos : 0 < (plc (rateF t) (rateF t i) t.length).length := List.length_pos_of_mem (plc_mem.2 ⟨hlt, rfl⟩)
          have hml : ((plc (rateF t) (rateF t i) t.length).map fun (x : Nat) => (x : Int)).length = (plc (rateF t) (rateF t i) t.length).length := by simp
          obtain ⟨g, cap, hv, hbg, hgl⟩ := World.ownsRow.form (unhide hO) (by omega)
          simp only [hml, Value.slice.injEq, true_and] at hv
          obtain ⟨rfl, rfl⟩ := hv
          have hO' : OwnN wr WA.heap.size (.slice (some ⟨g, 0, none⟩) ((plc (rateF t) (rateF t i) t.length).map fun (x : Nat) => (x : Int)).length pc) ((plc (rateF t) (rateF t i) t.length).map fun (x : Nat) => (x : Int)) := by rw [hml]; exact unhide hO
          obtain ⟨hgB, hCl⟩ := hO'.cells
          have hc0 := (hCl.2 0 (by omega)).1
          rw [Nat.add_zero, getD_map' _ _ 0 0 hpos] at hc0
          have HCL := hide hCl
          have hB1 := (unhide HBA).trans ((unhide hB).mono (unhide HBA).size)
          have HJ1 := hide (unhide HJ _ _ wr none (unhide hJs) (growB hB1 none) (by simp))
          have HK1 := hide ((unhide hnx).trans (KpC.ofBelow hB1))
          have hgB2 : B2 ≤ g := by have := unhide HLB; omega
          clear hO hO' hCl hB1 hJs HRC
          cases hf : isF (rateF t) i with
          | true =>
            rw [(plc_head hlt).2 hf] at hc0
            have HSQ : Hid ((fsU (rateF t) (i + 1)).length = (fsU (rateF t) i).length + 1) := hide (by rw [fsU_succ, hf]; simp)
            obtain ⟨fn, tmps, assign, body, hy, hR⟩ := unhide HY (fsU (rateF t) i).length #[.int .i64 (rateF t i), .slice (some ⟨g, 0, none⟩) (plc (rateF t) (rateF t i) t.length).length pc] wr (unhide HJ1) ⟨i, g, pc, hlt, hf, rfl, rfl, unhide HCL, hgB2⟩
            have HR := hide hR
            clear hR hf
            generalize rateF t i = q at *
            gi_wp2
            refine (unhide HR).mono ?_
            rintro e3 W3 (⟨rfl, hJ3, hk3⟩ | ⟨rfl, hJx3⟩)
            · have HJ3 : Hid (J (fsU (rateF t) (i + 1)).length W3) := hide (by rw [unhide HSQ]; exact hJ3)
              have HK3 := hide ((unhide HK1).trans hk3)
              clear hJ3 hk3
              gi_wp2
              go_roundw
              case rel => exact ⟨i + 1, by omega, by go_num, HJ3, HK3⟩
              case measure => simp [intOf]; omega
            · have HJ3 := hide hJx3
              clear hJx3
              gi_wp2
              refine bodyPost_ret (results_none rfl _ _ _) rfl ?_
              exact ⟨⟨_, rfl⟩, .inr ⟨_, unhide HJ3⟩⟩
          | false =>
            have hne : ((((plc (rateF t) (rateF t i) t.length).getD 0 0 : Nat) : Int) == (i : Int)) = false := beq_eq_false_iff_ne.2 (fun h => by
              have := (plc_head (rate := rateF t) hlt).1 (by omega)
              rw [hf] at this; cases this)
            have HJ3 : Hid (J (fsU (rateF t) (i + 1)).length wr) := hide (by rw [fsU_succ, hf]; simpa using unhide HJ1)
            clear hf
            generalize (plc (rateF t) (rateF t i) t.length).getD 0 0 = x0 at *
            generalize rateF t i = q at *
            gi_wp2
            refine ⟨fun f h => (by cases h), ?_⟩
            gi_wp2
            go_roundw
            case rel => exact ⟨i + 1, by omega, by go_num, HJ3, HK1⟩
            case measure => simp [intOf]; omega
    · have hk2 : i = t.length := by omega
      subst hk2
      gi_wp2
      go_end0
      exact ⟨⟨_, rfl⟩, .inl ⟨_, rfl, unhide hJs⟩⟩

/-- what placesByRate hands out, as the loop over it wants it -/
theorem pl_stops (n : Nat) (hn : 1 ≤ n) (Bt B2 : Nat) (w0 : World) (ta : Option Addr) (tc : Nat) (t : List E) (hT : ER w0 (.slice ta t.length tc) t) (h6 : t.length ≤ 6)
    (h02 : w0.heap.size ≤ B2) (hBt2 : B2 ≤ Bt) (w : World) (hW0 : Below w0.heap.size w0 w) (hW2 : B2 ≤ w.heap.size) (hBts : Bt < w.heap.size) (hBt : w.cell? ⟨Bt, 0, none⟩ = some (.slice ta t.length tc)) :
    SeqP Fence.wide n Tryz.prog 67 #[.pointer (some ⟨Bt, 0, none⟩)] (PrP (rateF t) t.length B2) (KpC w0.heap.size B2) (fun k => k = (fsU (rateF t) t.length).length) w :=
  fun l J Jy W hW hJ _ hY h0 => pl1 n hn l Bt B2 w0 ta tc t hT h6 h02 hBt2 J Jy W (hW0.trans (hW.mono hW0.size)) (Nat.le_trans hW2 hW.size) hJ hY ((hW.cell (p := ⟨Bt, 0, none⟩) hBts).trans hBt) h0

theorem placesByRate (n : Nat) (v : Value) (hv : v.oneCell' = true) (w : World) :
    CallsIn Fence.wide n Tryz.prog 44 #[v] w fun e w' => e = .returned (.func (.func 67) #[] #[.pointer (some ⟨w.heap.size, 0, none⟩)]) ∧ w' = w.alloc (.cells #[v] 29) := by
  refine callsIn_of_wp Tryz.func44 rfl trivial ?_ rfl
  simp only [Tryz.ntmps44, List.size_toArray, List.length_cons, List.length_nil, Nat.reduceAdd, Nat.reduceSub, Array.replicate_succ, Array.replicate_zero, List.push_toArray, List.append_toArray, List.nil_append, List.cons_append]
  gi_wp2
  go_ret
  exact ⟨rfl, rfl⟩

theorem fsU_mem {rate : Nat → Int} {n j : Nat} (hj : j < n) : ∃ m, m ∈ fsU rate n ∧ rate m = rate j := by
  induction j using Nat.strongRecOn with
  | ind j ih =>
    cases h : isF rate j with
    | true => exact ⟨j, by simp [fsU, hj, h], rfl⟩
    | false =>
      unfold isF at h
      rw [List.all_eq_false] at h
      obtain ⟨m, hm, h2⟩ := h
      have hm' : m < j := by simpa using hm
      have h3 : rate m = rate j := by simpa using h2
      obtain ⟨m', a, b⟩ := ih m hm' (by omega)
      exact ⟨m', a, b.trans h3⟩
end Go.Proofs.YtnchgeiinkaefaaGreatDoor.Bill
end

section
/-
  Rows that are right: impl.rowRight, impl.rightInOrder at rows, impl.rowsRight.
-/
namespace Go.Proofs.YtnchgeiinkaefaaGreatDoor.Bill
set_option linter.unusedVariables false
open Go.RowKit RegIn
open Evs (hide unhide below_trans below_drewN' ltS)
open BRow (R R0 RR RC)
open Kinds (nameB nameI)

/-- an amount not below 0 -/
def unitB (n : Int) : Bool := decide (0 ≤ n) && Coin.okB n
/-- whether a row is right -/
def rowB (x : R) : Bool := nameB x.1 && unitB x.2.1 && unitB x.2.2

def badR (l : List R) (i : Nat) : Bool := !rowB (l.getD i R0) || (decide (0 < i) && !ltS (l.getD (i - 1) R0).1 (l.getD i R0).1)
/-- rows are right -/
def okR (l : List R) : Bool := decide (l.length ≤ 6) && (List.range l.length).all fun i => !badR l i
theorem okR_long {l : List R} (h : 6 < l.length) : okR l = false := by unfold okR; rw [decide_eq_false (by omega)]; rfl
theorem okR_bad {l : List R} {k : Nat} (hk : k < l.length) (h : badR l k = true) : okR l = false := by
  have : ((List.range l.length).all fun i => !badR l i) = false := by
    rw [List.all_eq_false]
    exact ⟨k, by simpa using hk, by simp [h]⟩
  unfold okR; rw [this]; simp
theorem okR_true {l : List R} (h : l.length ≤ 6) (hl : ∀ i, i < l.length → badR l i = false) : okR l = true := by
  have : ((List.range l.length).all fun i => !badR l i) = true := by
    rw [List.all_eq_true]
    intro i hi
    rw [hl i (by simpa using hi)]; rfl
  unfold okR; rw [this, decide_eq_true h]; rfl
theorem badR_next {l : List R} {k : Nat} (h : ∀ j, j < k → badR l j = false) (hk : badR l k = false) : ∀ j, j < k + 1 → badR l j = false := fun j hj => by
  by_cases e : j < k
  · exact h j e
  · obtain rfl : j = k := by omega
    exact hk

/-- the worlds of a round: the round's own row at B, the one ahead of it at p in block b -/
def SWR (w : World) (B b p : Nat) (s : ByteArray) (m q : Int) (t : ByteArray) (m' q' : Int) (w2 : World) : Prop :=
  w2.cell? ⟨B, 0, none⟩ = some (.string s) ∧ w2.cell? ⟨B, 1, none⟩ = some (.int .i64 m) ∧ w2.cell? ⟨B, 2, none⟩ = some (.int .i64 q) ∧ w2.cell? ⟨b, p, none⟩ = some (.string t) ∧ w2.cell? ⟨b, p + 1, none⟩ = some (.int .i64 m') ∧ w2.cell? ⟨b, p + 2, none⟩ = some (.int .i64 q') ∧ B < w2.heap.size ∧ b < w2.heap.size ∧ Below w.heap.size w w2
theorem SWR.kept {w : World} {B b p : Nat} {s : ByteArray} {m q : Int} {t : ByteArray} {m' q' : Int} {w2 w3 : World} (h : SWR w B b p s m q t m' q' w2) (hb : Below w2.heap.size w2 w3) : SWR w B b p s m q t m' q' w3 := by
  obtain ⟨a1, a2, a3, a4, a5, a6, a7, a8, a9⟩ := h
  exact ⟨(hb.cell (p := ⟨B, 0, none⟩) a7).trans a1, (hb.cell (p := ⟨B, 1, none⟩) a7).trans a2, (hb.cell (p := ⟨B, 2, none⟩) a7).trans a3, (hb.cell (p := ⟨b, p, none⟩) a8).trans a4, (hb.cell (p := ⟨b, p + 1, none⟩) a8).trans a5, (hb.cell (p := ⟨b, p + 2, none⟩) a8).trans a6, Nat.lt_of_lt_of_le a7 hb.size, Nat.lt_of_lt_of_le a8 hb.size, below_trans a9 hb⟩

end Go.Proofs.YtnchgeiinkaefaaGreatDoor.Bill
end

section
/-
  Invoices that are right: impl.rowSums, impl.invoiceRight.
-/
namespace Go.Proofs.YtnchgeiinkaefaaGreatDoor.Bill
set_option linter.unusedVariables false
open Go.RowKit RegIn
open Evs (hide unhide below_trans below_drewN' ltS E ER)
open BRow (R R0 RR RC)
open Bills (I I0 IW IR)

/-- the sums of rows -/
def netS (l : List R) : Int := (l.map (·.2.1)).sum
def taxS (l : List R) : Int := (l.map (·.2.2)).sum
theorem sum_take (f : R → Int) (l : List R) (k : Nat) (h : k < l.length) : ((l.take (k + 1)).map f).sum = ((l.take k).map f).sum + f (l.getD k R0) := by
  have e : l.take (k + 1) = l.take k ++ [l.getD k R0] := by rw [List.take_add_one, List.getElem?_eq_getElem h]; simp [List.getD, h]
  rw [e, List.map_append, List.sum_append]
  simp
theorem sum_bd (f : R → Int) (M : Int) : ∀ (l : List R), (∀ x ∈ l, 0 ≤ f x ∧ f x ≤ M) → 0 ≤ (l.map f).sum ∧ (l.map f).sum ≤ l.length * M
  | [], _ => by simp
  | x :: l, h => by
    have := h x (List.mem_cons_self ..)
    have ih := sum_bd f M l (fun y hy => h y (List.mem_cons_of_mem _ hy))
    simp only [List.map_cons, List.sum_cons, List.length_cons]
    have e : ((l.length + 1 : Nat) : Int) * M = l.length * M + M := by rw [Int.natCast_add, Int.add_mul]; simp
    rw [e]
    omega
theorem unitB_iff {n : Int} : unitB n = true ↔ 0 ≤ n ∧ n ≤ 1000000000000000 := by
  unfold unitB
  rw [Bool.and_eq_true, decide_eq_true_eq, Coin.okB_iff]
  omega
theorem okR_facts {l : List R} (h : okR l = true) : l.length ≤ 6 ∧ ∀ x ∈ l, (0 ≤ x.2.1 ∧ x.2.1 ≤ 1000000000000000) ∧ (0 ≤ x.2.2 ∧ x.2.2 ≤ 1000000000000000) := by
  unfold okR at h
  rw [Bool.and_eq_true, decide_eq_true_eq] at h
  refine ⟨h.1, fun x hx => ?_⟩
  obtain ⟨i, hi, rfl⟩ := List.getElem_of_mem hx
  have h2 := List.all_eq_true.1 h.2 i (List.mem_range.2 hi)
  unfold badR at h2
  have e : l.getD i R0 = l[i] := by simp [List.getD, hi]
  rw [e] at h2
  have h3 : rowB l[i] = true := by
    cases hc : rowB l[i]
    · rw [hc] at h2; simp at h2
    · rfl
  unfold rowB at h3
  rw [Bool.and_eq_true, Bool.and_eq_true, unitB_iff, unitB_iff] at h3
  exact ⟨h3.1.2, h3.2⟩
theorem sums_bd {l : List R} (h : okR l = true) (k : Nat) : (0 ≤ netS (l.take k) ∧ netS (l.take k) ≤ 6000000000000000) ∧ (0 ≤ taxS (l.take k) ∧ taxS (l.take k) ≤ 6000000000000000) := by
  obtain ⟨h1, h2⟩ := okR_facts h
  have hl : (l.take k).length ≤ 6 := by simp; omega
  have a := sum_bd (·.2.1) 1000000000000000 (l.take k) (fun x hx => (h2 x (List.mem_of_mem_take hx)).1)
  have b := sum_bd (·.2.2) 1000000000000000 (l.take k) (fun x hx => (h2 x (List.mem_of_mem_take hx)).2)
  unfold netS taxS
  omega

set_option maxHeartbeats 1000000 in
/-- impl.rowSums -/
theorem sumsI (v : Value) (l : List R) (w : World) (h : RR w v l) (hk : okR l = true) :
    Calls Tryz.prog 46 #[v] w fun x w' => x = .returned (.tuple #[.int .i64 (netS l), .int .i64 (taxS l)]) ∧ Below w.heap.size w w' := by
  have h6 := (okR_facts hk).1
  rcases h with ⟨rfl, a, c, rfl⟩ | ⟨b, o, cap, rfl, hc⟩
  · go_enter Tryz.func46, Tryz.ntmps46
    go_wp2
    refine wp_loop_rounds 1 ?_
    rw [rounds_succ]
    go_wp2
    go_ret2
    exact ⟨rfl, Below.refl _ _⟩
  · have HC := hide hc
    have hbs := hc.1
    have HBD := hide (fun k => sums_bd hk k)
    have HST : Hid (∀ k, k < l.length → netS (l.take (k + 1)) = netS (l.take k) + (l.getD k R0).2.1 ∧ taxS (l.take (k + 1)) = taxS (l.take k) + (l.getD k R0).2.2) := hide (fun k hk' => ⟨sum_take (·.2.1) l k hk', sum_take (·.2.2) l k hk'⟩)
    have HF := hide (okR_facts hk).2
    clear hc
    go_enter Tryz.func46, Tryz.ntmps46
    go_wp2
    go_loopw [4, 5, 10] (fun a b i wr => ∃ k : Nat, k ≤ l.length ∧ i = .int .i64 k ∧ a = .int .i64 (netS (l.take k)) ∧ b = .int .i64 (taxS (l.take k)) ∧ Hid (Below w.heap.size w wr)) (fun _ _ i _ => l.length - (intOf i).toNat)
    case atStart => exact ⟨0, Nat.zero_le _, rfl, rfl, rfl, hide (Below.refl _ _)⟩
    case round =>
      obtain ⟨k, hk', rfl, rfl, rfl, hb⟩ := hrel
      by_cases hlt : k < l.length
      · obtain ⟨c0, c1, c2⟩ := ((unhide HC).kept (unhide hb)).2 k hlt
        obtain ⟨s1, s2⟩ := unhide HST k hlt
        have b1 := unhide HBD k
        have b2 := unhide HF (l.getD k R0) (by simp [List.getD, hlt])
        have i1 : (0 : Int) ≤ (k : Int) := by omega
        have i2 : (k : Int) < (l.length : Int) := by omega
        have S1 := hide s1
        have S2 := hide s2
        clear s1 s2
        generalize l.getD k R0 = x at *
        obtain ⟨s, m, q⟩ := x
        simp only at c0 c1 c2 b2 S1 S2
        generalize netS (l.take k) = n1 at *
        generalize taxS (l.take k) = n2 at *
        go_wp2
        exact ⟨⟨k + 1, by omega, by go_num, by rw [unhide S1], by rw [unhide S2], hide ((unhide hb).alloc (unhide hb).size _)⟩, by simp [intOf]; omega⟩
      · obtain rfl : k = l.length := by omega
        rw [List.take_length]
        go_wp2
        go_ret2
        exact ⟨rfl, unhide hb⟩

/-- whether an invoice is right, its number aside -/
def invB (x : I) : Bool := okR x.rows && Evs.okB x.evs && decide (x.net = netS x.rows) && decide (x.tax = taxS x.rows) && Coin.okB (netS x.rows + taxS x.rows) && decide (0 ≤ x.credit ∧ x.credit ≤ netS x.rows + taxS x.rows)

end Go.Proofs.YtnchgeiinkaefaaGreatDoor.Bill
end

section
/-
  impl.rateRows: what the rows' taxes are between two rates; impl.rowSums on any rows in bounds.
-/
namespace Go.Proofs.YtnchgeiinkaefaaGreatDoor.Bill
set_option linter.unusedVariables false
open Go.RowKit Evs
open Tax
open BRow (R R0 RC RR ROwn RN)
open Coin (partV partB)
open Uses (U)

theorem fsU_mono (rate : Nat → Int) (i d : Nat) : (fsU rate i).length ≤ (fsU rate (i + d)).length := by
  induction d with
  | zero => exact Nat.le_refl _
  | succ d ih => rw [← Nat.add_assoc, fsU_succ, List.length_append]; omega
theorem isF_no {rate : Nat → Int} {i : Nat} (h : isF rate i = false) : ∃ f, f < i ∧ rate f = rate i := by
  unfold isF at h
  rw [List.all_eq_false] at h
  obtain ⟨m, hm, h2⟩ := h
  exact ⟨m, by simpa using hm, by simpa using h2⟩
theorem isF_yes {rate : Nat → Int} {i : Nat} (h : isF rate i = true) : ∀ m, m < i → rate m ≠ rate i := by
  intro m hm
  unfold isF at h
  rw [List.all_eq_true] at h
  have := h m (by simpa using hm)
  simpa using this
theorem taxI_add (net rate : Nat → Int) (n i : Nat) : ∀ d, (fsU rate (i + d)).length = (fsU rate i).length → ∀ j, taxI net rate n (i + d) j = taxI net rate n i j
  | 0, _, j => rfl
  | d + 1, h, j => by
    rw [← Nat.add_assoc] at h ⊢
    have h1 := fsU_mono rate i d
    rw [fsU_succ, List.length_append] at h
    have hf : isF rate (i + d) = false := by
      cases hh : isF rate (i + d)
      · rfl
      · rw [hh] at h; simp at h; omega
    obtain ⟨f, hfl, he⟩ := isF_no hf
    rw [taxI_skip hfl he]
    refine taxI_add net rate n i d ?_ j
    rw [hf] at h
    simpa using h
/-- the taxes behind as many rates are the same -/
theorem taxI_len {net rate : Nat → Int} {n i i2 : Nat} (h : (fsU rate i).length = (fsU rate i2).length) (j : Nat) : taxI net rate n i j = taxI net rate n i2 j := by
  rcases Nat.le_total i i2 with hle | hle
  · obtain ⟨d, rfl⟩ : ∃ d, i2 = i + d := ⟨i2 - i, by omega⟩
    exact (taxI_add net rate n i d h.symm j).symm
  · obtain ⟨d, rfl⟩ : ∃ d, i = i2 + d := ⟨i - i2, by omega⟩
    exact taxI_add net rate n i2 d h j
theorem fsU_next {rate : Nat → Int} {i : Nat} (h : isF rate i = true) : (fsU rate (i + 1)).length = (fsU rate i).length + 1 := by
  rw [fsU_succ, h, if_pos rfl]; simp
/-- one rate more -/
theorem taxed_step {l : List R} {rate : Nat → Int} {n i : Nat} (hl : l.length = n) (hF : isF rate i = true) :
    rowsF (rowsF l (taxI (netF l) rate n i)) (spreadF (netF (rowsF l (taxI (netF l) rate n i))) rate (oldF (rowsF l (taxI (netF l) rate n i))) n (rate i) (sumQ (netF (rowsF l (taxI (netF l) rate n i))) rate n (rate i)) (partV (sumQ (netF (rowsF l (taxI (netF l) rate n i))) rate n (rate i)) (rate i) 10000)) = rowsF l (taxI (netF l) rate n (i + 1)) := by
  rw [rowsF_rows, netF_rows]
  refine rowsF_congr l fun j hj => ?_
  rw [spread_old (o2 := taxI (netF l) rate n i) (oldF_rows l _ hj)]
  exact taxI_step (isF_yes hF) j

/-- rows whose amounts are in bounds -/
def bdR (l : List R) : Prop := l.length ≤ 6 ∧ ∀ x ∈ l, (0 ≤ x.2.1 ∧ x.2.1 ≤ 1000000000000000) ∧ (0 ≤ x.2.2 ∧ x.2.2 ≤ 1000000000000000)
theorem sums_bdB {l : List R} (h : bdR l) (k : Nat) : (0 ≤ netS (l.take k) ∧ netS (l.take k) ≤ 6000000000000000) ∧ (0 ≤ taxS (l.take k) ∧ taxS (l.take k) ≤ 6000000000000000) := by
  obtain ⟨h1, h2⟩ := h
  have hl : (l.take k).length ≤ 6 := by simp; omega
  have a := sum_bd (·.2.1) 1000000000000000 (l.take k) (fun x hx => (h2 x (List.mem_of_mem_take hx)).1)
  have b := sum_bd (·.2.2) 1000000000000000 (l.take k) (fun x hx => (h2 x (List.mem_of_mem_take hx)).2)
  unfold netS taxS
  omega

set_option maxHeartbeats 1000000 in
/-- impl.rowSums, of rows in bounds -/
theorem sumsB (v : Value) (l : List R) (w : World) (h : RR w v l) (hk : bdR l) :
    Calls Tryz.prog 46 #[v] w fun x w' => x = .returned (.tuple #[.int .i64 (netS l), .int .i64 (taxS l)]) ∧ Below w.heap.size w w' := by
  have h6 := hk.1
  rcases h with ⟨rfl, a, c, rfl⟩ | ⟨b, o, cap, rfl, hc⟩
  · go_enter Tryz.func46, Tryz.ntmps46
    go_wp2
    refine wp_loop_rounds 1 ?_
    rw [rounds_succ]
    go_wp2
    go_ret2
    exact ⟨rfl, Below.refl _ _⟩
  · have HC := hide hc
    have hbs := hc.1
    have HBD := hide (fun k => sums_bdB hk k)
    have HST : Hid (∀ k, k < l.length → netS (l.take (k + 1)) = netS (l.take k) + (l.getD k R0).2.1 ∧ taxS (l.take (k + 1)) = taxS (l.take k) + (l.getD k R0).2.2) := hide (fun k hk' => ⟨sum_take (·.2.1) l k hk', sum_take (·.2.2) l k hk'⟩)
    have HF := hide hk.2
    clear hc
    go_enter Tryz.func46, Tryz.ntmps46
    go_wp2
    go_loopw [4, 5, 10] (fun a b i wr => ∃ k : Nat, k ≤ l.length ∧ i = .int .i64 k ∧ a = .int .i64 (netS (l.take k)) ∧ b = .int .i64 (taxS (l.take k)) ∧ Hid (Below w.heap.size w wr)) (fun _ _ i _ => l.length - (intOf i).toNat)
    case atStart => exact ⟨0, Nat.zero_le _, rfl, rfl, rfl, hide (Below.refl _ _)⟩
    case round =>
      obtain ⟨k, hk', rfl, rfl, rfl, hb⟩ := hrel
      by_cases hlt : k < l.length
      · obtain ⟨c0, c1, c2⟩ := ((unhide HC).kept (unhide hb)).2 k hlt
        obtain ⟨s1, s2⟩ := unhide HST k hlt
        have b1 := unhide HBD k
        have b2 := unhide HF (l.getD k R0) (by simp [List.getD, hlt])
        have i1 : (0 : Int) ≤ (k : Int) := by omega
        have i2 : (k : Int) < (l.length : Int) := by omega
        have S1 := hide s1
        have S2 := hide s2
        clear s1 s2
        generalize l.getD k R0 = x at *
        obtain ⟨s, m, q⟩ := x
        simp only at c0 c1 c2 b2 S1 S2
        generalize netS (l.take k) = n1 at *
        generalize taxS (l.take k) = n2 at *
        go_wp2
        exact ⟨⟨k + 1, by omega, by go_num, by rw [unhide S1], by rw [unhide S2], hide ((unhide hb).alloc (unhide hb).size _)⟩, by simp [intOf]; omega⟩
      · obtain rfl : k = l.length := by omega
        rw [List.take_length]
        go_wp2
        go_ret2
        exact ⟨rfl, unhide hb⟩

theorem netS_rowsF (l : List R) (f : Nat → Int) : netS (rowsF l f) = sumA (netF l) l.length ∧ taxS (rowsF l f) = sumA f l.length := by
  have key : ∀ (g : Nat → Int) (n : Nat), ((List.range n).map g).sum = sumA g n := by
    intro g n
    induction n with
    | zero => simp [sumA, sumG]
    | succ n ih => rw [List.range_succ, List.map_append, List.sum_append, ih, sumA_succ]; simp
  constructor
  · unfold netS rowsF; rw [List.map_map]; exact key _ _
  · unfold taxS rowsF; rw [List.map_map]; exact key _ _
theorem rated_bd {us : List U} {t : List E} (h : okL t = true) : bdR (rated us t) := by
  obtain ⟨h6, h2⟩ := okL_parts h
  refine ⟨by unfold rated; rw [rowsF_len, rowsN_len]; exact h6, fun x hx => ?_⟩
  unfold rated rowsF at hx
  rw [List.mem_map] at hx
  obtain ⟨j, hj, rfl⟩ := hx
  rw [List.mem_range, rowsN_len] at hj
  have h3 := (h2 j hj).2
  have ho := owed_bd (net := netJ us t) (rate := rateF t) hj (netJ_bd us t j) h3
  refine ⟨?_, ?_⟩
  · show 0 ≤ netF (rowsN us t t.length) j ∧ _
    rw [netF_rowsN]
    exact netJ_bd us t j
  · simp only
    omega
theorem rated_sums (us : List U) (t : List E) : netS (rated us t) = sumA (netJ us t) t.length ∧ taxS (rated us t) = sumA (owed (netJ us t) (rateF t) t.length) t.length := by
  have := netS_rowsF (rowsN us t t.length) (owed (netJ us t) (rateF t) t.length)
  rw [rowsN_len, netF_rowsN] at this
  exact this
/-- the last check tells the code -/
theorem rateB_last {us : List U} {t : List E} (h : okL t = true) (h1 : ∀ j, j < t.length → hasJ us t j = true) (h3 : allTold (netJ us t) (rateF t) t.length = true) : rateB us t = Coin.okB (netS (rated us t) + taxS (rated us t)) := by
  obtain ⟨e1, e2⟩ := rated_sums us t
  rw [e1, e2]
  cases h2 : Coin.okB (sumA (netJ us t) t.length) with
  | true => exact rateB_end h1 h2 h3
  | false =>
    rw [rateB_over (Nat.le_refl _) h2]
    have a0 := sumA_nonneg (fun j => (netJ_bd us t j).1) t.length
    have b0 : 0 ≤ sumA (owed (netJ us t) (rateF t) t.length) t.length := by
      have hb := (sums_bdB (rated_bd (us := us) h) t.length).2.1
      rw [List.take_of_length_le (by unfold rated; rw [rowsF_len, rowsN_len]; exact Nat.le_refl _), e2] at hb
      exact hb
    symm
    cases hh : Coin.okB (sumA (netJ us t) t.length + sumA (owed (netJ us t) (rateF t) t.length) t.length) with
    | false => rfl
    | true =>
      rw [Coin.okB_iff] at hh
      have hn : ¬ Coin.okB (sumA (netJ us t) t.length) = true := by rw [h2]; simp
      rw [Coin.okB_iff] at hn
      omega
end Go.Proofs.YtnchgeiinkaefaaGreatDoor.Bill
end

section
/-
  A map whose keys are texts, as the ascending list of its entries: what a store, a look-up and the sorted keys make of it. No program here.
-/
namespace Go.Proofs.YtnchgeiinkaefaaGreatDoor.MapM
set_option linter.unusedVariables false
open Go Go.Proofs

section
variable {α : Type} (key : α → ByteArray) (val : α → Value)

/-- the bytes of a key -/
abbrev kb (a : α) : List UInt8 := (key a).data.toList
/-- an entry as read -/
abbrev ent (a : α) : Lit × DataW Value := (.string (kb key a), .held (val a))
/-- the map as read -/
def DM (l : List α) : DataW Value := .map (l.map (ent key val))
/-- ascending by the keys -/
def Asc (l : List α) : Prop := l.Pairwise (fun a b => kb key a < kb key b)
/-- where a key is, or belongs -/
def pos (k : List UInt8) (l : List α) : Nat := (l.takeWhile (fun a => decide (kb key a < k))).length

theorem before_eq : ∀ (x y : List UInt8), bytesBefore x y = decide (x < y)
  | [], [] => by simp [bytesBefore]
  | _ :: _, [] => by simp [bytesBefore]
  | [], _ :: _ => by simp [bytesBefore]
  | a :: x, b :: y => by
    rw [bytesBefore, before_eq x y]
    by_cases h : a < b <;> by_cases h' : a = b <;> simp [h, h', List.cons_lt_cons_iff]

theorem lt_asymm {x y : List UInt8} (h : x < y) : ¬ y < x := fun h' => List.lt_irrefl _ (List.lt_trans h h')
theorem lt_tri {x y : List UInt8} (h : ¬ x < y) (hne : x ≠ y) : y < x := by
  rcases Decidable.em (y < x) with h' | h'
  · exact h'
  · exact absurd (List.le_antisymm h' h) hne

theorem pos_le (k : List UInt8) (l : List α) : pos key k l ≤ l.length := (List.takeWhile_prefix _).length_le
theorem pos_cons_lt {k : List UInt8} {a : α} {l : List α} (h : kb key a < k) : pos key k (a :: l) = pos key k l + 1 := by simp [pos, h]
theorem pos_cons_ge {k : List UInt8} {a : α} {l : List α} (h : ¬ kb key a < k) : pos key k (a :: l) = 0 := by simp [pos, h]

/-- those before are smaller, the one there is not -/
theorem pos_spec (k : List UInt8) : ∀ (l : List α) (i : Nat) (hi : i < l.length), (i < pos key k l → kb key l[i] < k) ∧ (i = pos key k l → ¬ kb key l[i] < k)
  | [], i, hi => by simp at hi
  | a :: l, i, hi => by
    by_cases h : kb key a < k
    · rw [pos_cons_lt key h]
      cases i with
      | zero => exact ⟨fun _ => h, fun e => by omega⟩
      | succ i =>
        have := pos_spec k l i (by simpa using hi)
        exact ⟨fun e => this.1 (by omega), fun e => this.2 (by omega)⟩
    · rw [pos_cons_ge key h]
      refine ⟨fun e => by omega, fun e => ?_⟩
      subst e
      exact h
/-- a walk that goes on while the keys are smaller ends there -/
theorem pos_of {k : List UInt8} : ∀ {l : List α} {n : Nat}, n ≤ l.length → (∀ i (hi : i < l.length), i < n → kb key l[i] < k) → (∀ (hn : n < l.length), ¬ kb key l[n] < k) → pos key k l = n
  | [], n, hn, _, _ => by have : n = 0 := by simpa using hn
                          subst this; rfl
  | a :: l, 0, _, _, h => pos_cons_ge key (h (by simp))
  | a :: l, n + 1, hn, h1, h2 => by
    have h0 : kb key a < k := h1 0 (by simp) (by omega)
    rw [pos_cons_lt key h0, pos_of (l := l) (n := n) (by simpa using hn) (fun i hi hin => h1 (i + 1) (by simpa using hi) (by omega)) (fun hn' => h2 (by simpa using hn'))]

theorem asc_tail {a : α} {l : List α} (h : Asc key (a :: l)) : Asc key l := (List.pairwise_cons.1 h).2

theorem filter_none {k : List UInt8} : ∀ (l : List α), (∀ a ∈ l, kb key a ≠ k) → (l.map (ent key val)).filter (fun p => !p.1.sameKey (.string k)) = l.map (ent key val)
  | [], _ => rfl
  | a :: l, h => by
    have h0 : (Lit.string (kb key a)).sameKey (.string k) = false := by simpa [Lit.sameKey] using h a (by simp)
    rw [List.map_cons, List.filter_cons_of_pos (by rw [h0]; rfl), filter_none l (fun b hb => h b (by simp [hb]))]

theorem insert_at (e : α) : ∀ (l : List α), (∀ a ∈ l, kb key a ≠ kb key e) → DataW.insert (ent key val e) (l.map (ent key val)) = (l.take (pos key (kb key e) l) ++ e :: l.drop (pos key (kb key e) l)).map (ent key val)
  | [], _ => rfl
  | a :: l, h => by
    have hb : (Lit.string (kb key e)).before (.string (kb key a)) = decide (kb key e < kb key a) := before_eq _ _
    rw [List.map_cons]
    unfold DataW.insert
    by_cases hlt : kb key a < kb key e
    · have : ¬ kb key e < kb key a := lt_asymm hlt
      rw [hb, decide_eq_false this, pos_cons_lt key hlt, insert_at e l (fun b hb => h b (by simp [hb]))]
      simp
    · have : kb key e < kb key a := lt_tri hlt (h a (by simp))
      rw [hb, decide_eq_true this, pos_cons_ge key hlt]
      simp

/-- a store at a key that is not there -/
theorem put_new (l : List α) (e : α) (h : ∀ a ∈ l, kb key a ≠ kb key e) : (DM key val l).put (.string (kb key e)) (.held (val e)) = DM key val (l.take (pos key (kb key e) l) ++ e :: l.drop (pos key (kb key e) l)) := by
  show DataW.map (DataW.insert (ent key val e) ((l.map (ent key val)).filter fun p => !p.1.sameKey (.string (kb key e)))) = _
  rw [filter_none key val l h, insert_at key val e l h]; rfl

/-- a store at a key that is there -/
theorem put_old : ∀ (l : List α) (e : α) (k : Nat) (hk : k < l.length), Asc key l → kb key l[k] = kb key e → (DM key val l).put (.string (kb key e)) (.held (val e)) = DM key val (l.set k e) := by
  intro l e k hk ha he
  show DataW.map (DataW.insert (ent key val e) ((l.map (ent key val)).filter fun p => !p.1.sameKey (.string (kb key e)))) = _
  have main : ∀ (l : List α) (k : Nat) (hk : k < l.length), Asc key l → kb key l[k] = kb key e → DataW.insert (ent key val e) ((l.map (ent key val)).filter fun p => !p.1.sameKey (.string (kb key e))) = (l.set k e).map (ent key val) := by
    intro l
    induction l with
    | nil => intro k hk; simp at hk
    | cons a l ih =>
      intro k hk ha he
      have hp := List.pairwise_cons.1 ha
      cases k with
      | zero =>
        have hs : (Lit.string (kb key a)).sameKey (.string (kb key e)) = true := by simpa [Lit.sameKey] using he
        have hno : ∀ b ∈ l, kb key b ≠ kb key e := fun b hb h => by
          have h1 : kb key a < kb key b := hp.1 b hb
          have h2 : kb key a = kb key e := he
          rw [h, h2] at h1
          exact List.lt_irrefl _ h1
        have h0 : pos key (kb key e) l = 0 := by
          cases l with
          | nil => rfl
          | cons b l =>
            have h1 : kb key a < kb key b := hp.1 b (by simp)
            have h2 : kb key a = kb key e := he
            rw [h2] at h1
            exact pos_cons_ge key (lt_asymm h1)
        rw [List.map_cons, List.filter_cons_of_neg (by rw [hs]; simp), filter_none key val l hno, insert_at key val e l hno, h0]
        simp
      | succ k =>
        have hk' : k < l.length := by simpa using hk
        have he' : kb key l[k] = kb key e := by simpa using he
        have hlt : kb key a < kb key e := by rw [← he']; exact hp.1 _ (List.getElem_mem hk')
        have hs : (Lit.string (kb key a)).sameKey (.string (kb key e)) = false := by
          have : kb key a ≠ kb key e := fun h => by rw [h] at hlt; exact List.lt_irrefl _ hlt
          simpa [Lit.sameKey] using this
        have hb : (Lit.string (kb key e)).before (.string (kb key a)) = false := by
          show bytesBefore _ _ = false
          rw [before_eq]; exact decide_eq_false (lt_asymm hlt)
        rw [List.map_cons, List.filter_cons_of_pos (by rw [hs]; rfl)]
        unfold DataW.insert
        rw [hb, ih k hk' hp.2 he']
        simp
  rw [main l k hk ha he]; rfl

theorem atKey_hit (z : DataW Value) : ∀ (l : List α) (k : Nat) (hk : k < l.length), Asc key l → (DM key val l).atKey (.string (kb key l[k])) z = .held (val l[k]) := by
  intro l k hk ha
  have main : ∀ (l : List α) (k : Nat) (hk : k < l.length), Asc key l → (l.map (ent key val)).find? (fun p => p.1.sameKey (.string (kb key l[k]))) = some (ent key val l[k]) := by
    intro l
    induction l with
    | nil => intro k hk; simp at hk
    | cons a l ih =>
      intro k hk ha
      have hp := List.pairwise_cons.1 ha
      cases k with
      | zero => rw [List.map_cons, List.find?_cons_of_pos (by simp [Lit.sameKey])]; rfl
      | succ k =>
        have hk' : k < l.length := by simpa using hk
        have hlt : kb key a < kb key l[k] := hp.1 _ (List.getElem_mem hk')
        have hs : (Lit.string (kb key a)).sameKey (.string (kb key l[k])) = false := by
          have : kb key a ≠ kb key l[k] := fun h => by rw [h] at hlt; exact List.lt_irrefl _ hlt
          simpa [Lit.sameKey] using this
        rw [List.map_cons]
        simp only [List.getElem_cons_succ]
        rw [List.find?_cons_of_neg (by rw [hs]; simp)]
        exact ih k hk' hp.2
  unfold DM DataW.atKey
  simp only [main l k hk ha]

theorem find_none {k : List UInt8} : ∀ (l : List α), (∀ a ∈ l, kb key a ≠ k) → (l.map (ent key val)).find? (fun p => p.1.sameKey (.string k)) = none
  | [], _ => rfl
  | a :: l, h => by
    have h0 : (Lit.string (kb key a)).sameKey (.string k) = false := by simpa [Lit.sameKey] using h a (by simp)
    rw [List.map_cons, List.find?_cons_of_neg (by rw [h0]; simp)]
    exact find_none l (fun b hb => h b (by simp [hb]))
theorem atKey_miss (z : DataW Value) (l : List α) {k : List UInt8} (h : ∀ a ∈ l, kb key a ≠ k) : (DM key val l).atKey (.string k) z = z := by
  unfold DM DataW.atKey
  simp only [find_none key val l h]

theorem has_hit (l : List α) {k : List UInt8} (h : ∃ a ∈ l, kb key a = k) : Maps.has (DM key val l) (.string k) = true := by
  obtain ⟨a, ha, rfl⟩ := h
  unfold DM
  rw [Maps.has_eq, List.any_map, List.any_eq_true]
  exact ⟨a, ha, by simp [Lit.sameKey]⟩
theorem has_miss (l : List α) {k : List UInt8} (h : ∀ a ∈ l, kb key a ≠ k) : Maps.has (DM key val l) (.string k) = false := by
  unfold DM
  rw [Maps.has_eq, List.any_map, List.any_eq_false]
  intro a ha
  simpa [Lit.sameKey] using h a ha
theorem size_DM (l : List α) : Maps.size (DM key val l) = l.length := by unfold DM; rw [Maps.size_eq]; simp
theorem keys_DM (l : List α) : strKeys (DM key val l) = l.map (kb key) := by
  unfold DM strKeys
  simp only [List.map_map]
  rfl

/-- the keys, sorted -/
theorem sorted_keys {l : List α} (ha : Asc key l) {ss : List (List UInt8)} (h : ss.Perm (l.map (kb key))) : ss.mergeSort (fun x y => decide (x ≤ y)) = l.map (kb key) := by
  have trans : ∀ a b c : List UInt8, decide (a ≤ b) = true → decide (b ≤ c) = true → decide (a ≤ c) = true := fun a b c h1 h2 => by
    simp only [decide_eq_true_eq] at *; exact List.le_trans h1 h2
  have total : ∀ a b : List UInt8, (decide (a ≤ b) || decide (b ≤ a)) = true := fun a b => by
    simp only [Bool.or_eq_true, decide_eq_true_eq]; exact List.le_total a b
  have h1 : (ss.mergeSort (fun x y => decide (x ≤ y))).Pairwise (fun a b => decide (a ≤ b) = true) := List.pairwise_mergeSort trans total ss
  have h2 : (l.map (kb key)).Pairwise (fun a b => decide (a ≤ b) = true) := by
    rw [List.pairwise_map]
    exact ha.imp (fun {a b} hab => by simp only [decide_eq_true_eq]; exact List.le_of_lt hab)
  refine List.Perm.eq_of_pairwise ?_ h1 h2 ((List.mergeSort_perm ss _).trans h)
  intro a b _ _ hab hba
  simp only [decide_eq_true_eq] at hab hba
  exact List.le_antisymm hab hba
end
end Go.Proofs.YtnchgeiinkaefaaGreatDoor.MapM
end

section
/-
  Events in a map by their Ids: impl.keepEvents.
-/
namespace Go.Proofs.YtnchgeiinkaefaaGreatDoor.Evs
set_option linter.unusedVariables false
open Go.RowKit Go.Maps MapM

/-- every value reads as itself -/
def RV (v : Value) : Option (DataW Value × List MemPlace) := some (.held v, [])
/-- the key of an event -/
abbrev keyE (e : E) : ByteArray := e.1
/-- the map of events as read -/
abbrev DE (l : List E) : DataW Value := DM keyE eV l
/-- block b is the map of the events l -/
def EM (W : World) (b : Nat) (l : List E) : Prop := W.ownsMap Tryz.prog 9 RV b l.length (DE l)

theorem law : Keyed Tryz.prog 9 := string_keyed Tryz.underlying9
theorem ltS_iff {s t : ByteArray} : ltS s t = true ↔ s.data.toList < t.data.toList := by
  rw [ltS, Proofs.bytesLess_eq, Lib.toList_data, Lib.toList_data, decide_eq_true_eq]

theorem okB_len {l : List E} (h : okB l = true) : l.length ≤ 20 := by
  rcases Nat.lt_or_ge 20 l.length with h' | h'
  · rw [okB_long h'] at h; simp at h
  · exact h'
theorem okB_at {l : List E} (h : okB l = true) {k : Nat} (hk : k < l.length) : badAt l k = false := by
  cases hb : badAt l k with
  | false => rfl
  | true => rw [okB_bad hk hb] at h; simp at h
theorem okB_right {l : List E} (h : okB l = true) {k : Nat} (hk : k < l.length) : rightE (l.getD k E0) = true := by
  have := okB_at h hk
  simp only [badAt, Bool.or_eq_false_iff, Bool.not_eq_false'] at this
  exact this.1
theorem okB_next {l : List E} (h : okB l = true) {k : Nat} (hk : k + 1 < l.length) : kb keyE (l.getD k E0) < kb keyE (l.getD (k + 1) E0) := by
  have := okB_at h hk
  simp only [badAt, Bool.or_eq_false_iff, Bool.and_eq_false_iff] at this
  rcases this.2 with h2 | h2
  · simp at h2
  · exact ltS_iff.1 (by simpa using h2)
theorem asc_of_next : ∀ {l : List E}, (∀ k, k + 1 < l.length → kb keyE (l.getD k E0) < kb keyE (l.getD (k + 1) E0)) → Asc keyE l
  | [], _ => List.Pairwise.nil
  | [a], _ => List.pairwise_singleton _ _
  | a :: b :: l, h => by
    have ih : Asc keyE (b :: l) := asc_of_next (fun k hk => by have := h (k + 1) (by simpa using hk); simpa using this)
    refine List.pairwise_cons.2 ⟨fun c hc => ?_, ih⟩
    have hab : kb keyE a < kb keyE b := by have := h 0 (by simp); simpa using this
    rcases List.mem_cons.1 hc with rfl | hc
    · exact hab
    · exact List.lt_trans hab ((List.pairwise_cons.1 ih).1 c hc)
theorem okB_asc {l : List E} (h : okB l = true) : Asc keyE l := asc_of_next (fun k hk => okB_next h hk)

/-- one more, behind all -/
theorem DE_step {l : List E} (ha : Asc keyE l) {k : Nat} (hk : k < l.length) : (DE (l.take k)).put (.string (l.getD k E0).1.data.toList) (.held (eV (l.getD k E0))) = DE (l.take (k + 1)) := by
  have e3 : l.take (k + 1) = l.take k ++ [l.getD k E0] := by rw [List.take_add_one, List.getElem?_eq_getElem hk]; simp [List.getD, hk]
  have hg : l.getD k E0 = l[k] := by simp [List.getD, hk]
  have hlt : ∀ a ∈ l.take k, kb keyE a < kb keyE l[k] := by
    intro a hm
    obtain ⟨i, hi, rfl⟩ := List.getElem_of_mem hm
    rw [List.getElem_take]
    have hik : i < k := by simp at hi; omega
    exact List.pairwise_iff_getElem.1 ha i k (by omega) hk hik
  have hp : pos keyE (kb keyE l[k]) (l.take k) = (l.take k).length := pos_of keyE (Nat.le_refl _) (fun i hi _ => hlt _ (List.getElem_mem hi)) (fun hn => absurd hn (by omega))
  rw [hg]
  refine (put_new keyE eV (l.take k) l[k] (fun a hm he => ?_)).trans ?_
  · have := hlt a hm
    rw [he] at this
    exact List.lt_irrefl _ this
  · rw [hp, List.take_length, List.drop_length, e3, hg]

theorem EM.kept {W W' : World} {b : Nat} {l : List E} (h : EM W b l) (hb : Below W.heap.size W W') : EM W' b l :=
  World.ownsMap.kept (row := none) h ⟨hb.os, hb.tape, hb.output, hb.size, fun j hj _ => hb.block j hj⟩ (by simp)
theorem EM.lt {W : World} {b : Nat} {l : List E} (h : EM W b l) : b < W.heap.size := World.ownsMap.lt h

end Go.Proofs.YtnchgeiinkaefaaGreatDoor.Evs
end
