/-
  Texts of this proof laid together, in build order; each says of itself what it holds.
-/
import Derived.Test.YtnchgeiinkaefaaGreatDoorZba
import Derived.Test.YtnchgeiinkaefaaGreatDoorZat
import Derived.Test.YtnchgeiinkaefaaGreatDoorZaz
import Derived.Test.YtnchgeiinkaefaaGreatDoorZak
import Derived.Test.YtnchgeiinkaefaaGreatDoorZav
import Derived.Test.YtnchgeiinkaefaaGreatDoorZac
import Derived.Test.YtnchgeiinkaefaaGreatDoorZaf
import Derived.Test.YtnchgeiinkaefaaGreatDoorZag
section
/-
  impl.rateRows.
-/
namespace Go.Proofs.YtnchgeiinkaefaaGreatDoor.Bill
set_option linter.unusedVariables false
open Go.RowKit Evs Go.Shelf
open Tax
open BRow (R R0 RC RR ROwn RN infoR)
open Uses (U UR UC)
open Sums (useSumsI sumsO UN)
open Rule (EnvR)
open RangeP (SeqP rangeP endsP)

attribute [local go_sem] Oper.semAt_some

theorem rown_made (w : World) (n : Nat) (t : TypeId) : ROwn (w.alloc (.cells (madeCells #[.string ByteArray.empty, .int .i64 0, .int .i64 0] (n * 3)) t)) w.heap.size (padR n []) := by
  have := ROwn.made w n t
  unfold padR
  simpa using this
theorem take2 {w X : World} {D D2 : Nat} {v e : Value} (hD : w.heap.size + 2 ≤ D) (h2 : D < D2) (x1 : X.heap[D]? = some (.deferred (some []))) (x2 : X.heap[D2]? = some (.deferred (some []))) (g4 : X.cell? ⟨w.heap.size, 0, none⟩ = some v) (g5 : X.cell? ⟨w.heap.size + 1, 0, none⟩ = some e) (hb : Below w.heap.size w X) :
    (X.putObj D2 (.deferred none)).heap[D]? = some (.deferred (some [])) ∧ ((X.putObj D2 (.deferred none)).putObj D (.deferred none)).cell? ⟨w.heap.size, 0, none⟩ = some v ∧ ((X.putObj D2 (.deferred none)).putObj D (.deferred none)).cell? ⟨w.heap.size + 1, 0, none⟩ = some e ∧ Below w.heap.size w ((X.putObj D2 (.deferred none)).putObj D (.deferred none)) := by
  have hs : D < X.heap.size := by
    refine Nat.lt_of_not_le fun hle => ?_
    rw [Array.getElem?_eq_none hle] at x1; simp at x1
  have y1 : (X.putObj D2 (.deferred none)).heap[D]? = some (.deferred (some [])) := ((grownBy_putObj' X D2 (.deferred none)).block D hs (by simp; omega)).trans x1
  have k1 := fun {p : Addr} {u : Value} (h : X.cell? p = some u) => cell_kept h (grownBy_putObj' X D2 (.deferred none)) (fun r e => by cases e; exact ⟨_, x2, rfl⟩)
  have k2 := fun {p : Addr} {u : Value} (h : (X.putObj D2 (.deferred none)).cell? p = some u) => cell_kept h (grownBy_putObj' _ D (.deferred none)) (fun r e => by cases e; exact ⟨_, y1, rfl⟩)
  exact ⟨y1, k2 (k1 g4), k2 (k1 g5), (hb.trans (belowK_b (w := w) (Nat.le_refl _) X D2 _ _ (by omega) x2 rfl rfl)).trans (belowK_b (w := w) (Nat.le_refl _) _ D _ _ (by omega) y1 rfl rfl)⟩
theorem set2 {W : World} {B : Nat} {v0 e0 v e : Value} (h4 : W.cell? ⟨B, 0, none⟩ = some v0) (h5 : W.cell? ⟨B + 1, 0, none⟩ = some e0) :
    ((W.setCell ⟨B, 0, none⟩ v).setCell ⟨B + 1, 0, none⟩ e).cell? ⟨B, 0, none⟩ = some v ∧ ((W.setCell ⟨B, 0, none⟩ v).setCell ⟨B + 1, 0, none⟩ e).cell? ⟨B + 1, 0, none⟩ = some e :=
  ⟨by rw [World.cell?_setCell_other _ _ _ _ (by simp)]; exact World.cell?_setCell_same _ _ _ h4, World.cell?_setCell_same _ _ _ (by rw [World.cell?_setCell_other _ _ _ _ (by simp)]; exact h5)⟩

set_option maxRecDepth 100000 in
set_option maxHeartbeats 4000000 in
theorem rateRowsI (tv ev : Value) (t evs : List E) (w : World) (hT : ER w tv t) (hE : ER w ev evs) (ht : t.length ≤ 1048576) (hts : ∀ u ∈ t, u.1.size ≤ maxLen ∧ u.2.1.size ≤ maxLen) (he : evs.length ≤ 1048576) (hes : ∀ u ∈ evs, u.1.size ≤ maxLen ∧ u.2.1.size ≤ maxLen) (hEn : EnvR w) :
    Calls Tryz.prog 27 #[tv, ev] w fun x w' => ∃ v c, x = .returned (.tuple #[v, errV c]) ∧ RateOut w w' t evs (sumsO evs) v c ∧ Below w.heap.size w w' := by
  obtain ⟨ta, tc, rfl⟩ := hT.slice
  obtain ⟨ea, ec, rfl⟩ := hE.slice
  have HT := hide hT
  have HE := hide hE
  have HTS := hide hts
  have HEN := hide hEn
  clear hT hE hts hEn
  refine (callsIn_wide (n := 5)).1 ?_
  refine callsIn_of_wp_marks Tryz.func27 rfl trivial ?_ rfl
  simp only [Tryz.ntmps27, List.size_toArray, List.length_cons, List.length_nil, Nat.reduceAdd, Nat.reduceSub, Array.replicate_succ, Array.replicate_zero, List.push_toArray, List.append_toArray, List.nil_append, List.cons_append]
  gi_wp2_with (fail)
  have bA := Rule.below_alloc w (.cells #[.slice none 0 0] 26)
  have bB := bA.trans ((Rule.below_alloc _ (.cells #[.nilIface] 62)).mono bA.size)
  refine ⟨trivial, (callsIn_wide.2 (tarI _ t _ ((unhide HT).kept bB) ht (unhide HTS) ((unhide HEN).kept bB))).mono ?_⟩
  rintro x w1 ⟨rfl, hb1⟩
  obtain ⟨q4, q5, hB1, hz1⟩ := Boxes.box2 hb1
  obtain ⟨c4, f4⟩ := q4 0 _ rfl
  obtain ⟨c5, f5⟩ := q5 0 _ rfl
  have HB1 := hide hB1
  have Q4 := hide q4
  have Q5 := hide q5
  clear bA bB hb1 hB1 q4 q5
  cases hk : okL t with
  | false =>
    have HR : Hid (∀ W', RateOut w W' t evs (sumsO evs) (.slice none 0 0) 4) := hide (fun W' => .inl ⟨by rw [hk]; rfl, rfl, rfl⟩)
    gi_wp2_with (fail)
    refine ⟨trivial, ?_⟩
    gi_wp2_with (fail)
    obtain ⟨g4, g5⟩ := set2 (v := .slice none 0 0) (e := .iface 84 (.int .i64 4)) c4 c5
    refine ⟨.tuple #[.slice none 0 0, .iface 84 (.int .i64 4)], ?_, _, 4, rfl, unhide HR _, ((unhide HB1).setCell (p := ⟨w.heap.size, 0, none⟩) (Nat.le_refl _) _).setCell (p := ⟨w.heap.size + 1, 0, none⟩) (by simp) _⟩
    simp [results, Tryz.results27, go_sem, g4, g5]
  | true =>
    gi_wp2_with (fail)
    refine ⟨trivial, (callsIn_wide.2 (Evs.okI _ evs _ ((unhide HE).kept (unhide HB1)) he hes)).mono ?_⟩
    rintro x w2 ⟨rfl, hb2⟩
    have c4b := (hb2.cell (p := ⟨w.heap.size, 0, none⟩) (by simp; omega)).trans c4
    have f4b := (hb2.frozen (p := ⟨w.heap.size, 0, none⟩) (by simp; omega)).trans f4
    have c5b := (hb2.cell (p := ⟨w.heap.size + 1, 0, none⟩) (by simp; omega)).trans c5
    have f5b := (hb2.frozen (p := ⟨w.heap.size + 1, 0, none⟩) (by simp; omega)).trans f5
    have hz2 : w.heap.size + 2 ≤ w2.heap.size := Nat.le_trans hz1 hb2.size
    have HB2 := hide (below_trans (unhide HB1) hb2)
    clear hb2 c4 f4 c5 f5 HB1 Q4 Q5 hz1
    cases hv : Evs.okB evs with
    | false =>
      have HR : Hid (∀ W', RateOut w W' t evs (sumsO evs) (.slice none 0 0) 4) := hide (fun W' => .inl ⟨by rw [hv, Bool.and_false], rfl, rfl⟩)
      gi_wp2_with (fail)
      obtain ⟨g4, g5⟩ := set2 (v := .slice none 0 0) (e := .iface 84 (.int .i64 4)) c4b c5b
      refine ⟨.tuple #[.slice none 0 0, .iface 84 (.int .i64 4)], ?_, _, 4, rfl, unhide HR _, ((unhide HB2).setCell (p := ⟨w.heap.size, 0, none⟩) (Nat.le_refl _) _).setCell (p := ⟨w.heap.size + 1, 0, none⟩) (by simp) _⟩
      simp [results, Tryz.results27, go_sem, g4, g5]
    | true =>
      have hmk := makeRC t.length ht
      gi_wp2_with (fail)
      have n0 := rown_made w2 t.length 55
      obtain ⟨X1, hX1⟩ : ∃ X1, w2.alloc (.cells (madeCells #[.string ByteArray.empty, .int .i64 0, .int .i64 0] (t.length * 3)) 55) = X1 := ⟨_, rfl⟩
      rw [hX1] at n0
      rw [hX1]
      have s1 : X1.heap.size = w2.heap.size + 1 := by rw [← hX1]; simp
      have k0 : Below w2.heap.size w2 X1 := by rw [← hX1]; exact (Below.refl _ _).alloc (Nat.le_refl _) _
      have n1 := Evs.new1 X1 (.slice (some ⟨w2.heap.size, 0, none⟩) 0 t.length) 26
      rw [s1] at n1
      obtain ⟨X2, hX2⟩ : ∃ X2, X1.alloc (.cells #[.slice (some ⟨w2.heap.size, 0, none⟩) 0 t.length] 26) = X2 := ⟨_, rfl⟩
      have k1 : Below X1.heap.size X1 X2 := by rw [← hX2]; exact (Below.refl _ _).alloc (Nat.le_refl _) _
      have s2 : X2.heap.size = w2.heap.size + 2 := by rw [← hX2]; simp; omega
      rw [hX2] at n1
      rw [hX2]
      have kX := k0.trans (k1.mono (by omega))
      have HB3 := hide (below_trans (unhide HB2) kX)
      refine ⟨trivial, (callsIn_wide.2 (useSumsI _ evs _ ((unhide HE).kept (unhide HB3)) he hes)).mono ?_⟩
      rintro x w4 ⟨uv, rfl, hUN, hb4⟩
      have hB4 : Below w.heap.size w w4 := (unhide HB3).trans (hb4.mono (unhide HB3).size)
      have kW : Below w2.heap.size w2 w4 := kX.trans (hb4.mono (by omega))
      have d4 := (kW.cell (p := ⟨w.heap.size, 0, none⟩) (by simp; omega)).trans c4b
      have e4 := (kW.frozen (p := ⟨w.heap.size, 0, none⟩) (by simp; omega)).trans f4b
      have d5 := (kW.cell (p := ⟨w.heap.size + 1, 0, none⟩) (by simp; omega)).trans c5b
      have e5 := (kW.frozen (p := ⟨w.heap.size + 1, 0, none⟩) (by simp; omega)).trans f5b
      have d6 := (hb4.cell (p := ⟨w2.heap.size + 1, 0, none⟩) (by simp; omega)).trans n1.1
      have e6 := (hb4.frozen (p := ⟨w2.heap.size + 1, 0, none⟩) (by simp; omega)).trans n1.2
      have r0 : ROwn w4 w2.heap.size (padR t.length []) := (n0.kept k1).kept hb4
      have hz4 : w2.heap.size + 2 ≤ w4.heap.size := by have := hb4.size; omega
      have hul := usum_len hv
      have H6 := okL_parts hk
      obtain ⟨us, hus⟩ : ∃ us, sumsO evs = us := ⟨_, rfl⟩
      rw [hus] at hUN hul
      have hUQ : (us = [] ∧ ∃ a c, uv = .slice a 0 c) ∨ ∃ b o cap, uv = .slice (some ⟨b, o, none⟩) us.length cap ∧ UC w4 b o us ∧ w2.heap.size + 2 ≤ b := by
        rcases hUN with h | ⟨b, cap, rfl, hb, hc⟩
        · exact .inl h
        · exact .inr ⟨b, 0, cap, rfl, hc.1, by have := hb.1; omega⟩
      obtain ⟨ua, uc, rfl⟩ : ∃ a c, uv = .slice a us.length c := by
        rcases hUQ with ⟨rfl, a, c, rfl⟩ | ⟨b, o, cap, rfl, _⟩
        · exact ⟨_, _, rfl⟩
        · exact ⟨_, _, rfl⟩
      have HUQ := hide hUQ
      have HB4 := hide hB4
      have HR0 := hide r0
      have HH6 := hide H6
      have HUS := hide hus
      have HUL := hide hul
      have HC : Hid ((w4.cell? ⟨w.heap.size, 0, none⟩ = some (.slice none 0 0) ∧ w4.frozen? ⟨w.heap.size, 0, none⟩ = false) ∧ (w4.cell? ⟨w.heap.size + 1, 0, none⟩ = some .nilIface ∧ w4.frozen? ⟨w.heap.size + 1, 0, none⟩ = false) ∧ (w4.cell? ⟨w2.heap.size + 1, 0, none⟩ = some (.slice (some ⟨w2.heap.size, 0, none⟩) 0 t.length) ∧ w4.frozen? ⟨w2.heap.size + 1, 0, none⟩ = false)) := hide ⟨⟨d4, e4⟩, ⟨d5, e5⟩, d6, e6⟩
      clear hUQ hB4 r0 H6 hus hul d4 e4 d5 e5 d6 e6 hUN kX kW n0 n1 k0 k1 hX1 hX2 s1 s2 hb4 HB3 HB2 c4b c5b f4b f5b hmk X1 X2
      have HK := hide hk
      have HV := hide hv
      clear hk hv
      gi_wp2_with (fail)
      refine ⟨trivial, (netRows 4 (.slice ta t.length tc) (.slice ua us.length uc) rfl rfl w4).mono ?_⟩
      rintro x w5 ⟨rfl, hw5⟩
      gi_wp2_with (fail)
      have hbA : Below w4.heap.size w4 w5 := by rw [hw5]; exact ((Below.refl _ _).alloc (Nat.le_refl _) _).alloc (by simp) _
      have s5 : w5.heap.size = w4.heap.size + 2 := by rw [hw5]; simp
      have pT := Evs.new1 w4 (.slice ta t.length tc) 29
      have pU := Evs.new1 (w4.alloc (.cells #[.slice ta t.length tc] 29)) (.slice ua us.length uc) 48
      rw [← hw5, World.size_alloc] at pU
      have k9 : Below (w4.heap.size + 1) (w4.alloc (.cells #[.slice ta t.length tc] 29)) w5 := by rw [hw5]; exact (Below.refl _ _).alloc (by simp) _
      have dT : w5.cell? ⟨w4.heap.size, 0, none⟩ = some (.slice ta t.length tc) := (k9.cell (p := ⟨w4.heap.size, 0, none⟩) (by simp)).trans pT.1
      have dU := pU.1
      have hz9 := (unhide HB4).size
      have hB5 : Below w.heap.size w w5 := (unhide HB4).trans (hbA.mono hz9)
      have hU5 : (us = [] ∧ ∃ a c, Value.slice ua us.length uc = .slice a 0 c) ∨ ∃ b o cap, Value.slice ua us.length uc = .slice (some ⟨b, o, none⟩) us.length cap ∧ UC w5 b o us ∧ w2.heap.size + 2 ≤ b := by
        rcases unhide HUQ with h | ⟨b, o, cap, h1, h2, h3⟩
        · exact .inl h
        · exact .inr ⟨b, o, cap, h1, UC.keptC h2 (KpC.ofBelow (B := w.heap.size) (B2 := w2.heap.size + 2) hbA) h3, h3⟩
      obtain ⟨⟨a4, b4⟩, ⟨a5, b5⟩, a6, b6⟩ := unhide HC
      have hL0 : LI w w2.heap.size t.length w4.heap.size [] w5 :=
        ⟨⟨⟨(hbA.cell (p := ⟨w.heap.size, 0, none⟩) (by simp; omega)).trans a4, (hbA.frozen (p := ⟨w.heap.size, 0, none⟩) (by simp; omega)).trans b4⟩, ⟨(hbA.cell (p := ⟨w.heap.size + 1, 0, none⟩) (by simp; omega)).trans a5, (hbA.frozen (p := ⟨w.heap.size + 1, 0, none⟩) (by simp; omega)).trans b5⟩, ⟨(hbA.cell (p := ⟨w2.heap.size + 1, 0, none⟩) (by simp; omega)).trans a6, (hbA.frozen (p := ⟨w2.heap.size + 1, 0, none⟩) (by simp; omega)).trans b6⟩, fun _ => (unhide HR0).kept hbA, by omega, by simp⟩, hB5⟩
      have HU5 := hide hU5
      have HB5 := hide hB5
      rw [← hw5]
      clear hU5 hB5 pT pU k9 hbA a4 b4 a5 b5 a6 b6 HC HUQ HR0 hw5
      refine wpIn_rangeFunc_ownH rfl (by omega) (gf := 63) (lb := #[.pointer (some ⟨w4.heap.size, 0, none⟩), .pointer (some ⟨w4.heap.size + 1, 0, none⟩)]) rfl trivial (enters_of Tryz.func63 (by kernel_rfl) rfl)
        (net_stops 4 (by omega) w4.heap.size (w4.heap.size + 1) (w2.heap.size + 2) w ta tc t _ us (unhide HT) (unhide HTS) (unhide HEN) (fun j hj => ((unhide HH6).2 j hj).1) (by have := unhide HUL; omega) (unhide HH6).1 (by omega) (by omega) (by omega) w5 (unhide HB5) (by omega) (by omega) dT dU (unhide HU5)) KpC.trans (KpC.put (n := w5.heap.size) (by omega)) (Below.refl _ _) (fun _ => rfl)
        (LI w w2.heap.size t.length w4.heap.size) (LX w) (LI_own w _ _ _ _ (by omega)) (fun c => LX_own w c _ (by omega)) hL0
        (fun x a' W => ∃ p, w4.heap.size ≤ p ∧ a' = { tmps := #[.slice ta t.length tc, .slice ea evs.length ec, undef, undef, .pointer (some ⟨w.heap.size, 0, none⟩), .pointer (some ⟨w.heap.size + 1, 0, none⟩), .pointer (some ⟨w2.heap.size + 1, 0, none⟩), .pointer (some ⟨p, 0, none⟩), (if x.2.2 then .nilIface else .iface 84 (.int .i64 6)), undef, undef, undef, undef, undef, .slice ta t.length tc, .bool true, .bool false, .bool false, .slice ea evs.length ec, .bool true, .bool false, .bool false, undef, .slice ta t.length tc, .int .i64 t.length, .slice (some ⟨w2.heap.size, 0, none⟩) 0 t.length, .slice ta t.length tc, .slice ea evs.length ec, .slice ua us.length uc, .func (.func 63) #[] #[.pointer (some ⟨w4.heap.size, 0, none⟩), .pointer (some ⟨w4.heap.size + 1, 0, none⟩)], .agg #[.string x.1, .int .i64 x.2.1, .int .i64 0], (if x.2.2 then .nilIface else .iface 84 (.int .i64 6)), undef, undef, undef, undef, undef, undef, undef, undef, undef, undef, undef, undef, undef, undef, undef, undef, undef, undef, undef, undef, undef, undef, undef, undef, undef, undef, undef, undef, undef, undef], defers := [] } ∧
          W.cell? ⟨p, 0, none⟩ = some (.string x.1) ∧ W.cell? ⟨p, 1, none⟩ = some (.int .i64 x.2.1) ∧ W.cell? ⟨p, 2, none⟩ = some (.int .i64 0))
        (fun x a' => Own.from (fun _ A B row hs hg hr => by
          obtain ⟨p, hp, ha, c0, c1, c2⟩ := hs
          exact ⟨p, hp, ha, cell_kept c0 hg hr, cell_kept c1 hg hr, cell_kept c2 hg hr⟩) _)
        ?assign ?body ?done ?stop
      case assign =>
        rintro lp pre ⟨s, m, ok⟩ W K hL hK
        have HK := hide hK
        have HL := hide hL
        have hz8 : w4.heap.size ≤ W.heap.size := hL.1.2.2.2.2.1
        clear hK hL hL0
        have hg := Evs.grown_alloc W (.cells #[.string s, .int .i64 m, .int .i64 0] 55)
        have HLg := hide (LI_own w w2.heap.size t.length w4.heap.size w.heap.size (Nat.le_refl _) pre W _ none (unhide HL) hg (by simp))
        have HG := hide hg
        clear hg HL
        cases ok
        · gi_wp2
          refine unhide HK _ _ ((KeepsOthers.alloc _ _).from _) (KpC.grown (unhide HG) (by simp)) (unhide HLg) ⟨W.heap.size, hz8, rfl, ?_, ?_, ?_⟩
          · go_keep
          · go_keep
          · go_keep
        · gi_wp2
          refine unhide HK _ _ ((KeepsOthers.alloc _ _).from _) (KpC.grown (unhide HG) (by simp)) (unhide HLg) ⟨W.heap.size, hz8, rfl, ?_, ?_, ?_⟩
          · go_keep
          · go_keep
          · go_keep
      case body =>
        rintro lp pre ⟨s, m, ok⟩ a' W hlp hloop hL ⟨p, hp, rfl, c0, c1, c2⟩ hlen
        obtain ⟨hrun, x6, y6, hKO, hKP, hLI⟩ := app_LI s m (by omega) (by omega) hL hlen
        obtain ⟨⟨⟨a4, b4⟩, ⟨a5, b5⟩, ⟨a6, b6⟩, _, _, _⟩, hB⟩ := hL
        have HRUN := hide hrun
        have HKO := hide hKO
        have HKP := hide hKP
        have HLI := hide hLI
        have HB := hide hB
        clear hrun hKO hKP hLI hB hloop hlp hL0
        cases ok
        · clear HRUN HKO HKP HLI x6 y6
          simp only [Bool.false_eq_true, ↓reduceIte] at c0 c1 c2 ⊢
          gi_wp2
          obtain ⟨g4, g5⟩ := set2 (v := .slice none 0 0) (e := .iface 84 (.int .i64 6)) a4 a5
          exact ⟨((KeepsOthers.setCell _ _ _).trans (KeepsOthers.setCell _ _ _)).from _, ⟨rfl, ⟨(s, m, false), by simp, rfl⟩, g4, g5⟩, ((unhide HB).setCell (p := ⟨w.heap.size, 0, none⟩) (Nat.le_refl _) _).setCell (p := ⟨w.heap.size + 1, 0, none⟩) (by simp) _⟩
        · simp only [↓reduceIte] at c0 c1 c2 ⊢
          clear a4 b4 a5 b5
          generalize hX : appW W w2.heap.size pre.length t.length s m = X at *
          clear hX
          gi_wp2_with (first | (gi_at_builtin; refine wpListIn_app rfl _ _ 26 rfl _ _ _ rfl rfl (unhide HRUN) ?_) | gi_in)
          exact ⟨(unhide HKO).from _, unhide HKP, unhide HLI⟩
      case done =>
        rintro D ys W hD rfl hL hK2
        have HKD := hide hK2
        clear hK2 hL0
        obtain ⟨⟨⟨a4, b4⟩, ⟨a5, b5⟩, ⟨a6, b6⟩, h7, h8, h9⟩, hB⟩ := hL
        rw [rowY_seq] at h7
        rw [seqY_len] at a6
        have HJ : Hid (∀ j, j < t.length → hasJ us t j = true) := hide (fun j hj => h9 ((t.getD j E0).1, netJ us t j, hasJ us t j) (by unfold seqY; rw [List.mem_map]; exact ⟨j, by simpa using hj, rfl⟩))
        have HR0 : Hid (0 < t.length → ROwn W w2.heap.size (rowsN us t t.length)) := hide (fun h0 => by have := h7 h0; rwa [padR_full (rowsN_len us t _)] at this)
        have HB := hide hB
        have HCC := hide (And.intro (And.intro a4 b4) (And.intro (And.intro a5 b5) a6))
        clear h7 h9 hB a4 b4 a5 b5 a6 b6 dT dU HU5 HB5 HB4
        gi_wp2_with (fail)
        refine ⟨trivial, (placesByRate 4 (.slice ta t.length tc) rfl W).mono ?_⟩
        rintro x w6 ⟨rfl, hw6⟩
        gi_wp2_with (fail)
        have hbA : Below W.heap.size W w6 := by rw [hw6]; exact (Below.refl _ _).alloc (Nat.le_refl _) _
        have s6 : w6.heap.size = W.heap.size + 1 := by rw [hw6]; simp
        have pT := (Evs.new1 W (.slice ta t.length tc) 29).1
        rw [← hw6] at pT
        rw [← hw6]
        clear hw6
        obtain ⟨⟨a4, b4⟩, ⟨a5, b5⟩, a6⟩ := unhide HCC
        have hDs : D < W.heap.size := by
          refine Nat.lt_of_not_le fun hle => ?_
          have := unhide HKD
          rw [Array.getElem?_eq_none hle] at this; simp at this
        have hB6 : Below w.heap.size w w6 := (unhide HB).trans (hbA.mono (unhide HB).size)
        have hJ0 : LJ w w2.heap.size D w4.heap.size us t 0 w6 :=
          ⟨⟨⟨(hbA.cell (p := ⟨w.heap.size, 0, none⟩) (by simp; omega)).trans a4, (hbA.frozen (p := ⟨w.heap.size, 0, none⟩) (by simp; omega)).trans b4⟩, ⟨(hbA.cell (p := ⟨w.heap.size + 1, 0, none⟩) (by simp; omega)).trans a5, (hbA.frozen (p := ⟨w.heap.size + 1, 0, none⟩) (by simp; omega)).trans b5⟩, (hbA.cell (p := ⟨w2.heap.size + 1, 0, none⟩) (by simp; omega)).trans a6, fun h0 i hi he => by
              rw [rowsT_same (j := 0) (he.trans (by simp [fsU])), rowsT_zero]
              exact ((unhide HR0) h0).kept hbA, by omega, ((Evs.growB hbA none).block D hDs (by simp)).trans (unhide HKD), by simp⟩, hB6⟩
        have HJ0 := hide hJ0
        have HB6 := hide hB6
        clear hJ0 hB6 a4 b4 a5 b5 a6 HCC hbA HR0 HB
        refine rangeP rfl (by omega) (gf := 67) (lb := #[.pointer (some ⟨W.heap.size, 0, none⟩)]) rfl trivial (enters_of Tryz.func67 (by kernel_rfl) rfl)
          (pl_stops 4 (by omega) W.heap.size (w2.heap.size + 2) w ta tc t (unhide HT) (unhide HH6).1 (by omega) (by omega) w6 (unhide HB6) (by omega) (by omega) pT) KpC.trans (KpC.put (n := w6.heap.size) (by omega))
          (fun k args W' h => by obtain ⟨i, g, cap, _, _, _, rfl, _⟩ := h; rfl)
          (LJ w w2.heap.size D w4.heap.size us t) (LY w D us t) (LJ_own w _ _ _ _ us t (by omega) (by omega)) (LY_own w _ _ us t (by omega) (by omega)) (PrP_own _ _ _ _) (unhide HJ0)
          (fun args => { tmps := #[.slice ta t.length tc, .slice ea evs.length ec, undef, undef, .pointer (some ⟨w.heap.size, 0, none⟩), .pointer (some ⟨w.heap.size + 1, 0, none⟩), .pointer (some ⟨w2.heap.size + 1, 0, none⟩), undef, undef, args.getD 0 undef, args.getD 1 undef, undef, undef, undef, .slice ta t.length tc, .bool true, .bool false, .bool false, .slice ea evs.length ec, .bool true, .bool false, .bool false, undef, .slice ta t.length tc, .int .i64 t.length, .slice (some ⟨w2.heap.size, 0, none⟩) 0 t.length, .slice ta t.length tc, .slice ea evs.length ec, .slice ua us.length uc, .func (.func 63) #[] #[.pointer (some ⟨w4.heap.size, 0, none⟩), .pointer (some ⟨w4.heap.size + 1, 0, none⟩)], undef, undef, undef, undef, undef, undef, undef, undef, undef, .slice ta t.length tc, .func (.func 67) #[] #[.pointer (some ⟨W.heap.size, 0, none⟩)], args.getD 0 undef, args.getD 1 undef, undef, undef, undef, undef, undef, undef, undef, undef, undef, undef, undef, undef, undef, undef, undef, undef, undef, undef, undef], defers := [] })
          ?assign2 ?body2 ?done2 ?stop2
        case assign2 =>
          intro lp args W' K hs hK
          obtain ⟨x, y, rfl⟩ : ∃ x y, args = #[x, y] := by
            rcases args with ⟨l⟩
            match l, hs with
            | [x, y], _ => exact ⟨x, y, rfl⟩
          have HK2 := hide hK
          clear hK HJ0
          gi_wp2
          exact unhide HK2
        case body2 =>
          rintro lp k args W' hlp hL ⟨i, g, cap, hi, hF, hk, rfl, hc, hg⟩
          have hsh := share_LJ (cap := cap) (unhide HH6).1 (fun j hj => ((unhide HH6).2 j hj).2) hL hi hF hk hc hg
          have HST := hide (fun W7 (hgr : W'.grownBy W7 (some w2.heap.size)) hR ht => LJ_step (by omega) (by omega) hL hi hF hk hgr hR ht)
          have HSH := hide hsh
          obtain ⟨⟨⟨a4, b4⟩, ⟨a5, b5⟩, a6, _, _, a9, _⟩, hB⟩ := hL
          have HB := hide hB
          have HA9 := hide a9
          clear hsh hB a9 hc HJ0
          have e0 : (#[Value.int .i64 (rateF t i), Value.slice (some ⟨g, 0, none⟩) (plc (rateF t) (rateF t i) t.length).length cap] : Array Value).getD 0 undef = .int .i64 (rateF t i) := rfl
          have e1 : (#[Value.int .i64 (rateF t i), Value.slice (some ⟨g, 0, none⟩) (plc (rateF t) (rateF t i) t.length).length cap] : Array Value).getD 1 undef = .slice (some ⟨g, 0, none⟩) (plc (rateF t) (rateF t i) t.length).length cap := rfl
          dsimp only
          rw [e0, e1]
          clear e0 e1
          gi_wp2_with (fail)
          refine ⟨trivial, (CallsIn.inRound lp (callsIn_wide.2 (unhide HSH))).mono ?_⟩
          rintro e W7 ⟨hgr, ⟨htd, rfl, hR⟩ | ⟨htd, rfl⟩⟩
          · have HLJ := hide (unhide HST W7 hgr hR htd)
            have HGR := hide hgr
            clear HST HSH hgr hR htd a4 b4 a5 b5 a6
            gi_wp2_with (fail)
            exact ⟨KeepsFrom.of_grownBy (unhide HGR) (fun j e => by simp only [Option.some.injEq] at e; omega), KpC.grown (unhide HGR) (fun j e => by simp only [Option.some.injEq] at e; omega), unhide HLJ⟩
          · have HTD := hide htd
            have HGR := hide hgr
            have hlt : ∀ (j : Nat) (v : Value), W'.cell? ⟨j, 0, none⟩ = some v → j < W'.heap.size := fun j v hc => by
              obtain ⟨o, ho, _⟩ := cells_of_cell hc
              refine Nat.lt_of_not_le fun hle => ?_
              rw [Array.getElem?_eq_none hle] at ho; simp at ho
            have d4 := hgr.cell a4 (by simp; omega)
            have d5 := hgr.cell a5 (by simp; omega)
            have f4 : W7.frozen? ⟨w.heap.size, 0, none⟩ = false := by rw [World.frozen?_of_block (hgr.block _ (hlt _ _ a4) (by simp; omega))]; exact b4
            have f5 : W7.frozen? ⟨w.heap.size + 1, 0, none⟩ = false := by rw [World.frozen?_of_block (hgr.block _ (hlt _ _ a5) (by simp; omega))]; exact b5
            have hDW : D < W'.heap.size := by
              refine Nat.lt_of_not_le fun hle => ?_
              have := unhide HA9
              rw [Array.getElem?_eq_none hle] at this; simp at this
            have HD7 := hide ((hgr.block D hDW (by simp; omega)).trans (unhide HA9))
            clear HST HSH hgr htd a4 b4 a5 b5 a6 hlt
            gi_wp2
            obtain ⟨g4, g5⟩ := set2 (v := .slice none 0 0) (e := .iface 84 (.int .i64 6)) d4 d5
            have hKO := (KeepsOthers.setCell W7 ⟨w.heap.size, 0, none⟩ (.slice none 0 0)).trans (KeepsOthers.setCell _ ⟨w.heap.size + 1, 0, none⟩ (.iface 84 (.int .i64 6)))
            exact ⟨(KeepsFrom.of_grownBy (unhide HGR) (fun j e => by simp only [Option.some.injEq] at e; omega)).trans (hKO.from _), ⟨⟨i, hi, unhide HTD⟩, g4, g5, hKO.same D _ (unhide HD7) rfl⟩, (((unhide HB).grown (unhide HGR) (unhide HB).size (fun j e => by simp only [Option.some.injEq] at e; omega)).setCell (p := ⟨w.heap.size, 0, none⟩) (Nat.le_refl _) _).setCell (p := ⟨w.heap.size + 1, 0, none⟩) (by simp) _⟩
        case done2 =>
          rintro D2 k W' hD2 rfl ⟨⟨⟨a4, b4⟩, ⟨a5, b5⟩, a6, h7, h8', h9, h10⟩, hB⟩ hK2
          have HTL := hide (LJ_told (fun m hm => h10 m (by rw [List.take_length]; exact hm)))
          have hrl : (rated us t).length = t.length := by unfold rated; rw [rowsF_len, rowsN_len]
          have HRO : Hid (0 < t.length → ROwn W' w2.heap.size (rated us t)) := hide (fun h0 => by have := h7 h0 t.length (Nat.le_refl _) rfl; rwa [rowsT_end] at this)
          have HRR : Hid (RR W' (.slice (some ⟨w2.heap.size, 0, none⟩) t.length t.length) (rated us t)) := hide (by
            by_cases h0 : t.length = 0
            · exact .inl ⟨List.length_eq_zero_iff.1 (hrl.trans h0), _, _, by rw [h0]⟩
            · exact .inr ⟨w2.heap.size, 0, t.length, by rw [hrl], ((unhide HRO) (by omega)).1⟩)
          have hsb := sums_bdB (rated_bd (us := us) (unhide HK)) (rated us t).length
          rw [List.take_length] at hsb
          have HRB := hide (rateB_last (unhide HK) (unhide HJ) (unhide HTL))
          have HBD := hide (rated_bd (us := us) (unhide HK))
          have HRL := hide hrl
          have HK2' := hide hK2
          have HD9 := hide h9
          have HB := hide hB
          clear h7 h10 hrl hK2 h9 hB HJ0
          gi_wp2_with (fail)
          refine ⟨trivial, (callsIn_wide.2 (sumsB _ _ _ (unhide HRR) (unhide HBD))).mono ?_⟩
          rintro x w8 ⟨rfl, hb8⟩
          have d4 := (hb8.cell (p := ⟨w.heap.size, 0, none⟩) (by simp; omega)).trans a4
          have d5 := (hb8.cell (p := ⟨w.heap.size + 1, 0, none⟩) (by simp; omega)).trans a5
          have d6 := (hb8.cell (p := ⟨w2.heap.size + 1, 0, none⟩) (by simp; omega)).trans a6
          have f4 := (hb8.frozen (p := ⟨w.heap.size, 0, none⟩) (by simp; omega)).trans b4
          have f5 := (hb8.frozen (p := ⟨w.heap.size + 1, 0, none⟩) (by simp; omega)).trans b5
          have HB8 := hide hb8
          clear hb8 a4 a5 a6 b4 b5
          generalize netS (rated us t) = N at *
          generalize taxS (rated us t) = T at *
          gi_wp2_with (fail)
          refine ⟨trivial, (callsIn_wide.2 (Coin.okI (N + T) w8)).mono ?_⟩
          rintro x w9 ⟨rfl, hw9⟩
          replace hw9 := hw9.symm
          subst hw9
          have hlt : ∀ (j : Nat) (o : Obj), W'.heap[j]? = some o → j < W'.heap.size := fun j o ho => by
            refine Nat.lt_of_not_le fun hle => ?_
            rw [Array.getElem?_eq_none hle] at ho; simp at ho
          have HE2 := hide (((Evs.growB (unhide HB8) none).block D2 (hlt _ _ (unhide HK2')) (by simp)).trans (unhide HK2'))
          have HE1 := hide (((Evs.growB (unhide HB8) none).block D (hlt _ _ (unhide HD9)) (by simp)).trans (unhide HD9))
          have HBZ := hide ((unhide HB).trans ((unhide HB8).mono (unhide HB).size))
          clear hlt
          cases hok : Coin.okB (N + T) with
          | false =>
            have HR : Hid (∀ W', RateOut w W' t evs (sumsO evs) (.slice none 0 0) 6) := hide (fun W' => .inr (.inl ⟨by rw [unhide HK, unhide HV]; rfl, by rw [unhide HUS, unhide HRB]; exact hok, rfl, rfl⟩))
            gi_wp2_with (fail)
            obtain ⟨g4, g5⟩ := set2 (v := .slice none 0 0) (e := .iface 84 (.int .i64 6)) d4 d5
            have hKO := (KeepsOthers.setCell w8 ⟨w.heap.size, 0, none⟩ (.slice none 0 0)).trans (KeepsOthers.setCell _ ⟨w.heap.size + 1, 0, none⟩ (.iface 84 (.int .i64 6)))
            have hbx := ((unhide HBZ).setCell (p := ⟨w.heap.size, 0, none⟩) (Nat.le_refl _) (.slice none 0 0)).setCell (p := ⟨w.heap.size + 1, 0, none⟩) (by simp) (.iface 84 (.int .i64 6))
            have x2 := hKO.same D2 _ (unhide HE2) rfl
            have x1 := hKO.same D _ (unhide HE1) rfl
            generalize (w8.setCell ⟨w.heap.size, 0, none⟩ (.slice none 0 0)).setCell ⟨w.heap.size + 1, 0, none⟩ (.iface 84 (.int .i64 6)) = X at *
            obtain ⟨y1, y4, y5, yb⟩ := take2 (w := w) (D := D) (D2 := D2) (by omega) (by omega) x1 x2 g4 g5 hbx
            refine ⟨by simp, .inl ⟨_, _, rfl, run_takeDeferred x2, ?_⟩⟩
            refine ⟨by simp, .inl ⟨_, _, rfl, run_takeDeferred y1, ?_⟩⟩
            refine ⟨.tuple #[.slice none 0 0, .iface 84 (.int .i64 6)], ?_, _, 6, rfl, unhide HR _, yb⟩
            simp [results, Tryz.results27, go_sem, y4, y5]
          | true =>
            gi_wp2_with (fail)
            obtain ⟨g4, g5⟩ := set2 (v := .slice (some ⟨w2.heap.size, 0, none⟩) t.length t.length) (e := .nilIface) d4 d5
            have hKO := (KeepsOthers.setCell w8 ⟨w.heap.size, 0, none⟩ (.slice (some ⟨w2.heap.size, 0, none⟩) t.length t.length)).trans (KeepsOthers.setCell _ ⟨w.heap.size + 1, 0, none⟩ .nilIface)
            have hbx := ((unhide HBZ).setCell (p := ⟨w.heap.size, 0, none⟩) (Nat.le_refl _) (.slice (some ⟨w2.heap.size, 0, none⟩) t.length t.length)).setCell (p := ⟨w.heap.size + 1, 0, none⟩) (by simp) .nilIface
            have x2 := hKO.same D2 _ (unhide HE2) rfl
            have x1 := hKO.same D _ (unhide HE1) rfl
            have hRX : 0 < t.length → ROwn ((w8.setCell ⟨w.heap.size, 0, none⟩ (.slice (some ⟨w2.heap.size, 0, none⟩) t.length t.length)).setCell ⟨w.heap.size + 1, 0, none⟩ .nilIface) w2.heap.size (rated us t) := fun h0 => rown_other (rown_other ((unhide HRO h0).kept (unhide HB8)) (by omega) _ _) (by omega) _ _
            generalize (w8.setCell ⟨w.heap.size, 0, none⟩ (.slice (some ⟨w2.heap.size, 0, none⟩) t.length t.length)).setCell ⟨w.heap.size + 1, 0, none⟩ .nilIface = X at *
            obtain ⟨y1, y4, y5, yb⟩ := take2 (w := w) (D := D) (D2 := D2) (by omega) (by omega) x1 x2 g4 g5 hbx
            refine ⟨by simp, .inl ⟨_, _, rfl, run_takeDeferred x2, ?_⟩⟩
            refine ⟨by simp, .inl ⟨_, _, rfl, run_takeDeferred y1, ?_⟩⟩
            refine ⟨.tuple #[.slice (some ⟨w2.heap.size, 0, none⟩) t.length t.length, .nilIface], ?_, _, 0, rfl, .inr (.inr ⟨by rw [unhide HK, unhide HV]; rfl, by rw [unhide HUS, unhide HRB]; exact hok, ?_, rfl⟩), yb⟩
            · simp [results, Tryz.results27, go_sem, y4, y5]
            · rw [unhide HUS]
              by_cases h0 : t.length = 0
              · exact .inl ⟨List.length_eq_zero_iff.1 ((unhide HRL).trans h0), _, _, by rw [h0]⟩
              · refine .inr ⟨w2.heap.size, t.length, by rw [unhide HRL], ⟨by omega, by rw [unhide HRL]; exact Nat.le_refl _⟩, ?_⟩
                have hp : 0 < (rated us t).length := by have := unhide HRL; omega
                exact rown_keptR (rown_keptR (hRX (by omega)) hp (grownBy_putObj' X D2 (.deferred none)) (fun r e => by cases e; exact ⟨_, x2, rfl⟩)) hp (grownBy_putObj' _ D (.deferred none)) (fun r e => by cases e; exact ⟨_, y1, rfl⟩)
        case stop2 =>
          rintro D2 k W' hD2 ⟨⟨⟨m, hm, htd⟩, a4, a5, h9⟩, hB⟩ hK2
          have HR : Hid (∀ W', RateOut w W' t evs (sumsO evs) (.slice none 0 0) 6) := hide (fun W' => .inr (.inl ⟨by rw [unhide HK, unhide HV]; rfl, by rw [unhide HUS]; exact rateB_told (allTold_no hm htd), rfl, rfl⟩))
          obtain ⟨y1, y4, y5, yb⟩ := take2 (w := w) (D := D) (D2 := D2) (by omega) (by omega) h9 hK2 a4 a5 hB
          have HK2' := hide hK2
          clear hm htd h9 hK2 hB a4 a5 HJ0
          gi_wp2_with (fail)
          refine ⟨by simp, .inl ⟨_, _, rfl, run_takeDeferred (unhide HK2'), ?_⟩⟩
          refine ⟨by simp, .inl ⟨_, _, rfl, run_takeDeferred y1, ?_⟩⟩
          refine ⟨.tuple #[.slice none 0 0, .iface 84 (.int .i64 6)], ?_, _, 6, rfl, unhide HR _, yb⟩
          simp [results, Tryz.results27, go_sem, y4, y5]
      case stop =>
        rintro D c pre W hD hpre ⟨⟨rfl, ⟨x, hx, hx2⟩, a4, a5⟩, hB⟩ hK2
        clear hL0
        have HKD := hide hK2
        have HB := hide hB
        have HA := hide hx
        have hA4 := cell_kept a4 (grownBy_putObj' _ D (.deferred none)) (fun r e => by cases e; exact ⟨_, hK2, rfl⟩)
        have hA5 := cell_kept a5 (grownBy_putObj' _ D (.deferred none)) (fun r e => by cases e; exact ⟨_, hK2, rfl⟩)
        have HR : Hid (∀ W', RateOut w W' t evs (sumsO evs) (.slice none 0 0) 6) := hide (fun W' => by
          obtain ⟨post, hpost⟩ := hpre
          have hm : x ∈ seqY us t t.length := by rw [← hpost]; exact List.mem_append_left _ hx
          unfold seqY at hm
          rw [List.mem_map] at hm
          obtain ⟨j, hj, rfl⟩ := hm
          refine .inr (.inl ⟨by rw [unhide HK, unhide HV]; rfl, ?_, rfl, rfl⟩)
          rw [unhide HUS]
          exact rateB_no (by simpa using hj) hx2)
        clear hx hx2 hpre hK2 hB a4 a5
        gi_wp2_with (fail)
        refine ⟨by simp, .inl ⟨_, _, rfl, run_takeDeferred (unhide HKD), ?_⟩⟩
        refine ⟨.tuple #[.slice none 0 0, .iface 84 (.int .i64 6)], ?_, _, 6, rfl, unhide HR _, (unhide HB).trans (belowK_b (w := w) (Nat.le_refl _) W D _ _ (by omega) (unhide HKD) rfl rfl)⟩
        simp [results, Tryz.results27, go_sem, hA4, hA5]
end Go.Proofs.YtnchgeiinkaefaaGreatDoor.Bill
end

section
/-
  impl.BillRate.
-/
namespace Go.Proofs.YtnchgeiinkaefaaGreatDoor.Bill
set_option linter.unusedVariables false
open Go.RowKit Evs Go.Shelf
open BRow (R R0 RC RR ROwn RN)
open Uses (U)
open Sums (sumsO)
open Rule (EnvR)
open ErrA (rty codeOf_nil codeOf_code)

theorem RateOut.kept {w w1 w2 : World} {t evs : List E} {us : List U} {v : Value} {c : Int} (h : RateOut w w1 t evs us v c) (hb : Below w1.heap.size w1 w2) : RateOut w w2 t evs us v c := by
  rcases h with h | h | ⟨h1, h2, h3, h4⟩
  · exact .inl h
  · exact .inr (.inl h)
  · refine .inr (.inr ⟨h1, h2, ?_, h4⟩)
    rcases h3 with h | ⟨b, cap, e, hc, ho⟩
    · exact .inl h
    · exact .inr ⟨b, cap, e, hc, ho.kept hb⟩

/-- the code of an error -/
theorem codeOfI (c : Int) (w : World) (he : w.cell? ⟨0, 0, none⟩ = some (rty 62)) (hel : 0 < w.heap.size) : Calls Tryz.prog 28 #[errV c] w fun x w' => x = .returned (.int .i64 c) ∧ Below w.heap.size w w' := by
  unfold errV
  by_cases h : c = 0
  · subst h
    exact codeOf_nil w
  · rw [if_neg h]
    exact codeOf_code c w he hel

set_option maxRecDepth 20000 in
set_option maxHeartbeats 1000000 in
theorem billRateI (tv ev : Value) (t evs : List E) (w : World) (hT : ER w tv t) (hE : ER w ev evs) (ht : t.length ≤ 1048576) (hts : ∀ u ∈ t, u.1.size ≤ maxLen ∧ u.2.1.size ≤ maxLen) (he : evs.length ≤ 1048576) (hes : ∀ u ∈ evs, u.1.size ≤ maxLen ∧ u.2.1.size ≤ maxLen) (hEn : EnvR w) (hg : w.cell? ⟨0, 0, none⟩ = some (rty 62)) (hgl : 0 < w.heap.size) :
    Calls Tryz.prog 9 #[tv, ev] w fun x w' => ∃ v c, x = .returned (.tuple #[v, .int .i64 c]) ∧ RateOut w w' t evs (sumsO evs) v c ∧ Below w.heap.size w w' := by
  obtain ⟨ta, tc, rfl⟩ := hT.slice
  obtain ⟨ea, ec, rfl⟩ := hE.slice
  have HT := hide hT
  have HE := hide hE
  have HTS := hide hts
  have HES := hide hes
  have HEN := hide hEn
  have HG := hide hg
  clear hT hE hts hes hEn hg
  go_enter Tryz.func9, Tryz.ntmps9
  go_wp2_with (fail)
  refine (rateRowsI _ _ t evs w (unhide HT) (unhide HE) ht (unhide HTS) he (unhide HES) (unhide HEN)).mono ?_
  rintro x w1 ⟨v, c, rfl, hO, hb⟩
  have HO := hide hO
  have HB := hide hb
  have hco := codeOfI c w1 ((hb.cell (p := ⟨0, 0, none⟩) hgl).trans (unhide HG)) (Nat.lt_of_lt_of_le hgl hb.size)
  generalize errV c = e at *
  have HC := hide hco
  clear hO hb hco
  go_wp2_with (fail)
  refine (unhide HC).mono ?_
  rintro x w2 ⟨rfl, hb2⟩
  have HO2 := hide ((unhide HO).kept hb2)
  have HB2 := hide (below_trans (unhide HB) hb2)
  clear hb2
  go_wp2_with (fail)
  go_ret2
  exact ⟨_, _, rfl, unhide HO2, unhide HB2⟩
end Go.Proofs.YtnchgeiinkaefaaGreatDoor.Bill
end

section
/-
  The law on BillRate: impl.BillRate answers as spec.BillRate, writes into no argument, and its answer owns its memory.
-/
namespace Go.Proofs.YtnchgeiinkaefaaGreatDoor.Bill
set_option linter.unusedVariables false
open Go.RowKit Evs
open BRow (R R0 RC RR ROwn RN eqRows markRows heldRows marksR)
open Uses (U)
open Sums (sumsO)
open Rule (EnvR)
open ErrA (rty)

theorem en_keptG {B : Nat} {W W' : World} {v : Value} {l : List E} {r : Option Nat} (h : EN B W v l) (hg : W.grownBy W' r) (hr : ∀ b, r = some b → b < B) : EN B W' v l := by
  rcases h with h | ⟨b, cap, rfl, h1, hc⟩
  · exact .inl h
  · refine .inr ⟨b, cap, rfl, h1, ⟨Nat.lt_of_lt_of_le hc.1.1 hg.size, fun i hi => ?_⟩, fun j => ?_⟩
    · have hblk : W'.heap[b]? = W.heap[b]? := hg.block b hc.1.1 (fun e => by have := hr b e.symm; omega)
      have key : ∀ o : Nat, W'.cell? ⟨b, o, none⟩ = W.cell? ⟨b, o, none⟩ := fun o => World.cell?_of_block hblk
      obtain ⟨c0, c1, c2⟩ := hc.1.2 i hi
      exact ⟨(key _).trans c0, (key _).trans c1, (key _).trans c2⟩
    · have hblk : W'.heap[b]? = W.heap[b]? := hg.block b hc.1.1 (fun e => by have := hr b e.symm; omega)
      have key : W'.frozen? ⟨b, j, none⟩ = W.frozen? ⟨b, j, none⟩ := World.frozen?_of_block hblk
      exact key.trans (hc.2 j)
theorem rn_keptG {B : Nat} {W W' : World} {v : Value} {l : List R} {r : Option Nat} (h : RN B W v l) (hg : W.grownBy W' r) (hr : ∀ b, r = some b → b < B) : RN B W' v l := by
  rcases h with h | ⟨b, cap, rfl, h1, hc⟩
  · exact .inl h
  · refine .inr ⟨b, cap, rfl, h1, ⟨Nat.lt_of_lt_of_le hc.1.1 hg.size, fun i hi => ?_⟩, fun j => ?_⟩
    · have hblk : W'.heap[b]? = W.heap[b]? := hg.block b hc.1.1 (fun e => by have := hr b e.symm; omega)
      have key : ∀ o : Nat, W'.cell? ⟨b, o, none⟩ = W.cell? ⟨b, o, none⟩ := fun o => World.cell?_of_block hblk
      obtain ⟨c0, c1, c2⟩ := hc.1.2 i hi
      exact ⟨(key _).trans c0, (key _).trans c1, (key _).trans c2⟩
    · have hblk : W'.heap[b]? = W.heap[b]? := hg.block b hc.1.1 (fun e => by have := hr b e.symm; omega)
      have key : W'.frozen? ⟨b, j, none⟩ = W.frozen? ⟨b, j, none⟩ := World.frozen?_of_block hblk
      exact key.trans (hc.2 j)
theorem en_block {B : Nat} {W : World} {v : Value} {l : List E} (h : EN B W v l) (hl : l ≠ []) : ∃ b, v.ownBlock = some b ∧ B ≤ b ∧ b < W.heap.size := by
  rcases h with ⟨h, _⟩ | ⟨b, cap, rfl, h1, hc⟩
  · exact absurd h hl
  · exact ⟨b, rfl, h1.1, hc.1.1⟩

/-- what BillRate gives -/
noncomputable def rateO (us : List U) (t evs : List E) : List R := if (okL t && Evs.okB evs) = true ∧ rateB us t = true then rated us t else []
noncomputable def rateC (us : List U) (t evs : List E) : Int := if (okL t && Evs.okB evs) = true then (if rateB us t = true then 0 else 6) else 4
theorem rateO_len (us : List U) (t evs : List E) : (rateO us t evs).length ≤ 1048576 := by
  unfold rateO
  split
  · rename_i h
    have h1 : okL t = true := by
      cases ho : okL t
      · rw [ho] at h; simp at h
      · rfl
    have := (okL_parts h1).1
    unfold rated; rw [Tax.rowsF_len, rowsN_len]; omega
  · simp
theorem RateOut.rn {w w' : World} {t evs : List E} {us : List U} {v : Value} {c : Int} (h : RateOut w w' t evs us v c) : RN w.heap.size w' v (rateO us t evs) ∧ c = rateC us t evs := by
  unfold rateO rateC
  rcases h with ⟨h1, rfl, rfl⟩ | ⟨h1, h2, rfl, rfl⟩ | ⟨h1, h2, h3, rfl⟩
  · rw [h1]; exact ⟨.inl ⟨by simp, _, _, rfl⟩, by simp⟩
  · rw [h1, h2]; exact ⟨.inl ⟨by simp, _, _, rfl⟩, by simp⟩
  · rw [if_pos ⟨h1, h2⟩, if_pos h1, if_pos h2]; exact ⟨h3, rfl⟩

set_option maxRecDepth 20000 in
set_option maxHeartbeats 3200000 in
theorem lawRate (tv ev : Value) (t evs : List E) (w : World) (hT : ER w tv t) (hE : ER w ev evs) (htl : t.length ≤ maxLen) (hts : ∀ u ∈ t, u.1.size ≤ maxLen ∧ u.2.1.size ≤ maxLen) (hel : evs.length ≤ maxLen) (hes : ∀ u ∈ evs, u.1.size ≤ maxLen ∧ u.2.1.size ≤ maxLen) (hEn : EnvR w) (hg : w.cell? ⟨0, 0, none⟩ = some (rty 62)) (hgl : 0 < w.heap.size) :
    Calls Tryz.prog 3 #[tv, ev] w fun e w' => e = .returned (.bool true) ∧ Below w.heap.size w w' := by
  have HT := hide hT
  have HE := hide hE
  have HTS := hide hts
  have HES := hide hes
  have HEN := hide hEn
  have HG := hide hg
  have HGL := hide hgl
  clear hT hE hts hes hEn hg hgl
  go_enter Tryz.func3, Tryz.ntmps3
  go_wp2_with (fail)
  refine (szLins tv t 1048576 _ (unhide HT) htl (unhide HTS) (by omega) (by omega)).mono ?_
  rintro e w1 ⟨r, rfl, r1, r3, r2, hb1⟩
  by_cases hr : r < 0
  · have B1 := hide hb1
    clear hb1
    go_wp2
    go_ret
    exact ⟨rfl, unhide B1⟩
  have hl1 : t.length ≤ 1048576 := by have := r2 (by omega); omega
  have B1 := hide hb1
  clear hb1 r2 htl
  go_wp2_with (fail)
  refine (szEvs ev evs r _ ((unhide HE).kept (unhide B1)) hel (unhide HES) (by omega) (by omega)).mono ?_
  rintro e w1b ⟨q, rfl, q1, q3, q2, hb1⟩
  have B1b := hide (below_trans (unhide B1) hb1)
  clear hb1 B1
  by_cases hq : q < 0
  · go_wp2
    go_ret
    exact ⟨rfl, unhide B1b⟩
  have hl2 : evs.length ≤ 1048576 := by have := q2 (by omega); omega
  clear q2 hel r1 r3 q1 q3 hr
  go_wp2_with (fail)
  refine (toLins tv t _ ((unhide HT).kept (unhide B1b)) hl1).mono ?_
  rintro e w2a ⟨v1, rfl, u1, hb⟩
  have B2a := hide (below_trans (unhide B1b) hb)
  have U1 := hide u1.er
  clear hb u1 B1b
  go_wp2_with (fail)
  refine (toEvs ev evs _ ((unhide HE).kept (unhide B2a)) hl2).mono ?_
  rintro e w2 ⟨v2, rfl, u2, hb⟩
  have B2 := hide (below_trans (unhide B2a) hb)
  have U1' := hide ((unhide U1).kept hb)
  have U2 := hide u2.er
  clear hb u2 B2a U1
  go_wp2_with (fail)
  refine (rateS v1 v2 t evs _ (unhide U1') (unhide U2) hl1 (unhide HTS) hl2 (unhide HES)).mono ?_
  rintro e w3 ⟨sv, sc, rfl, hO, hb⟩
  obtain ⟨n3, rfl⟩ := hO.rn
  have B3 := hide (below_trans (unhide B2) hb)
  have N3 := hide n3.er
  have hOL := rateO_len (sumsO evs) t evs
  obtain ⟨O, hOO⟩ : ∃ O, rateO (sumsO evs) t evs = O := ⟨_, rfl⟩
  obtain ⟨C, hCC⟩ : ∃ C, rateC (sumsO evs) t evs = C := ⟨_, rfl⟩
  rw [hOO] at N3 hOL
  rw [hCC]
  have HOO := hide hOO
  have HCC := hide hCC
  clear hb hO n3 B2 U1' U2 hOO hCC
  go_wp2_with (fail)
  refine (toLins tv t _ ((unhide HT).kept (unhide B3)) hl1).mono ?_
  rintro e w4 ⟨v4, rfl, u4, hb⟩
  have B4 := hide (below_trans (unhide B3) hb)
  have C4 := hide hb
  have U4 := hide u4
  have z3 := (unhide B3).size
  have z4 := hb.size
  clear B3 hb u4
  go_wp2_with (fail)
  refine (toEvs ev evs _ ((unhide HE).kept (unhide B4)) hl2).mono ?_
  rintro e w5 ⟨v5, rfl, u5, hb⟩
  have B5 := hide (below_trans (unhide B4) hb)
  have C5 := hide (below_trans (unhide C4) hb)
  have U4b := hide ((unhide U4).kept hb)
  have U5 := hide u5
  have z5 := hb.size
  clear B4 hb u5 C4
  have y4 : Hid (∀ b, v4.ownBlock = some b → t ≠ [] → w3.heap.size ≤ b ∧ b < w4.heap.size) := hide (fun b hb hne => by
    obtain ⟨b', h1, h2, h3⟩ := en_block (unhide U4) hne
    rw [h1] at hb
    simp only [Option.some.injEq] at hb
    subst hb
    exact ⟨h2, h3⟩)
  have y5 : Hid (∀ b, v5.ownBlock = some b → evs ≠ [] → w4.heap.size ≤ b ∧ b < w5.heap.size) := hide (fun b hb hne => by
    obtain ⟨b', h1, h2, h3⟩ := en_block (unhide U5) hne
    rw [h1] at hb
    simp only [Option.some.injEq] at hb
    subst hb
    exact ⟨h2, h3⟩)
  clear U4
  go_wp2_with (fail)
  refine (billRateI v4 v5 t evs _ (unhide U4b).er (unhide U5).er hl1 (unhide HTS) hl2 (unhide HES) ((unhide HEN).kept (unhide B5)) (((unhide B5).cell (p := ⟨0, 0, none⟩) (unhide HGL)).trans (unhide HG)) (Nat.lt_of_lt_of_le (unhide HGL) (unhide B5).size)).mono ?_
  rintro e w6 ⟨gv, gc, rfl, hO, hb⟩
  obtain ⟨n6, rfl⟩ := hO.rn
  rw [unhide HOO] at n6
  rw [unhide HCC]
  have B6 := hide (below_trans (unhide B5) hb)
  have C6 := hide (below_trans (unhide C5) hb)
  have N6 := hide ((unhide N3).kept (unhide C6))
  have U46 := hide ((unhide U4b).kept hb)
  have U56 := hide ((unhide U5).kept hb)
  have G6 := hide n6
  clear hb hO n6 B5 C5 U4b U5
  have hcc : (C != C) = false := by simp
  go_wp2_with (fail)
  refine (eqRows gv sv O _ (unhide G6).er (unhide N6) hOL).mono ?_
  rintro e w7 ⟨rfl, hb⟩
  have B7 := hide (below_trans (unhide B6) hb)
  have C7 := hide (below_trans (unhide C6) hb)
  have U47 := hide ((unhide U46).kept hb)
  have U57 := hide ((unhide U56).kept hb)
  have G7 := hide ((unhide G6).kept hb)
  clear hb B6 C6 U46 U56 G6 N6
  go_wp2_with (fail)
  refine (toLins tv t _ ((unhide HT).kept (unhide B7)) hl1).mono ?_
  rintro e w8 ⟨v8, rfl, u8, hb⟩
  have B8 := hide (below_trans (unhide B7) hb)
  have C8 := hide (below_trans (unhide C7) hb)
  have U48 := hide ((unhide U47).kept hb)
  have U58 := hide ((unhide U57).kept hb)
  have G8 := hide ((unhide G7).kept hb)
  have V8 := hide u8.er
  clear hb B7 C7 U47 U57 G7 u8
  go_wp2_with (fail)
  refine (eqLins v4 v8 t _ (unhide U48).er (unhide V8) hl1).mono ?_
  rintro e w9 ⟨rfl, hb⟩
  have B9 := hide (below_trans (unhide B8) hb)
  have C9 := hide (below_trans (unhide C8) hb)
  have U49 := hide ((unhide U48).kept hb)
  have U59 := hide ((unhide U58).kept hb)
  have G9 := hide ((unhide G8).kept hb)
  clear hb B8 C8 U48 U58 G8 V8
  go_wp2_with (fail)
  refine (toEvs ev evs _ ((unhide HE).kept (unhide B9)) hl2).mono ?_
  rintro e w10 ⟨v10, rfl, u10, hb⟩
  have B10 := hide (below_trans (unhide B9) hb)
  have C10 := hide (below_trans (unhide C9) hb)
  have U410 := hide ((unhide U49).kept hb)
  have U510 := hide ((unhide U59).kept hb)
  have G10 := hide ((unhide G9).kept hb)
  have V10 := hide u10.er
  clear hb B9 C9 U49 U59 G9 u10
  go_wp2_with (fail)
  refine (eqEvs v5 v10 evs _ (unhide U510).er (unhide V10) hl2).mono ?_
  rintro e w11 ⟨rfl, hb⟩
  have B11 := hide (below_trans (unhide B10) hb)
  have C11 := hide (below_trans (unhide C10) hb)
  have U411 := hide ((unhide U410).kept hb)
  have U511 := hide ((unhide U510).kept hb)
  have G11 := hide ((unhide G10).kept hb)
  clear hb B10 C10 U410 U510 G10 V10
  go_wp2_with (fail)
  refine (markLins _ v4 t 1 _ (unhide U411) hl1 (by omega) (by omega)).mono ?_
  rintro e w12 ⟨rfl, _, r12, hg12, hr12⟩
  have hrr : ∀ b, r12 = some b → w3.heap.size ≤ b ∧ b < w4.heap.size := fun b hb => unhide y4 b (hr12 b hb).1 (hr12 b hb).2.1
  have C12 := hide ((unhide C11).grown hg12 (unhide C11).size (fun b hb => (hrr b hb).1))
  have B12 := hide ((unhide B11).grown hg12 (unhide B11).size (fun b hb => Nat.le_trans z3 (hrr b hb).1))
  have G12 := hide (rn_keptG (unhide G11) hg12 (fun b hb => Nat.lt_of_lt_of_le (hrr b hb).2 z5))
  have U512 := hide (en_keptG (unhide U511) hg12 (fun b hb => (hrr b hb).2))
  clear hg12 hr12 hrr r12 B11 C11 G11 U411 U511 y4
  go_wp2_with (fail)
  refine (markEvs _ v5 evs (1 + 3 * t.length) _ (unhide U512) hl2 (by omega) (by omega)).mono ?_
  rintro e w13 ⟨rfl, _, r13, hg13, hr13⟩
  have hrr : ∀ b, r13 = some b → w4.heap.size ≤ b ∧ b < w5.heap.size := fun b hb => unhide y5 b (hr13 b hb).1 (hr13 b hb).2.1
  have C13 := hide ((unhide C12).grown hg13 (unhide C12).size (fun b hb => Nat.le_trans z4 (hrr b hb).1))
  have B13 := hide ((unhide B12).grown hg13 (unhide B12).size (fun b hb => Nat.le_trans z3 (Nat.le_trans z4 (hrr b hb).1)))
  have G13 := hide (rn_keptG (unhide G12) hg13 (fun b hb => (hrr b hb).2))
  have N13 := hide ((unhide N3).kept (unhide C13))
  clear hg13 hr13 hrr r13 B12 C12 G12 U512 y5
  have k9 : ¬ ((1 + 3 * t.length + 3 * evs.length : Nat) : Int) < 0 := by omega
  go_wp2_with (fail)
  refine (eqRows gv sv O _ (unhide G13).er (unhide N13) hOL).mono ?_
  rintro e w14 ⟨rfl, hb⟩
  have B14 := hide (below_trans (unhide B13) hb)
  have C14 := hide (below_trans (unhide C13) hb)
  have G14 := hide ((unhide G13).kept hb)
  clear hb B13 C13 G13 N13
  go_wp2_with (fail)
  refine (markRows _ gv O 1 _ (unhide G14) hOL (by omega) (by omega)).mono ?_
  rintro e w15 ⟨rfl, g15, r15, hg15, hr15⟩
  have C15 := hide ((unhide C14).grown hg15 (unhide C14).size (fun b hb => Nat.le_trans z4 (Nat.le_trans z5 (hr15 b hb).2.2)))
  have B15 := hide ((unhide B14).grown hg15 (unhide B14).size (fun b hb => Nat.le_trans z3 (Nat.le_trans z4 (Nat.le_trans z5 (hr15 b hb).2.2))))
  have G15 := hide g15
  clear hg15 hr15 r15 B14 C14 G14 g15
  go_wp2_with (fail)
  refine (heldRows gv O.length 1 _ (unhide G15).er hOL (by omega) (by omega)).mono ?_
  rintro e w16 ⟨rfl, hb⟩
  have B16 := hide (below_trans (unhide B15) hb)
  have C16 := hide (below_trans (unhide C15) hb)
  have G16 := hide ((unhide G15).kept hb)
  clear hb B15 C15 G15
  have x12 : ((1 + 3 * (O.length : Int)) != (1 + 3 * (O.length : Int))) = false := by simp
  go_wp2_with (fail)
  refine (toLins tv t _ ((unhide HT).kept (unhide B16)) hl1).mono ?_
  rintro e w17 ⟨v17, rfl, u17, hb⟩
  have B17 := hide (below_trans (unhide B16) hb)
  have C17 := hide (below_trans (unhide C16) hb)
  have G17 := hide ((unhide G16).kept hb)
  have V17 := hide u17.er
  clear hb B16 C16 G16 u17
  go_wp2_with (fail)
  refine (toEvs ev evs _ ((unhide HE).kept (unhide B17)) hl2).mono ?_
  rintro e w18 ⟨v18, rfl, u18, hb⟩
  have B18 := hide (below_trans (unhide B17) hb)
  have C18 := hide (below_trans (unhide C17) hb)
  have G18 := hide ((unhide G17).kept hb)
  have V17b := hide ((unhide V17).kept hb)
  have V18 := hide u18.er
  clear hb B17 C17 G17 u18 V17
  go_wp2_with (fail)
  refine (billRateI v17 v18 t evs _ (unhide V17b) (unhide V18) hl1 (unhide HTS) hl2 (unhide HES) ((unhide HEN).kept (unhide B18)) (((unhide B18).cell (p := ⟨0, 0, none⟩) (unhide HGL)).trans (unhide HG)) (Nat.lt_of_lt_of_le (unhide HGL) (unhide B18).size)).mono ?_
  rintro e w19 ⟨hv, hc, rfl, hO, hb⟩
  obtain ⟨n19, rfl⟩ := hO.rn
  rw [unhide HOO] at n19
  rw [unhide HCC]
  have B19 := hide (below_trans (unhide B18) hb)
  have C19 := hide (below_trans (unhide C18) hb)
  have G19 := hide ((unhide G18).kept hb)
  have N19 := hide ((unhide N3).kept (unhide C19))
  have V19 := hide n19.er
  clear hb hO n19 B18 C18 G18 V17b V18
  go_wp2_with (fail)
  refine (eqRows hv sv O _ (unhide V19) (unhide N19) hOL).mono ?_
  rintro e w20 ⟨rfl, hb⟩
  have B20 := hide (below_trans (unhide B19) hb)
  have G20 := hide ((unhide G19).kept hb)
  clear hb B19 C19 G19 N19 V19
  go_wp2_with (fail)
  refine (heldRows gv O.length 1 _ (unhide G20).er hOL (by omega) (by omega)).mono ?_
  rintro e w21 ⟨rfl, hb⟩
  have B21 := hide (below_trans (unhide B20) hb)
  clear hb B20 G20
  go_wp2
  go_ret
  exact ⟨rfl, unhide B21⟩
end Go.Proofs.YtnchgeiinkaefaaGreatDoor.Bill
end
