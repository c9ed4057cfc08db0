/-
  Texts of this proof laid together, in build order; each says of itself what it holds.
-/
import Derived.Test.YtnchgeiinkaefaaGreatDoorZar
import Derived.Test.YtnchgeiinkaefaaGreatDoorZan
section
/-
  impl.RuleStep: what it answers.
-/
namespace Go.Proofs.YtnchgeiinkaefaaGreatDoor.Tiers
set_option linter.unusedVariables false
open Go.RowKit Coin Go.Shelf

attribute [local go_sem] Oper.semAt_some

theorem new1 (w : World) (a : Value) (t : TypeId) : (w.alloc (.cells #[a] t)).cell? ⟨w.heap.size, 0, none⟩ = some a ∧ (w.alloc (.cells #[a] t)).frozen? ⟨w.heap.size, 0, none⟩ = false := by
  have e1 := (MapKept.heap_alloc w (.cells #[a] t)).1
  simp only [World.cell?, World.frozen?]
  rw [e1]; simp
/-- two new variables, and what is kept of them -/
theorem new2 (w w1 : World) (a b : Value) (t u : TypeId) (hb : Below ((w.alloc (.cells #[a] t)).alloc (.cells #[b] u)).heap.size ((w.alloc (.cells #[a] t)).alloc (.cells #[b] u)) w1) :
    w1.cell? ⟨w.heap.size, 0, none⟩ = some a ∧ w1.frozen? ⟨w.heap.size, 0, none⟩ = false ∧ w1.cell? ⟨w.heap.size + 1, 0, none⟩ = some b ∧ w1.frozen? ⟨w.heap.size + 1, 0, none⟩ = false ∧ w.heap.size + 1 < w1.heap.size ∧ Below w.heap.size w w1 := by
  have n1 := new1 w a t
  have n2 := new1 (w.alloc (.cells #[a] t)) b u
  rw [World.size_alloc] at n2
  have hz := hb.size
  simp only [World.size_alloc] at hz
  have k1 : Below (w.heap.size + 1) (w.alloc (.cells #[a] t)) ((w.alloc (.cells #[a] t)).alloc (.cells #[b] u)) := (Below.refl _ _).alloc (by simp) _
  refine ⟨?_, ?_, ?_, ?_, by omega, ?_⟩
  · rw [hb.cell (p := ⟨w.heap.size, 0, none⟩) (by simp; omega), k1.cell (p := ⟨w.heap.size, 0, none⟩) (by simp)]; exact n1.1
  · rw [hb.frozen (p := ⟨w.heap.size, 0, none⟩) (by simp; omega), k1.frozen (p := ⟨w.heap.size, 0, none⟩) (by simp)]; exact n1.2
  · rw [hb.cell (p := ⟨w.heap.size + 1, 0, none⟩) (by simp)]; exact n2.1
  · rw [hb.frozen (p := ⟨w.heap.size + 1, 0, none⟩) (by simp)]; exact n2.2
  · exact (((Below.refl _ w).alloc (Nat.le_refl _) _).alloc (by simp) _).trans (hb.mono (by simp; omega))

set_option maxRecDepth 100000 in
set_option maxHeartbeats 2000000 in
theorem stepI_bad1 (v : Value) (l : List T) (q : Int) (w : World) (h : TR w v l) (hl : l.length ≤ 1048576) (hr : rightB l = false) :
    Calls Tryz.prog 282 #[v, .int .i64 q] w fun e w' => e = .returned (.tuple #[.int .i64 0, .bool false]) ∧ Below w.heap.size w w' := by
  have H := hide h
  clear h
  refine (callsIn_wide (n := 5)).1 ?_
  refine callsIn_of_wp_marks Tryz.func282 rfl trivial ?_ rfl
  simp only [Tryz.ntmps282, List.size_toArray, List.length_cons, List.length_nil, Nat.reduceAdd, Nat.reduceSub, Array.replicate_succ, Array.replicate_zero, List.push_toArray, List.append_toArray, List.nil_append, List.cons_append]
  gi_wp2_with (fail)
  refine ⟨trivial, (callsIn_wide.2 (rightI v l _ ((unhide H).kept (((Below.refl _ _).alloc (Nat.le_refl _) _).alloc (by simp) _)) hl)).mono ?_⟩
  rintro e w1 ⟨rfl, hb⟩
  obtain ⟨c4, f4, c5, f5, hz, hB⟩ := new2 _ _ _ _ _ _ hb
  have HB := hide hB
  clear hb hB
  gi_wp2_with (fail)
  refine ⟨trivial, ?_⟩
  gi_wp2_with (fail)
  refine ⟨.tuple #[.int .i64 0, .bool false], ?_, rfl, ((unhide HB).setCell (p := ⟨w.heap.size, 0, none⟩) (Nat.le_refl _) _).setCell (p := ⟨w.heap.size + 1, 0, none⟩) (by simp) _⟩
  simp [results, Tryz.results282, go_sem, c4, c5]

set_option maxRecDepth 100000 in
set_option maxHeartbeats 2000000 in
theorem stepI_bad2 (v : Value) (l : List T) (q : Int) (w : World) (h : TR w v l) (hl : l.length ≤ 1048576) (hr : rightB l = true) (hq : okB q = false) :
    Calls Tryz.prog 282 #[v, .int .i64 q] w fun e w' => e = .returned (.tuple #[.int .i64 0, .bool false]) ∧ Below w.heap.size w w' := by
  have H := hide h
  clear h
  refine (callsIn_wide (n := 5)).1 ?_
  refine callsIn_of_wp_marks Tryz.func282 rfl trivial ?_ rfl
  simp only [Tryz.ntmps282, List.size_toArray, List.length_cons, List.length_nil, Nat.reduceAdd, Nat.reduceSub, Array.replicate_succ, Array.replicate_zero, List.push_toArray, List.append_toArray, List.nil_append, List.cons_append]
  gi_wp2_with (fail)
  refine ⟨trivial, (callsIn_wide.2 (rightI v l _ ((unhide H).kept (((Below.refl _ _).alloc (Nat.le_refl _) _).alloc (by simp) _)) hl)).mono ?_⟩
  rintro e w1 ⟨rfl, hb⟩
  obtain ⟨c4, f4, c5, f5, hz, hB⟩ := new2 _ _ _ _ _ _ hb
  have HB := hide hB
  clear hb hB
  gi_wp2_with (fail)
  refine ⟨trivial, (callsIn_wide.2 (okI q _)).mono ?_⟩
  rintro e w2 ⟨rfl, rfl⟩
  gi_wp2_with (fail)
  refine ⟨.tuple #[.int .i64 0, .bool false], ?_, rfl, ((unhide HB).setCell (p := ⟨w.heap.size, 0, none⟩) (Nat.le_refl _) _).setCell (p := ⟨w.heap.size + 1, 0, none⟩) (by simp) _⟩
  simp [results, Tryz.results282, go_sem, c4, c5]

set_option maxRecDepth 100000 in
set_option maxHeartbeats 2000000 in
theorem stepI_ok (b o cap : Nat) (l : List T) (q : Int) (w : World) (h : TC w b o l) (hr : rightB l = true) (hq : okB q = true) :
    Calls Tryz.prog 282 #[.slice (some ⟨b, o, none⟩) l.length cap, .int .i64 q] w fun e w' => e = .returned (.tuple #[.int .i64 (stepV l q), .bool (stepB l q)]) ∧ Below w.heap.size w w' := by
  obtain ⟨z1, z2⟩ := rightB_len hr
  obtain ⟨q1, q2⟩ := okB_bd hq
  have HV : Hid (∀ x, stepF l q 0 = some x → stepB l q = true ∧ stepV l q = x) := hide (fun x hx => stepB_some hr hq hx)
  have HN : Hid (stepF l q 0 = none → stepB l q = false ∧ stepV l q = 0) := hide stepB_none
  have HAT : Hid (∀ k, k < l.length → 0 ≤ (l.getD k T0).1 ∧ (l.getD k T0).1 ≤ 1000000000) := hide (fun k hk => ⟨(okT_of (rightB_at hr hk)).2.1, (okT_of (rightB_at hr hk)).2.2.1⟩)
  generalize stepB l q = rb at *
  generalize stepV l q = rv at *
  have H := hide h
  clear h
  refine (callsIn_wide (n := 5)).1 ?_
  refine callsIn_of_wp_marks Tryz.func282 rfl trivial ?_ rfl
  simp only [Tryz.ntmps282, List.size_toArray, List.length_cons, List.length_nil, Nat.reduceAdd, Nat.reduceSub, Array.replicate_succ, Array.replicate_zero, List.push_toArray, List.append_toArray, List.nil_append, List.cons_append]
  gi_wp2_with (fail)
  refine ⟨trivial, (callsIn_wide.2 (rightI _ l _ (.inr ⟨b, o, cap, rfl, (unhide H).kept (((Below.refl _ _).alloc (Nat.le_refl _) _).alloc (by simp) _)⟩) (by omega))).mono ?_⟩
  rintro e w1 ⟨rfl, hb⟩
  obtain ⟨c4, f4, c5, f5, hz, hB⟩ := new2 _ _ _ _ _ _ hb
  have HB := hide hB
  have H1 := hide ((unhide H).kept hB)
  have hbw : b < w.heap.size := (unhide H).1
  clear hb hB H
  gi_wp2_with (fail)
  refine ⟨trivial, (callsIn_wide.2 (okI q _)).mono ?_⟩
  rintro e w2 ⟨rfl, rfl⟩
  gi_wp2_with (fail)
  refine ⟨trivial, (stepsOf 4 _ rfl q _).mono ?_⟩
  rintro e w3 ⟨rfl, rfl⟩
  gi_wp2_with (fail)
  have n6 := new1 w2 (.int .i64 0) 3
  have n7 := new1 (w2.alloc (.cells #[.int .i64 0] 3)) (.slice (some ⟨b, o, none⟩) l.length cap) 75
  have n8 := new1 ((w2.alloc (.cells #[.int .i64 0] 3)).alloc (.cells #[.slice (some ⟨b, o, none⟩) l.length cap] 75)) (.int .i64 q) 3
  simp only [World.size_alloc] at n7 n8
  obtain ⟨W0, hW0⟩ : ∃ W0, ((w2.alloc (.cells #[.int .i64 0] 3)).alloc (.cells #[.slice (some ⟨b, o, none⟩) l.length cap] 75)).alloc (.cells #[.int .i64 q] 3) = W0 := ⟨_, rfl⟩
  have k1 : Below w2.heap.size w2 W0 := by rw [← hW0]; exact (((Below.refl _ _).alloc (Nat.le_refl _) _).alloc (by simp) _).alloc (by simp; omega) _
  have k2 : Below (w2.heap.size + 1) (w2.alloc (.cells #[.int .i64 0] 3)) W0 := by rw [← hW0]; exact ((Below.refl _ _).alloc (by simp) _).alloc (by simp) _
  have k3 : Below (w2.heap.size + 1 + 1) ((w2.alloc (.cells #[.int .i64 0] 3)).alloc (.cells #[.slice (some ⟨b, o, none⟩) l.length cap] 75)) W0 := by rw [← hW0]; exact (Below.refl _ _).alloc (by simp) _
  have hsz : W0.heap.size = w2.heap.size + 3 := by rw [← hW0]; simp
  have hB0 : Below w.heap.size w W0 := (unhide HB).trans (k1.mono (unhide HB).size)
  have d6 : W0.cell? ⟨w2.heap.size, 0, none⟩ = some (.int .i64 0) := (k2.cell (p := ⟨w2.heap.size, 0, none⟩) (by simp)).trans n6.1
  have e6 : W0.frozen? ⟨w2.heap.size, 0, none⟩ = false := (k2.frozen (p := ⟨w2.heap.size, 0, none⟩) (by simp)).trans n6.2
  have d7 : W0.cell? ⟨w2.heap.size + 1, 0, none⟩ = some (.slice (some ⟨b, o, none⟩) l.length cap) := (k3.cell (p := ⟨w2.heap.size + 1, 0, none⟩) (by simp)).trans n7.1
  have d8 : W0.cell? ⟨w2.heap.size + 1 + 1, 0, none⟩ = some (.int .i64 q) := by rw [← hW0]; exact n8.1
  have d4 : W0.cell? ⟨w.heap.size, 0, none⟩ = some (.int .i64 0) := (k1.cell (p := ⟨w.heap.size, 0, none⟩) (by simp; omega)).trans c4
  have e4 : W0.frozen? ⟨w.heap.size, 0, none⟩ = false := (k1.frozen (p := ⟨w.heap.size, 0, none⟩) (by simp; omega)).trans f4
  have d5 : W0.cell? ⟨w.heap.size + 1, 0, none⟩ = some (.bool false) := (k1.cell (p := ⟨w.heap.size + 1, 0, none⟩) (by simp; omega)).trans c5
  have e5 : W0.frozen? ⟨w.heap.size + 1, 0, none⟩ = false := (k1.frozen (p := ⟨w.heap.size + 1, 0, none⟩) (by simp; omega)).trans f5
  have H0 := (unhide H1).kept k1
  rw [hW0]
  have hS : Hid (w2.heap.size = w2.heap.size) := hide rfl
  generalize w2.heap.size = S at *
  clear n6 n7 n8 hW0 k1 k2 k3 c4 c5 f4 f5 H1 HB hr hq hS
  refine wpIn_rangeFunc_ownF rfl (by omega) (gf := 285) (lb := #[.pointer (some ⟨S + 1 + 1, 0, none⟩), .pointer (some ⟨S + 1, 0, none⟩)]) rfl trivial (enters_of Tryz.func285 (by kernel_rfl) rfl)
    (steps_stops 4 (by omega) (S + 1 + 1) (S + 1) S b o cap l q z2 q1 q2 (by omega) HAT W0 (by omega) (by omega) (by omega) d8 d7 H0) belowK_t (belowK_b (by omega)) (Below.refl _ _) (fun _ => rfl)
    (fun pre W => ((∃ s, accF pre 0 = some s ∧ -1000000000000000 ≤ s ∧ s ≤ 1000000000000000 ∧ W.cell? ⟨S, 0, none⟩ = some (.int .i64 s)) ∧ W.frozen? ⟨S, 0, none⟩ = false ∧ W.cell? ⟨w.heap.size, 0, none⟩ = some (.int .i64 0) ∧ W.frozen? ⟨w.heap.size, 0, none⟩ = false ∧ W.cell? ⟨w.heap.size + 1, 0, none⟩ = some (.bool false) ∧ W.frozen? ⟨w.heap.size + 1, 0, none⟩ = false) ∧ Below w.heap.size w W)
    (fun c pre W => (c = .ret ∧ accF pre 0 = none ∧ W.cell? ⟨w.heap.size, 0, none⟩ = some (.int .i64 0) ∧ W.cell? ⟨w.heap.size + 1, 0, none⟩ = some (.bool false)) ∧ Below w.heap.size w W)
    (OwnFrom.and (Own.from (fun s A B row hs hg hr => by
      obtain ⟨⟨s, h1, h2, h3, h4⟩, h5, h6, h7, h8, h9⟩ := hs
      exact ⟨⟨s, h1, h2, h3, cell_kept h4 hg hr⟩, (frozen_kept h4 hg hr).trans h5, cell_kept h6 hg hr, (frozen_kept h6 hg hr).trans h7, cell_kept h8 hg hr, (frozen_kept h8 hg hr).trans h9⟩) _) (ownFrom_below (Nat.le_refl _) (by omega)))
    (fun c => OwnFrom.and (Own.from (fun s A B row hs hg hr => ⟨hs.1, hs.2.1, cell_kept hs.2.2.1 hg hr, cell_kept hs.2.2.2 hg hr⟩) _) (ownFrom_below (Nat.le_refl _) (by omega)))
    ⟨⟨⟨0, rfl, by omega, by omega, d6⟩, e6, d4, e4, d5, e5⟩, hB0⟩
    (fun x => { tmps := #[.slice (some ⟨b, o, none⟩) l.length cap, .int .i64 q, undef, undef, .pointer (some ⟨w.heap.size, 0, none⟩), .pointer (some ⟨w.heap.size + 1, 0, none⟩), .pointer (some ⟨S, 0, none⟩), .int .i64 x.1, .int .i64 x.2, undef, undef,
      .slice (some ⟨b, o, none⟩) l.length cap, .bool true, .bool false, .bool false, .int .i64 q, .bool true, .bool false, .bool false, .slice (some ⟨b, o, none⟩) l.length cap, .int .i64 q, .func (.func 285) #[] #[.pointer (some ⟨S + 1 + 1, 0, none⟩), .pointer (some ⟨S + 1, 0, none⟩)], .int .i64 x.1, .int .i64 x.2,
      undef, undef, undef, undef, undef, undef, undef, undef, undef, undef, undef, undef, undef, undef, undef, undef, undef], defers := [] }) ?assign ?body ?done ?stop
  case assign =>
    intro lp x W K hK
    gi_wp2
    exact hK
  case body =>
    rintro lp pre ⟨m, y⟩ W ⟨⟨⟨s, ha, s1, s2, hc6⟩, hf6, hc4, hf4, hc5, hf5⟩, hB⟩ hlen
    have HA := hide ha
    clear ha
    dsimp only
    have g1 : ¬ S = w.heap.size := by omega
    have g2 : ¬ S = w.heap.size + 1 := by omega
    have g3 : ¬ w.heap.size = S := by omega
    have g4 : ¬ w.heap.size + 1 = S := by omega
    gi_wp2_with (fail)
    refine ⟨trivial, (CallsIn.inRound lp (callsIn_wide.2 (timesI m y _))).mono ?_⟩
    rintro e w3 ⟨rfl, rfl⟩
    cases hf : fitB m y
    · have HX : Hid (accF (pre ++ [(m, y)]) 0 = none) := hide (by rw [acc_append, unhide HA]; simp [accF, hf])
      generalize timesV m y = tv at *
      gi_wp2_with (fail)
      exact ⟨(KeepsOthers.setCell _ _ _).trans (KeepsOthers.setCell _ _ _), ⟨rfl, unhide HX, by rw [World.cell?_setCell_other _ _ _ _ (by simp)]; exact World.cell?_setCell_same _ _ _ hc4, World.cell?_setCell_same _ _ _ (by rw [World.cell?_setCell_other _ _ _ _ (by simp)]; exact hc5)⟩, (hB.setCell (p := ⟨w.heap.size, 0, none⟩) (Nat.le_refl _) _).setCell (p := ⟨w.heap.size + 1, 0, none⟩) (by simp) _⟩
    · rw [timesV_yes hf]
      have HX : Hid (∀ c, addB s (m * y) = false → accF (pre ++ [(m, y)]) 0 = c → c = none) := hide (fun c hc e => by rw [← e, acc_append, unhide HA]; simp [accF, hc])
      have HY : Hid (addB s (m * y) = true → accF (pre ++ [(m, y)]) 0 = some (s + m * y)) := hide (fun hc => by rw [acc_append, unhide HA]; simp [accF, hc, hf])
      generalize hp : m * y = pr at *
      clear hp
      gi_wp2_with (fail)
      refine ⟨trivial, (CallsIn.inRound lp (callsIn_wide.2 (addI s pr _))).mono ?_⟩
      rintro e w4 ⟨rfl, rfl⟩
      cases hadd : addB s pr
      · rw [addV_no hadd]
        have HZ : Hid (accF (pre ++ [(m, y)]) 0 = none) := hide (unhide HX _ hadd rfl)
        clear HX HY
        gi_wp2_with (fail)
        refine ⟨((KeepsOthers.setCell _ _ _).trans (KeepsOthers.setCell _ _ _)).trans (KeepsOthers.setCell _ _ _), ⟨rfl, unhide HZ, ?_, ?_⟩, ((hB.setCell (p := ⟨S, 0, none⟩) (by simp; omega) _).setCell (p := ⟨w.heap.size, 0, none⟩) (Nat.le_refl _) _).setCell (p := ⟨w.heap.size + 1, 0, none⟩) (by simp) _⟩
        · rw [World.cell?_setCell_other _ _ _ _ (by simp)]
          exact World.cell?_setCell_same _ _ _ (by rw [World.cell?_setCell_other _ _ _ _ (by simp)]; exact hc4)
        · exact World.cell?_setCell_same _ _ _ (by rw [World.cell?_setCell_other _ _ _ _ (by simp), World.cell?_setCell_other _ _ _ _ (by simp)]; exact hc5)
      · rw [addV_yes hadd]
        have HZ : Hid (accF (pre ++ [(m, y)]) 0 = some (s + pr)) := hide (unhide HY hadd)
        obtain ⟨b1, b2⟩ := okB_bd (addB_parts hadd).2.2
        clear HX HY
        gi_wp2_with (fail)
        refine ⟨KeepsOthers.setCell _ _ _, (Below.refl S _).setCell (p := ⟨S, 0, none⟩) (Nat.le_refl _) _, ⟨⟨s + pr, unhide HZ, b1, b2, World.cell?_setCell_same _ _ _ hc6⟩, by rw [World.frozen?_setCell]; exact hf6, ?_, by rw [World.frozen?_setCell]; exact hf4, ?_, by rw [World.frozen?_setCell]; exact hf5⟩, hB.setCell (p := ⟨S, 0, none⟩) (by simp; omega) _⟩
        · rw [World.cell?_setCell_other _ _ _ _ (by simp)]; exact hc4
        · rw [World.cell?_setCell_other _ _ _ _ (by simp)]; exact hc5
  case done =>
    rintro D ys W hD rfl ⟨⟨⟨s, ha, s1, s2, hc6⟩, hf6, hc4, hf4, hc5, hf5⟩, hB⟩ hK
    rw [acc_units] at ha
    obtain ⟨rfl, rfl⟩ := unhide HV _ ha
    have HA := hide ha
    clear ha HV HN
    have g1 : ¬ S = w.heap.size := by omega
    have g2 : ¬ S = w.heap.size + 1 := by omega
    gi_wp2_with (fail)
    have hK' := ((KeepsOthers.setCell W ⟨w.heap.size, 0, none⟩ (.int .i64 rv)).trans (KeepsOthers.setCell _ ⟨w.heap.size + 1, 0, none⟩ (.bool true))).same D _ hK rfl
    refine ⟨by simp, .inl ⟨_, _, rfl, run_takeDeferred hK', ?_⟩⟩
    have q4 : ((W.setCell ⟨w.heap.size, 0, none⟩ (.int .i64 rv)).setCell ⟨w.heap.size + 1, 0, none⟩ (.bool true)).cell? ⟨w.heap.size, 0, none⟩ = some (.int .i64 rv) := by rw [World.cell?_setCell_other _ _ _ _ (by simp)]; exact World.cell?_setCell_same _ _ _ hc4
    have q5 : ((W.setCell ⟨w.heap.size, 0, none⟩ (.int .i64 rv)).setCell ⟨w.heap.size + 1, 0, none⟩ (.bool true)).cell? ⟨w.heap.size + 1, 0, none⟩ = some (.bool true) := World.cell?_setCell_same _ _ _ (by rw [World.cell?_setCell_other _ _ _ _ (by simp)]; exact hc5)
    have hc4' := cell_kept q4 (grownBy_putObj' _ D (.deferred none)) (fun r e => by cases e; exact ⟨_, hK', rfl⟩)
    have hc5' := cell_kept q5 (grownBy_putObj' _ D (.deferred none)) (fun r e => by cases e; exact ⟨_, hK', rfl⟩)
    refine ⟨.tuple #[.int .i64 rv, .bool true], ?_, rfl, ((hB.setCell (p := ⟨w.heap.size, 0, none⟩) (Nat.le_refl _) _).setCell (p := ⟨w.heap.size + 1, 0, none⟩) (by simp) _).trans (belowK_b (w := w) (Nat.le_refl _) _ D _ _ (by omega) hK' rfl rfl)⟩
    simp [results, Tryz.results282, go_sem, hc4', hc5']
  case stop =>
    rintro D c pre W hD hpre ⟨⟨rfl, hin, hc4, hc5⟩, hB⟩ hK
    obtain ⟨post, hpost⟩ := hpre
    have hnone : stepF l q 0 = none := by rw [← acc_units, ← hpost, acc_append, hin]; rfl
    obtain ⟨rfl, rfl⟩ := unhide HN hnone
    clear hnone HV HN hin hpost
    gi_wp2_with (fail)
    refine ⟨by simp, .inl ⟨_, _, rfl, run_takeDeferred hK, ?_⟩⟩
    have hc4' := cell_kept hc4 (grownBy_putObj' _ D (.deferred none)) (fun r e => by cases e; exact ⟨_, hK, rfl⟩)
    have hc5' := cell_kept hc5 (grownBy_putObj' _ D (.deferred none)) (fun r e => by cases e; exact ⟨_, hK, rfl⟩)
    refine ⟨.tuple #[.int .i64 0, .bool false], ?_, rfl, hB.trans (belowK_b (w := w) (Nat.le_refl _) W D _ _ (by omega) hK rfl rfl)⟩
    simp [results, Tryz.results282, go_sem, hc4', hc5']

/-- impl.RuleStep -/
theorem stepI (v : Value) (l : List T) (q : Int) (w : World) (h : TR w v l) (hl : l.length ≤ 1048576) :
    Calls Tryz.prog 282 #[v, .int .i64 q] w fun e w' => e = .returned (.tuple #[.int .i64 (stepV l q), .bool (stepB l q)]) ∧ Below w.heap.size w w' := by
  cases hr : rightB l
  · obtain ⟨e1, e2⟩ := stepB_bad (q := q) (.inl hr)
    rw [e1, e2]
    exact stepI_bad1 v l q w h hl hr
  cases hq : okB q
  · obtain ⟨e1, e2⟩ := stepB_bad (l := l) (.inr hq)
    rw [e1, e2]
    exact stepI_bad2 v l q w h hl hr hq
  rcases h with ⟨rfl, a, c, rfl⟩ | ⟨b, o, cap, rfl, hc⟩
  · have := rightB_len hr; simp at this
  · exact stepI_ok b o cap l q w hc hr hq
end Go.Proofs.YtnchgeiinkaefaaGreatDoor.Tiers
end

section
/-
  The methods 'next' and 'value' of the kinds.
-/
namespace Go.Proofs.YtnchgeiinkaefaaGreatDoor.Rule
set_option linter.unusedVariables false
open Go.RowKit Tiers
open Kinds hiding hide unhide below_trans ext_toList
open Coin (okB addV addB timesV fitB partV partB)

/-- the slice v holds the values vs -/
def VR (W : World) (v : Value) (vs : List Int) : Prop :=
  (vs = [] ∧ ∃ a c, v = .slice a 0 c) ∨ ∃ b o cap, v = .slice (some ⟨b, o, none⟩) vs.length cap ∧ b < W.heap.size ∧ ∀ i, i < vs.length → W.cell? ⟨b, o + i, none⟩ = some (.int .i64 (vs.getD i 0))
theorem VR.form {W : World} {v : Value} {vs : List Int} (h : VR W v vs) : ∃ a c, v = .slice a vs.length c := by
  rcases h with ⟨rfl, a, c, rfl⟩ | ⟨b, o, cap, rfl, _⟩
  · exact ⟨_, _, rfl⟩
  · exact ⟨_, _, rfl⟩
theorem VR.kept {W W' : World} {v : Value} {vs : List Int} (h : VR W v vs) (hb : Below W.heap.size W W') : VR W' v vs := by
  rcases h with h | ⟨b, o, cap, rfl, h1, h2⟩
  · exact .inl h
  · exact .inr ⟨b, o, cap, rfl, Nat.lt_of_lt_of_le h1 hb.size, fun i hi => (hb.cell (p := ⟨b, o + i, none⟩) h1).trans (h2 i hi)⟩

/-! ### next -/
def NextP (k : Int) (vs : List Int) (w : World) (x : Ending) (w' : World) : Prop := ∃ (p : Nat) (b : Bool), x = .returned (.tuple #[.int .i64 (p : Int), .bool b]) ∧ (b = true → nextM k vs = some p) ∧ (b = false → nextM k vs = none) ∧ Below w.heap.size w w'
def nextF (k : Int) : Nat := if k = 9 then 276 else 263
theorem mNextNum (s : ByteArray) (n : Int) (w : World) : (method 453 221 (.agg #[.string s, .int .i64 n]) "loop.example/scot/impl.next").run Tryz.prog w = .ok (263, .agg #[.string s, .int .i64 n]) w := by kernel_rfl
theorem mNextMeter (s : ByteArray) (n : Int) (w : World) : (method 453 222 (.agg #[.string s, .int .i64 n]) "loop.example/scot/impl.next").run Tryz.prog w = .ok (263, .agg #[.string s, .int .i64 n]) w := by kernel_rfl
theorem mNextPair (s : ByteArray) (n : Int) (f : Value) (w : World) : (method 453 224 (.agg #[.string s, .int .i64 n, f]) "loop.example/scot/impl.next").run Tryz.prog w = .ok (263, .agg #[.string s, .int .i64 n]) w := by kernel_rfl
theorem mNextPart (s : ByteArray) (n : Int) (w : World) : (method 453 225 (.agg #[.string s, .int .i64 n]) "loop.example/scot/impl.next").run Tryz.prog w = .ok (263, .agg #[.string s, .int .i64 n]) w := by kernel_rfl
theorem mNextIf (s : ByteArray) (n : Int) (w : World) : (method 453 226 (.agg #[.string s, .int .i64 n]) "loop.example/scot/impl.next").run Tryz.prog w = .ok (276, .agg #[.string s, .int .i64 n]) w := by kernel_rfl
theorem mNextSteps (s : ByteArray) (n : Int) (w : World) : (method 453 227 (.agg #[.string s, .int .i64 n]) "loop.example/scot/impl.next").run Tryz.prog w = .ok (263, .agg #[.string s, .int .i64 n]) w := by kernel_rfl
theorem mNext {k : Int} (h : 1 ≤ k ∧ k ≤ 10) (w : World) : (method 453 (typeK k) (recK k) "loop.example/scot/impl.next").run Tryz.prog w = .ok (nextF k, lookV k) w := by
  rcases cases10 h with rfl | rfl | rfl | rfl | rfl | rfl | rfl | rfl | rfl | rfl
  · exact mNextNum _ _ w
  · exact mNextMeter _ _ w
  · exact mNextPair _ _ _ w
  · exact mNextPair _ _ _ w
  · exact mNextPair _ _ _ w
  · exact mNextPart _ _ w
  · exact mNextPair _ _ _ w
  · exact mNextPair _ _ _ w
  · exact mNextIf _ _ w
  · exact mNextSteps _ _ w
theorem eNext {k : Int} (h : 1 ≤ k ∧ k ≤ 10) (args : Array Value) (w : World) : (callFunc (nextF k) args).run Tryz.prog w = .ok (.enter (nextF k) args) w := by
  rcases cases10 h with rfl | rfl | rfl | rfl | rfl | rfl | rfl | rfl | rfl | rfl
  all_goals kernel_rfl

set_option maxHeartbeats 1000000 in
theorem nextLook (s : ByteArray) (q : Int) (a : Option Addr) (n c : Nat) (w : World) (hn : n ≤ 3) :
    Calls Tryz.prog 263 #[.agg #[.string s, .int .i64 q], .slice a n c] w fun x w' => x = .returned (.tuple #[.int .i64 (n : Int), .bool (decide ((n : Int) < q))]) ∧ Below w.heap.size w w' := by
  go_enter Tryz.func263, Tryz.ntmps263
  go_wp2_with (fail)
  go_quiet (fail)
  go_wp2_with (fail)
  go_ret2
  exact ⟨rfl, below_drewN' (below_alloc _ _) _⟩

set_option maxHeartbeats 1000000 in
theorem nextIf (s : ByteArray) (q : Int) (v : Value) (vs : List Int) (w : World) (hv : VR w v vs) (hn : vs.length ≤ 3) :
    Calls Tryz.prog 276 #[.agg #[.string s, .int .i64 q], v] w fun x w' => NextP 9 vs w x w' := by
  by_cases h0 : vs.length = 0
  · obtain ⟨a, c, rfl⟩ := hv.form
    rw [h0]
    have HN : Hid (nextM 9 vs = some 0) := hide (by show (if vs.length = 0 then some 0 else _) = _; rw [if_pos h0])
    clear hv h0 hn
    go_enter Tryz.func276, Tryz.ntmps276
    go_wp2_with (fail)
    go_ret2
    exact ⟨0, true, rfl, fun _ => unhide HN, fun h => (by cases h), below_alloc _ _⟩
  rcases hv with ⟨rfl, _⟩ | ⟨b, o, cap, rfl, hb, hc⟩
  · simp at h0
  have c0' := hc 0 (by omega)
  rw [Nat.add_zero] at c0'
  have HN : Hid (nextM 9 vs = if vs.length = 1 then (if 0 < vs.getD 0 0 then some 1 else some 2) else none) := hide (by show (if vs.length = 0 then some 0 else _) = _; rw [if_neg h0])
  have h0' : ((vs.length : Int) == 0) = false := by simpa using h0
  clear hc
  generalize vs.getD 0 0 = a at *
  generalize vs.length = n at *
  by_cases h1 : n = 1
  · have h1' : ((n : Int) == 1) = true := by simp [h1]
    rw [if_pos h1] at HN
    by_cases ha : 0 < a
    · rw [if_pos ha] at HN
      clear h1
      go_enter Tryz.func276, Tryz.ntmps276
      go_wp2_with (fail)
      go_ret2
      exact ⟨1, true, rfl, fun _ => unhide HN, fun h => (by cases h), below_alloc _ _⟩
    · rw [if_neg ha] at HN
      clear h1
      go_enter Tryz.func276, Tryz.ntmps276
      go_wp2_with (fail)
      go_ret2
      exact ⟨2, true, rfl, fun _ => unhide HN, fun h => (by cases h), below_alloc _ _⟩
  · have h1' : ((n : Int) == 1) = false := beq_eq_false_iff_ne.2 (by omega)
    rw [if_neg h1] at HN
    by_cases ha : 0 < a
    · clear h1
      go_enter Tryz.func276, Tryz.ntmps276
      go_wp2_with (fail)
      go_ret2
      exact ⟨1, false, rfl, fun h => (by cases h), fun _ => unhide HN, below_alloc _ _⟩
    · clear h1
      go_enter Tryz.func276, Tryz.ntmps276
      go_wp2_with (fail)
      go_ret2
      exact ⟨2, false, rfl, fun h => (by cases h), fun _ => unhide HN, below_alloc _ _⟩

theorem nextI {k : Int} (h : 1 ≤ k ∧ k ≤ 10) (v : Value) (vs : List Int) (w : World) (hv : VR w v vs) (hn : vs.length ≤ 3) :
    Calls Tryz.prog (nextF k) #[lookV k, v] w fun x w' => NextP k vs w x w' := by
  by_cases h9 : k = 9
  · subst h9
    exact nextIf _ _ v vs w hv hn
  · obtain ⟨a, c, rfl⟩ := hv.form
    have e1 : nextF k = 263 := if_neg h9
    rw [e1]
    refine (nextLook (wordK k) (kidsK k) a vs.length c w hn).mono ?_
    rintro x w' ⟨rfl, hb⟩
    refine ⟨vs.length, _, rfl, fun h => ?_, fun h => ?_, hb⟩
    · unfold nextM; rw [if_neg h9, if_pos (of_decide_eq_true h)]
    · unfold nextM; rw [if_neg h9, if_neg (of_decide_eq_false h)]

/-! ### value -/
theorem below_drew {B : Nat} {a w : World} (h : Below B a w) : Below B a w.drew := ⟨h.os, h.tape, h.output, h.size, h.block⟩
def valF (k : Int) : Nat := if k = 1 then 267 else if k = 2 then 270 else if k = 6 then 275 else if k = 9 then 277 else if k = 10 then 280 else 272
theorem mValNum (s : ByteArray) (n : Int) (w : World) : (method 453 221 (.agg #[.string s, .int .i64 n]) "loop.example/scot/impl.value").run Tryz.prog w = .ok (267, .agg #[.string s, .int .i64 n]) w := by kernel_rfl
theorem mValMeter (s : ByteArray) (n : Int) (w : World) : (method 453 222 (.agg #[.string s, .int .i64 n]) "loop.example/scot/impl.value").run Tryz.prog w = .ok (270, .agg #[.string s, .int .i64 n]) w := by kernel_rfl
theorem mValPair (s : ByteArray) (n : Int) (f : Value) (w : World) : (method 453 224 (.agg #[.string s, .int .i64 n, f]) "loop.example/scot/impl.value").run Tryz.prog w = .ok (272, .agg #[.string s, .int .i64 n, f]) w := by kernel_rfl
theorem mValPart (s : ByteArray) (n : Int) (w : World) : (method 453 225 (.agg #[.string s, .int .i64 n]) "loop.example/scot/impl.value").run Tryz.prog w = .ok (275, .agg #[.string s, .int .i64 n]) w := by kernel_rfl
theorem mValIf (s : ByteArray) (n : Int) (w : World) : (method 453 226 (.agg #[.string s, .int .i64 n]) "loop.example/scot/impl.value").run Tryz.prog w = .ok (277, .agg #[.string s, .int .i64 n]) w := by kernel_rfl
theorem mValSteps (s : ByteArray) (n : Int) (w : World) : (method 453 227 (.agg #[.string s, .int .i64 n]) "loop.example/scot/impl.value").run Tryz.prog w = .ok (280, .agg #[.string s, .int .i64 n]) w := by kernel_rfl
theorem mVal {k : Int} (h : 1 ≤ k ∧ k ≤ 10) (w : World) : (method 453 (typeK k) (recK k) "loop.example/scot/impl.value").run Tryz.prog w = .ok (valF k, recK k) w := by
  rcases cases10 h with rfl | rfl | rfl | rfl | rfl | rfl | rfl | rfl | rfl | rfl
  · exact mValNum _ _ w
  · exact mValMeter _ _ w
  · exact mValPair _ _ _ w
  · exact mValPair _ _ _ w
  · exact mValPair _ _ _ w
  · exact mValPart _ _ w
  · exact mValPair _ _ _ w
  · exact mValPair _ _ _ w
  · exact mValIf _ _ w
  · exact mValSteps _ _ w
theorem eVal {k : Int} (h : 1 ≤ k ∧ k ≤ 10) (args : Array Value) (w : World) : (callFunc (valF k) args).run Tryz.prog w = .ok (.enter (valF k) args) w := by
  rcases cases10 h with rfl | rfl | rfl | rfl | rfl | rfl | rfl | rfl | rfl | rfl
  all_goals kernel_rfl

set_option maxHeartbeats 1000000 in
theorem valNum (s : ByteArray) (q : Int) (e : Ex) (ka : Option Addr) (kc : Nat) (ta : Option Addr) (tc : Nat) (uv v : Value) (w : World) :
    Calls Tryz.prog 267 #[.agg #[.string s, .int .i64 q], exV e ka kc ta tc, uv, v] w fun x w' => x = .returned (.tuple #[.int .i64 e.num, .bool true]) ∧ Below w.heap.size w w' := by
  go_enter Tryz.func267, Tryz.ntmps267
  go_wp2_with (fail)
  go_ret2
  exact ⟨rfl, below2 _ _ _⟩

set_option maxHeartbeats 1000000 in
theorem valMeter (us : List Uses.U) (hul : us.length ≤ 1048576) (s : ByteArray) (q : Int) (e : Ex) (ka : Option Addr) (kc : Nat) (ta : Option Addr) (tc : Nat) (uv v : Value) (w : World) (hU : Uses.UR w uv us) :
    Calls Tryz.prog 270 #[.agg #[.string s, .int .i64 q], exV e ka kc ta tc, uv, v] w fun x w' => x = .returned (.tuple #[.int .i64 (Uses.ofV e.meter us), .bool (okB (Uses.ofV e.meter us))]) ∧ Below w.heap.size w w' := by
  have HU := hide hU
  clear hU
  go_enter Tryz.func270, Tryz.ntmps270
  go_wp2_with (fail)
  refine (Uses.ofI _ us _ _ ((unhide HU).kept (below2 _ _ _)) hul).mono ?_
  rintro x w1 ⟨rfl, hb⟩
  have HB := hide ((below2 _ _ _).trans (hb.mono (by simp; omega)))
  clear hb
  go_wp2_with (fail)
  refine (Coin.okI _ _).mono ?_
  rintro x w2 ⟨rfl, rfl⟩
  go_wp2_with (fail)
  go_ret2
  exact ⟨rfl, unhide HB⟩

set_option maxHeartbeats 1000000 in
theorem valIf (s : ByteArray) (q : Int) (e : Ex) (ka : Option Addr) (kc : Nat) (ta : Option Addr) (tc : Nat) (uv : Value) (b o cap n : Nat) (m : Int) (w : World) (hn : 2 ≤ n) (hn3 : n ≤ 3) (hb : b < w.heap.size) (c1 : w.cell? ⟨b, o + 1, none⟩ = some (.int .i64 m)) :
    Calls Tryz.prog 277 #[.agg #[.string s, .int .i64 q], exV e ka kc ta tc, uv, .slice (some ⟨b, o, none⟩) n cap] w fun x w' => x = .returned (.tuple #[.int .i64 m, .bool true]) ∧ Below w.heap.size w w' := by
  have n1 : (1 : Int) < (n : Int) := by omega
  have hb1 : b < w.heap.size + 1 := by omega
  go_enter Tryz.func277, Tryz.ntmps277
  go_wp2_with (fail)
  go_ret2
  exact ⟨rfl, below2 _ _ _⟩

set_option maxHeartbeats 1000000 in
theorem valPart (s : ByteArray) (q : Int) (e : Ex) (ka : Option Addr) (kc : Nat) (ta : Option Addr) (tc : Nat) (uv : Value) (b o cap n : Nat) (m : Int) (w : World) (hn : 1 ≤ n) (hn3 : n ≤ 3) (hb : b < w.heap.size) (c1 : w.cell? ⟨b, o, none⟩ = some (.int .i64 m)) :
    Calls Tryz.prog 275 #[.agg #[.string s, .int .i64 q], exV e ka kc ta tc, uv, .slice (some ⟨b, o, none⟩) n cap] w fun x w' => x = .returned (.tuple #[.int .i64 (partV m e.num 10000), .bool (partB m e.num 10000)]) ∧ Below w.heap.size w w' := by
  have n1 : (0 : Int) < (n : Int) := by omega
  have n0 : 0 < n := by omega
  have hb1 : b < w.heap.size + 1 := by omega
  obtain ⟨W1, hW1⟩ : ∃ W1, (w.alloc (.cells #[.string s, .int .i64 q] 225)).alloc (.cells #[.int .i64 e.kind, .int .i64 e.num, .string e.meter, .slice ka e.kids.length kc, .slice ta e.tiers.length tc] 77) = W1 := ⟨_, rfl⟩
  have HW1 := hide hW1
  have hb2 : Below w.heap.size w W1 := by rw [← hW1]; exact below2 _ _ _
  have HB := hide hb2
  have c1' := (hb2.cell (p := ⟨b, o, none⟩) hb).trans c1
  have c4 : W1.cell? ⟨w.heap.size + 1, 1, none⟩ = some (.int .i64 e.num) := by
    rw [← hW1]
    have := (new5 (w.alloc (.cells #[.string s, .int .i64 q] 225)) (.int .i64 e.kind) (.int .i64 e.num) (.string e.meter) (.slice ka e.kids.length kc) (.slice ta e.tiers.length tc) 77).2.1
    rw [World.size_alloc] at this
    exact this
  have y1 : b < W1.heap.size := Nat.lt_of_lt_of_le hb hb2.size
  have y2 : w.heap.size + 1 < W1.heap.size := by rw [← hW1]; simp
  clear hW1 hb2 c1
  go_enter Tryz.func275, Tryz.ntmps275
  go_wp2_with (fail)
  rw [unhide HW1]
  go_region_held3 (fun ww => ww.cell? ⟨b, o, none⟩ = some (.int .i64 m) ∧ ww.cell? ⟨w.heap.size + 1, 1, none⟩ = some (.int .i64 e.num)) (go_keep)
    (first | (go_at_call 70; refine (Coin.partI _ _ _ W1.drew).mono ?_; rintro x w2 ⟨rfl, kk, hkk⟩; have hb2 : Below W1.heap.size W1 w2 := (by rw [hkk]; exact ⟨rfl, rfl, rfl, Nat.le_refl _, fun _ _ => rfl⟩); clear hkk; have p0 := (hb2.cell (p := ⟨b, o, none⟩) y1).trans c1'; have p2 := (hb2.cell (p := ⟨w.heap.size + 1, 1, none⟩) y2).trans c4))
  have HB2 := hide (below_trans (unhide HB) hb2)
  clear p0 p2 c1' c4 hb2
  go_wp2_with (fail)
  go_ret2
  exact ⟨rfl, unhide HB2⟩

set_option maxHeartbeats 1000000 in
theorem valSteps (s : ByteArray) (q : Int) (e : Ex) (ka : Option Addr) (kc : Nat) (ta : Option Addr) (tc : Nat) (uv : Value) (b o cap n : Nat) (m : Int) (w : World) (hn : 1 ≤ n) (hn3 : n ≤ 3) (hb : b < w.heap.size) (c1 : w.cell? ⟨b, o, none⟩ = some (.int .i64 m)) (hT : TR w (.slice ta e.tiers.length tc) e.tiers) (htl : e.tiers.length ≤ 1048576) :
    Calls Tryz.prog 280 #[.agg #[.string s, .int .i64 q], exV e ka kc ta tc, uv, .slice (some ⟨b, o, none⟩) n cap] w fun x w' => x = .returned (.tuple #[.int .i64 (stepV e.tiers m), .bool (stepB e.tiers m)]) ∧ Below w.heap.size w w' := by
  have n1 : (0 : Int) < (n : Int) := by omega
  have n0 : 0 < n := by omega
  have hb1 : b < w.heap.size + 1 := by omega
  obtain ⟨W1, hW1⟩ : ∃ W1, (w.alloc (.cells #[.string s, .int .i64 q] 227)).alloc (.cells #[.int .i64 e.kind, .int .i64 e.num, .string e.meter, .slice ka e.kids.length kc, .slice ta e.tiers.length tc] 77) = W1 := ⟨_, rfl⟩
  have HW1 := hide hW1
  have hb2 : Below w.heap.size w W1 := by rw [← hW1]; exact below2 _ _ _
  have HB := hide hb2
  have HT := hide (hT.kept hb2)
  have c1' := (hb2.cell (p := ⟨b, o, none⟩) hb).trans c1
  have c4 : W1.cell? ⟨w.heap.size + 1, 4, none⟩ = some (.slice ta e.tiers.length tc) := by
    rw [← hW1]
    have := (new5 (w.alloc (.cells #[.string s, .int .i64 q] 227)) (.int .i64 e.kind) (.int .i64 e.num) (.string e.meter) (.slice ka e.kids.length kc) (.slice ta e.tiers.length tc) 77).2.2.2.2
    rw [World.size_alloc] at this
    exact this
  have y1 : b < W1.heap.size := Nat.lt_of_lt_of_le hb hb2.size
  have y2 : w.heap.size + 1 < W1.heap.size := by rw [← hW1]; simp
  clear hW1 hb2 hT c1
  go_enter Tryz.func280, Tryz.ntmps280
  go_wp2_with (fail)
  rw [unhide HW1]
  go_region_held3 (fun ww => ww.cell? ⟨b, o, none⟩ = some (.int .i64 m) ∧ ww.cell? ⟨w.heap.size + 1, 4, none⟩ = some (.slice ta e.tiers.length tc)) (go_keep)
    (first | (go_at_call 282; refine (stepI _ e.tiers _ W1.drew ((unhide HT).kept ⟨rfl, rfl, rfl, Nat.le_refl _, fun _ _ => rfl⟩) htl).mono ?_; rintro x w2 ⟨rfl, hb2'⟩; have hb2 : Below W1.heap.size W1 w2 := ⟨hb2'.os, hb2'.tape, hb2'.output, hb2'.size, hb2'.block⟩; clear hb2'; have p0 := (hb2.cell (p := ⟨b, o, none⟩) y1).trans c1'; have p2 := (hb2.cell (p := ⟨w.heap.size + 1, 4, none⟩) y2).trans c4))
  have HB2 := hide (below_trans (unhide HB) hb2)
  clear p0 p2 c1' c4 hb2
  go_wp2_with (fail)
  go_ret2
  exact ⟨rfl, unhide HB2⟩

set_option maxHeartbeats 1000000 in
theorem diffI (a b : Int) (w : World) (hb : okB b = true) : Calls Tryz.prog 137 #[.int .i64 a, .int .i64 b] w fun x w' => x = .returned (.tuple #[.int .i64 (addV a (-b)), .bool (addB a (-b))]) ∧ w' = w := by
  obtain ⟨b1, b2⟩ := okB_bd hb
  clear hb
  go_enter Tryz.func137, Tryz.ntmps137
  go_wp2_with (go_at_call 136; refine (Coin.addI _ _ _).mono ?_; rintro x w' ⟨rfl, rfl⟩)
  go_ret2
  exact ⟨rfl, rfl⟩

theorem lesserI (a b : Int) (w : World) : Calls Tryz.prog 139 #[.int .i64 a, .int .i64 b] w fun x w' => x = .returned (.tuple #[.int .i64 (if b < a then b else a), .bool true]) ∧ w' = w := by
  by_cases h : b < a
  · rw [if_pos h]
    have h2 : decide (b < a) = true := decide_eq_true h
    go_enter Tryz.func139, Tryz.ntmps139
    go_wp2_with (fail)
    go_ret2
    exact ⟨rfl, rfl⟩
  · rw [if_neg h]
    have h2 : decide (b < a) = false := decide_eq_false h
    go_enter Tryz.func139, Tryz.ntmps139
    go_wp2_with (fail)
    go_ret2
    exact ⟨rfl, rfl⟩

theorem greaterI (a b : Int) (w : World) : Calls Tryz.prog 140 #[.int .i64 a, .int .i64 b] w fun x w' => x = .returned (.tuple #[.int .i64 (if b < a then a else b), .bool true]) ∧ w' = w := by
  by_cases h : b < a
  · rw [if_pos h]
    have h2 : decide (b < a) = true := decide_eq_true h
    go_enter Tryz.func140, Tryz.ntmps140
    go_wp2_with (fail)
    go_ret2
    exact ⟨rfl, rfl⟩
  · rw [if_neg h]
    by_cases h3 : a = b
    · subst h3
      go_enter Tryz.func140, Tryz.ntmps140
      go_wp2_with (fail)
      go_ret2
      exact ⟨rfl, rfl⟩
    have h2 : decide (b < a) = false := decide_eq_false h
    have h4 : a < b := by omega
    go_enter Tryz.func140, Tryz.ntmps140
    go_wp2_with (fail)
    go_ret2
    exact ⟨rfl, rfl⟩

theorem lesserV (a b V : Int) (w : World) (h : (if b < a then b else a) = V) : Calls Tryz.prog 139 #[.int .i64 a, .int .i64 b] w fun x w' => x = .returned (.tuple #[.int .i64 V, .bool true]) ∧ w' = w := by rw [← h]; exact lesserI a b w

theorem greaterV (a b V : Int) (w : World) (h : (if b < a then a else b) = V) : Calls Tryz.prog 140 #[.int .i64 a, .int .i64 b] w fun x w' => x = .returned (.tuple #[.int .i64 V, .bool true]) ∧ w' = w := by rw [← h]; exact greaterI a b w

set_option maxHeartbeats 1000000 in
theorem valPair3 (s : ByteArray) (q : Int) (e : Ex) (ka : Option Addr) (kc : Nat) (ta : Option Addr) (tc : Nat) (uv : Value) (b o cap n : Nat) (m1 m2 : Int) (w : World) (hn : 2 ≤ n) (hn3 : n ≤ 3) (hb : b < w.heap.size) (c1 : w.cell? ⟨b, o, none⟩ = some (.int .i64 m1)) (c2 : w.cell? ⟨b, o + 1, none⟩ = some (.int .i64 m2)) (ho : okB m2 = true) :
    Calls Tryz.prog 272 #[.agg #[.string s, .int .i64 q, .func (.func 136) #[] #[]], exV e ka kc ta tc, uv, .slice (some ⟨b, o, none⟩) n cap] w fun x w' => x = .returned (.tuple #[.int .i64 (addV m1 m2), .bool (addB m1 m2)]) ∧ Below w.heap.size w w' := by
  have n1 : (0 : Int) < (n : Int) := by omega
  have n0 : 0 < n := by omega
  have n2 : (1 : Int) < (n : Int) := by omega
  have n3 : 1 < n := by omega
  have HO := hide ho
  obtain ⟨W1, hW1⟩ : ∃ W1, (w.alloc (.cells #[.string s, .int .i64 q, .func (.func 136) #[] #[]] 224)).alloc (.cells #[.int .i64 e.kind, .int .i64 e.num, .string e.meter, .slice ka e.kids.length kc, .slice ta e.tiers.length tc] 77) = W1 := ⟨_, rfl⟩
  have HW1 := hide hW1
  have hb2 : Below w.heap.size w W1 := by rw [← hW1]; exact below2 _ _ _
  have HB := hide hb2
  have c1' := (hb2.cell (p := ⟨b, o, none⟩) hb).trans c1
  have c2' := (hb2.cell (p := ⟨b, o + 1, none⟩) hb).trans c2
  have c4 : W1.cell? ⟨w.heap.size, 2, none⟩ = some (.func (.func 136) #[] #[]) := by
    rw [← hW1, (below_alloc _ _).cell (p := ⟨w.heap.size, 2, none⟩) (by simp)]
    have e1 := (MapKept.heap_alloc w (.cells #[.string s, .int .i64 q, .func (.func 136) #[] #[]] 224)).1
    simp only [World.cell?, e1]
    simp
  have y1 : b < W1.heap.size := Nat.lt_of_lt_of_le hb hb2.size
  have y2 : w.heap.size < W1.heap.size := by rw [← hW1]; simp; omega
  clear hW1 hb2 c1 c2 ho
  go_enter Tryz.func272, Tryz.ntmps272
  go_wp2_with (fail)
  rw [unhide HW1]
  go_region_held3 (fun ww => ww.cell? ⟨b, o, none⟩ = some (.int .i64 m1) ∧ ww.cell? ⟨b, o + 1, none⟩ = some (.int .i64 m2) ∧ ww.cell? ⟨w.heap.size, 2, none⟩ = some (.func (.func 136) #[] #[])) (go_keep)
    (first | (go_at_call 136; refine (Coin.addI _ _ W1.drew).mono ?_; rintro x w2 ⟨rfl, hw2⟩; have hb2 : Below W1.heap.size W1 w2 := (by rw [hw2]; exact ⟨rfl, rfl, rfl, Nat.le_refl _, fun _ _ => rfl⟩); clear hw2; have p0 := (hb2.cell (p := ⟨b, o, none⟩) y1).trans c1'; have p1 := (hb2.cell (p := ⟨b, o + 1, none⟩) y1).trans c2'; have p2 := (hb2.cell (p := ⟨w.heap.size, 2, none⟩) y2).trans c4))
  have HB2 := hide (below_trans (unhide HB) hb2)
  clear p0 p1 p2 c1' c2' c4 hb2
  go_wp2_with (fail)
  go_ret2
  exact ⟨rfl, unhide HB2⟩

set_option maxHeartbeats 1000000 in
theorem valPair4 (s : ByteArray) (q : Int) (e : Ex) (ka : Option Addr) (kc : Nat) (ta : Option Addr) (tc : Nat) (uv : Value) (b o cap n : Nat) (m1 m2 : Int) (w : World) (hn : 2 ≤ n) (hn3 : n ≤ 3) (hb : b < w.heap.size) (c1 : w.cell? ⟨b, o, none⟩ = some (.int .i64 m1)) (c2 : w.cell? ⟨b, o + 1, none⟩ = some (.int .i64 m2)) (ho : okB m2 = true) :
    Calls Tryz.prog 272 #[.agg #[.string s, .int .i64 q, .func (.func 137) #[] #[]], exV e ka kc ta tc, uv, .slice (some ⟨b, o, none⟩) n cap] w fun x w' => x = .returned (.tuple #[.int .i64 (addV m1 (-m2)), .bool (addB m1 (-m2))]) ∧ Below w.heap.size w w' := by
  have n1 : (0 : Int) < (n : Int) := by omega
  have n0 : 0 < n := by omega
  have n2 : (1 : Int) < (n : Int) := by omega
  have n3 : 1 < n := by omega
  have HO := hide ho
  obtain ⟨W1, hW1⟩ : ∃ W1, (w.alloc (.cells #[.string s, .int .i64 q, .func (.func 137) #[] #[]] 224)).alloc (.cells #[.int .i64 e.kind, .int .i64 e.num, .string e.meter, .slice ka e.kids.length kc, .slice ta e.tiers.length tc] 77) = W1 := ⟨_, rfl⟩
  have HW1 := hide hW1
  have hb2 : Below w.heap.size w W1 := by rw [← hW1]; exact below2 _ _ _
  have HB := hide hb2
  have c1' := (hb2.cell (p := ⟨b, o, none⟩) hb).trans c1
  have c2' := (hb2.cell (p := ⟨b, o + 1, none⟩) hb).trans c2
  have c4 : W1.cell? ⟨w.heap.size, 2, none⟩ = some (.func (.func 137) #[] #[]) := by
    rw [← hW1, (below_alloc _ _).cell (p := ⟨w.heap.size, 2, none⟩) (by simp)]
    have e1 := (MapKept.heap_alloc w (.cells #[.string s, .int .i64 q, .func (.func 137) #[] #[]] 224)).1
    simp only [World.cell?, e1]
    simp
  have y1 : b < W1.heap.size := Nat.lt_of_lt_of_le hb hb2.size
  have y2 : w.heap.size < W1.heap.size := by rw [← hW1]; simp; omega
  clear hW1 hb2 c1 c2 ho
  go_enter Tryz.func272, Tryz.ntmps272
  go_wp2_with (fail)
  rw [unhide HW1]
  go_region_held3 (fun ww => ww.cell? ⟨b, o, none⟩ = some (.int .i64 m1) ∧ ww.cell? ⟨b, o + 1, none⟩ = some (.int .i64 m2) ∧ ww.cell? ⟨w.heap.size, 2, none⟩ = some (.func (.func 137) #[] #[])) (go_keep)
    (first | (go_at_call 137; refine (diffI _ _ W1.drew (unhide HO)).mono ?_; rintro x w2 ⟨rfl, hw2⟩; have hb2 : Below W1.heap.size W1 w2 := (by rw [hw2]; exact ⟨rfl, rfl, rfl, Nat.le_refl _, fun _ _ => rfl⟩); clear hw2; have p0 := (hb2.cell (p := ⟨b, o, none⟩) y1).trans c1'; have p1 := (hb2.cell (p := ⟨b, o + 1, none⟩) y1).trans c2'; have p2 := (hb2.cell (p := ⟨w.heap.size, 2, none⟩) y2).trans c4))
  have HB2 := hide (below_trans (unhide HB) hb2)
  clear p0 p1 p2 c1' c2' c4 hb2
  go_wp2_with (fail)
  go_ret2
  exact ⟨rfl, unhide HB2⟩

set_option maxHeartbeats 1000000 in
theorem valPair5 (s : ByteArray) (q : Int) (e : Ex) (ka : Option Addr) (kc : Nat) (ta : Option Addr) (tc : Nat) (uv : Value) (b o cap n : Nat) (m1 m2 : Int) (w : World) (hn : 2 ≤ n) (hn3 : n ≤ 3) (hb : b < w.heap.size) (c1 : w.cell? ⟨b, o, none⟩ = some (.int .i64 m1)) (c2 : w.cell? ⟨b, o + 1, none⟩ = some (.int .i64 m2)) (ho : okB m2 = true) :
    Calls Tryz.prog 272 #[.agg #[.string s, .int .i64 q, .func (.func 138) #[] #[]], exV e ka kc ta tc, uv, .slice (some ⟨b, o, none⟩) n cap] w fun x w' => x = .returned (.tuple #[.int .i64 (timesV m1 m2), .bool (fitB m1 m2)]) ∧ Below w.heap.size w w' := by
  have n1 : (0 : Int) < (n : Int) := by omega
  have n0 : 0 < n := by omega
  have n2 : (1 : Int) < (n : Int) := by omega
  have n3 : 1 < n := by omega
  have HO := hide ho
  obtain ⟨W1, hW1⟩ : ∃ W1, (w.alloc (.cells #[.string s, .int .i64 q, .func (.func 138) #[] #[]] 224)).alloc (.cells #[.int .i64 e.kind, .int .i64 e.num, .string e.meter, .slice ka e.kids.length kc, .slice ta e.tiers.length tc] 77) = W1 := ⟨_, rfl⟩
  have HW1 := hide hW1
  have hb2 : Below w.heap.size w W1 := by rw [← hW1]; exact below2 _ _ _
  have HB := hide hb2
  have c1' := (hb2.cell (p := ⟨b, o, none⟩) hb).trans c1
  have c2' := (hb2.cell (p := ⟨b, o + 1, none⟩) hb).trans c2
  have c4 : W1.cell? ⟨w.heap.size, 2, none⟩ = some (.func (.func 138) #[] #[]) := by
    rw [← hW1, (below_alloc _ _).cell (p := ⟨w.heap.size, 2, none⟩) (by simp)]
    have e1 := (MapKept.heap_alloc w (.cells #[.string s, .int .i64 q, .func (.func 138) #[] #[]] 224)).1
    simp only [World.cell?, e1]
    simp
  have y1 : b < W1.heap.size := Nat.lt_of_lt_of_le hb hb2.size
  have y2 : w.heap.size < W1.heap.size := by rw [← hW1]; simp; omega
  clear hW1 hb2 c1 c2 ho
  go_enter Tryz.func272, Tryz.ntmps272
  go_wp2_with (fail)
  rw [unhide HW1]
  go_region_held3 (fun ww => ww.cell? ⟨b, o, none⟩ = some (.int .i64 m1) ∧ ww.cell? ⟨b, o + 1, none⟩ = some (.int .i64 m2) ∧ ww.cell? ⟨w.heap.size, 2, none⟩ = some (.func (.func 138) #[] #[])) (go_keep)
    (first | (go_at_call 138; refine (Coin.timesI _ _ W1.drew).mono ?_; rintro x w2 ⟨rfl, hw2⟩; have hb2 : Below W1.heap.size W1 w2 := (by rw [hw2]; exact ⟨rfl, rfl, rfl, Nat.le_refl _, fun _ _ => rfl⟩); clear hw2; have p0 := (hb2.cell (p := ⟨b, o, none⟩) y1).trans c1'; have p1 := (hb2.cell (p := ⟨b, o + 1, none⟩) y1).trans c2'; have p2 := (hb2.cell (p := ⟨w.heap.size, 2, none⟩) y2).trans c4))
  have HB2 := hide (below_trans (unhide HB) hb2)
  clear p0 p1 p2 c1' c2' c4 hb2
  go_wp2_with (fail)
  go_ret2
  exact ⟨rfl, unhide HB2⟩

set_option maxHeartbeats 1000000 in
theorem valPair7 (s : ByteArray) (q : Int) (e : Ex) (ka : Option Addr) (kc : Nat) (ta : Option Addr) (tc : Nat) (uv : Value) (b o cap n : Nat) (m1 m2 : Int) (w : World) (hn : 2 ≤ n) (hn3 : n ≤ 3) (hb : b < w.heap.size) (c1 : w.cell? ⟨b, o, none⟩ = some (.int .i64 m1)) (c2 : w.cell? ⟨b, o + 1, none⟩ = some (.int .i64 m2)) (ho : okB m2 = true) :
    Calls Tryz.prog 272 #[.agg #[.string s, .int .i64 q, .func (.func 139) #[] #[]], exV e ka kc ta tc, uv, .slice (some ⟨b, o, none⟩) n cap] w fun x w' => x = .returned (.tuple #[.int .i64 (if m2 < m1 then m2 else m1), .bool (true)]) ∧ Below w.heap.size w w' := by
  have n1 : (0 : Int) < (n : Int) := by omega
  have n0 : 0 < n := by omega
  have n2 : (1 : Int) < (n : Int) := by omega
  have n3 : 1 < n := by omega
  have HO := hide ho
  generalize hV : (if m2 < m1 then m2 else m1) = V
  have HV := hide hV
  clear hV
  obtain ⟨W1, hW1⟩ : ∃ W1, (w.alloc (.cells #[.string s, .int .i64 q, .func (.func 139) #[] #[]] 224)).alloc (.cells #[.int .i64 e.kind, .int .i64 e.num, .string e.meter, .slice ka e.kids.length kc, .slice ta e.tiers.length tc] 77) = W1 := ⟨_, rfl⟩
  have HW1 := hide hW1
  have hb2 : Below w.heap.size w W1 := by rw [← hW1]; exact below2 _ _ _
  have HB := hide hb2
  have c1' := (hb2.cell (p := ⟨b, o, none⟩) hb).trans c1
  have c2' := (hb2.cell (p := ⟨b, o + 1, none⟩) hb).trans c2
  have c4 : W1.cell? ⟨w.heap.size, 2, none⟩ = some (.func (.func 139) #[] #[]) := by
    rw [← hW1, (below_alloc _ _).cell (p := ⟨w.heap.size, 2, none⟩) (by simp)]
    have e1 := (MapKept.heap_alloc w (.cells #[.string s, .int .i64 q, .func (.func 139) #[] #[]] 224)).1
    simp only [World.cell?, e1]
    simp
  have y1 : b < W1.heap.size := Nat.lt_of_lt_of_le hb hb2.size
  have y2 : w.heap.size < W1.heap.size := by rw [← hW1]; simp; omega
  clear hW1 hb2 c1 c2 ho
  go_enter Tryz.func272, Tryz.ntmps272
  go_wp2_with (fail)
  rw [unhide HW1]
  go_region_held3 (fun ww => ww.cell? ⟨b, o, none⟩ = some (.int .i64 m1) ∧ ww.cell? ⟨b, o + 1, none⟩ = some (.int .i64 m2) ∧ ww.cell? ⟨w.heap.size, 2, none⟩ = some (.func (.func 139) #[] #[])) (go_keep)
    (first | (go_at_call 139; refine (lesserV _ _ V W1.drew (unhide HV)).mono ?_; rintro x w2 ⟨rfl, hw2⟩; have hb2 : Below W1.heap.size W1 w2 := (by rw [hw2]; exact ⟨rfl, rfl, rfl, Nat.le_refl _, fun _ _ => rfl⟩); clear hw2; have p0 := (hb2.cell (p := ⟨b, o, none⟩) y1).trans c1'; have p1 := (hb2.cell (p := ⟨b, o + 1, none⟩) y1).trans c2'; have p2 := (hb2.cell (p := ⟨w.heap.size, 2, none⟩) y2).trans c4))
  have HB2 := hide (below_trans (unhide HB) hb2)
  clear p0 p1 p2 c1' c2' c4 hb2
  go_wp2_with (fail)
  go_ret2
  exact ⟨rfl, unhide HB2⟩

set_option maxHeartbeats 1000000 in
theorem valPair8 (s : ByteArray) (q : Int) (e : Ex) (ka : Option Addr) (kc : Nat) (ta : Option Addr) (tc : Nat) (uv : Value) (b o cap n : Nat) (m1 m2 : Int) (w : World) (hn : 2 ≤ n) (hn3 : n ≤ 3) (hb : b < w.heap.size) (c1 : w.cell? ⟨b, o, none⟩ = some (.int .i64 m1)) (c2 : w.cell? ⟨b, o + 1, none⟩ = some (.int .i64 m2)) (ho : okB m2 = true) :
    Calls Tryz.prog 272 #[.agg #[.string s, .int .i64 q, .func (.func 140) #[] #[]], exV e ka kc ta tc, uv, .slice (some ⟨b, o, none⟩) n cap] w fun x w' => x = .returned (.tuple #[.int .i64 (if m2 < m1 then m1 else m2), .bool (true)]) ∧ Below w.heap.size w w' := by
  have n1 : (0 : Int) < (n : Int) := by omega
  have n0 : 0 < n := by omega
  have n2 : (1 : Int) < (n : Int) := by omega
  have n3 : 1 < n := by omega
  have HO := hide ho
  generalize hV : (if m2 < m1 then m1 else m2) = V
  have HV := hide hV
  clear hV
  obtain ⟨W1, hW1⟩ : ∃ W1, (w.alloc (.cells #[.string s, .int .i64 q, .func (.func 140) #[] #[]] 224)).alloc (.cells #[.int .i64 e.kind, .int .i64 e.num, .string e.meter, .slice ka e.kids.length kc, .slice ta e.tiers.length tc] 77) = W1 := ⟨_, rfl⟩
  have HW1 := hide hW1
  have hb2 : Below w.heap.size w W1 := by rw [← hW1]; exact below2 _ _ _
  have HB := hide hb2
  have c1' := (hb2.cell (p := ⟨b, o, none⟩) hb).trans c1
  have c2' := (hb2.cell (p := ⟨b, o + 1, none⟩) hb).trans c2
  have c4 : W1.cell? ⟨w.heap.size, 2, none⟩ = some (.func (.func 140) #[] #[]) := by
    rw [← hW1, (below_alloc _ _).cell (p := ⟨w.heap.size, 2, none⟩) (by simp)]
    have e1 := (MapKept.heap_alloc w (.cells #[.string s, .int .i64 q, .func (.func 140) #[] #[]] 224)).1
    simp only [World.cell?, e1]
    simp
  have y1 : b < W1.heap.size := Nat.lt_of_lt_of_le hb hb2.size
  have y2 : w.heap.size < W1.heap.size := by rw [← hW1]; simp; omega
  clear hW1 hb2 c1 c2 ho
  go_enter Tryz.func272, Tryz.ntmps272
  go_wp2_with (fail)
  rw [unhide HW1]
  go_region_held3 (fun ww => ww.cell? ⟨b, o, none⟩ = some (.int .i64 m1) ∧ ww.cell? ⟨b, o + 1, none⟩ = some (.int .i64 m2) ∧ ww.cell? ⟨w.heap.size, 2, none⟩ = some (.func (.func 140) #[] #[])) (go_keep)
    (first | (go_at_call 140; refine (greaterV _ _ V W1.drew (unhide HV)).mono ?_; rintro x w2 ⟨rfl, hw2⟩; have hb2 : Below W1.heap.size W1 w2 := (by rw [hw2]; exact ⟨rfl, rfl, rfl, Nat.le_refl _, fun _ _ => rfl⟩); clear hw2; have p0 := (hb2.cell (p := ⟨b, o, none⟩) y1).trans c1'; have p1 := (hb2.cell (p := ⟨b, o + 1, none⟩) y1).trans c2'; have p2 := (hb2.cell (p := ⟨w.heap.size, 2, none⟩) y2).trans c4))
  have HB2 := hide (below_trans (unhide HB) hb2)
  clear p0 p1 p2 c1' c2' c4 hb2
  go_wp2_with (fail)
  go_ret2
  exact ⟨rfl, unhide HB2⟩

/-- what a kind's value wants -/
theorem val_len {e : Ex} {vs : List Int} (hk : 1 ≤ e.kind ∧ e.kind ≤ 10) (hn : nextM e.kind vs = none) : (e.kind = 1 ∨ e.kind = 2) ∨ ((e.kind = 6 ∨ e.kind = 10) ∧ 1 ≤ vs.length) ∨ 2 ≤ vs.length := by
  unfold nextM at hn
  by_cases h9 : e.kind = 9
  · rw [if_pos h9] at hn
    split at hn
    · cases hn
    split at hn
    · split at hn <;> cases hn
    · omega
  · rw [if_neg h9] at hn
    split at hn
    · cases hn
    · rename_i h
      rcases cases10 hk with h' | h' | h' | h' | h' | h' | h' | h' | h' | h' <;> rw [h'] at h <;> simp [kidsK] at h <;> omega

set_option maxHeartbeats 1000000 in
/-- the methods 'value' -/
theorem runValI (us : List Uses.U) (hul : us.length ≤ 1048576) (e : Ex) (ka : Option Addr) (kc : Nat) (ta : Option Addr) (tc : Nat) (uv v : Value) (vs : List Int) (w : World) (hk : 1 ≤ e.kind ∧ e.kind ≤ 10) (hn : nextM e.kind vs = none) (hv : VR w v vs) (hl : vs.length ≤ 3) (hok : ∀ x ∈ vs, okB x = true) (hU : Uses.UR w uv us) (hT : TR w (.slice ta e.tiers.length tc) e.tiers) (htl : e.tiers.length ≤ 1048576) :
    Calls Tryz.prog (valF e.kind) #[recK e.kind, exV e ka kc ta tc, uv, v] w fun x w' => x = .returned (.tuple #[.int .i64 (valV us e vs), .bool (valB us e vs)]) ∧ Below w.heap.size w w' := by
  have hlen := val_len hk hn
  unfold valV valB
  by_cases h1 : e.kind = 1
  · rw [if_pos h1, if_pos h1, h1]
    exact valNum _ _ e ka kc ta tc uv v w
  rw [if_neg h1, if_neg h1]
  by_cases h2 : e.kind = 2
  · rw [if_pos h2, if_pos h2, h2]
    exact valMeter us hul _ _ e ka kc ta tc uv v w hU
  rw [if_neg h2, if_neg h2]
  have hl1 : 1 ≤ vs.length := by omega
  rcases hv with ⟨rfl, _⟩ | ⟨b, o, cap, rfl, hb, hc⟩
  · simp at hl1
  have c0 := hc 0 (by omega)
  rw [Nat.add_zero] at c0
  by_cases h6 : e.kind = 6
  · rw [if_pos h6, if_pos h6, h6]
    exact valPart _ _ e ka kc ta tc uv b o cap _ _ w hl1 hl hb c0
  rw [if_neg h6, if_neg h6]
  by_cases h10 : e.kind = 10
  · have h9n : ¬ e.kind = 9 := by omega
    rw [if_neg h9n, if_neg h9n, if_pos h10, if_pos h10, h10]
    exact valSteps _ _ e ka kc ta tc uv b o cap _ _ w hl1 hl hb c0 hT htl
  have hl2 : 2 ≤ vs.length := by omega
  have c1 := hc 1 (by omega)
  have ho1 : okB (vs.getD 1 0) = true := hok _ (by
    have : vs.getD 1 0 = vs[1] := by simp [List.getD, show 1 < vs.length by omega]
    rw [this]; exact List.getElem_mem _)
  by_cases h9 : e.kind = 9
  · rw [if_pos h9, if_pos h9, h9]
    exact valIf _ _ e ka kc ta tc uv b o cap _ _ w hl2 hl hb c1
  rw [if_neg h9, if_neg h9, if_neg h10, if_neg h10]
  rcases pair_cases hk h1 h2 h6 h9 h10 with h | h | h | h | h
  · rw [h]; exact valPair3 _ _ e ka kc ta tc uv b o cap _ _ _ w hl2 hl hb c0 c1 ho1
  · rw [h]; exact valPair4 _ _ e ka kc ta tc uv b o cap _ _ _ w hl2 hl hb c0 c1 ho1
  · rw [h]; exact valPair5 _ _ e ka kc ta tc uv b o cap _ _ _ w hl2 hl hb c0 c1 ho1
  · rw [h]; exact valPair7 _ _ e ka kc ta tc uv b o cap _ _ _ w hl2 hl hb c0 c1 ho1
  · rw [h]; exact valPair8 _ _ e ka kc ta tc uv b o cap _ _ _ w hl2 hl hb c0 c1 ho1
end Go.Proofs.YtnchgeiinkaefaaGreatDoor.Rule
end
