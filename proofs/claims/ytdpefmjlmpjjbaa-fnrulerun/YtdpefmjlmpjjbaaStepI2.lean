/-
  impl.RuleStep: what it answers.
-/
import Derived.Test.YtdpefmjlmpjjbaaStepI
namespace Go.Proofs.Ytdpefmjlmpjjbaa.Tiers
set_option linter.unusedVariables false
open Go.RowKit Coin Go.Shelf

attribute [local go_sem] Oper.semAt_some

theorem new1 (w : World) (a : Value) (t : TypeId) : (w.alloc (.cells #[a] t)).cell? ⟨w.heap.size, 0, none⟩ = some a ∧ (w.alloc (.cells #[a] t)).frozen? ⟨w.heap.size, 0, none⟩ = false := by
  have e1 := (MapKept.heap_alloc w (.cells #[a] t)).1
  simp only [World.cell?, World.frozen?]
  rw [e1]; simp
/-- two new variables, and what is kept of them -/
theorem new2 (w w1 : World) (a b : Value) (t u : TypeId) (hb : Below ((w.alloc (.cells #[a] t)).alloc (.cells #[b] u)).heap.size ((w.alloc (.cells #[a] t)).alloc (.cells #[b] u)) w1) :
    w1.cell? ⟨w.heap.size, 0, none⟩ = some a ∧ w1.frozen? ⟨w.heap.size, 0, none⟩ = false ∧ w1.cell? ⟨w.heap.size + 1, 0, none⟩ = some b ∧ w1.frozen? ⟨w.heap.size + 1, 0, none⟩ = false ∧ w.heap.size + 1 < w1.heap.size ∧ Below w.heap.size w w1 := by
  have n1 := new1 w a t
  have n2 := new1 (w.alloc (.cells #[a] t)) b u
  rw [World.size_alloc] at n2
  have hz := hb.size
  simp only [World.size_alloc] at hz
  have k1 : Below (w.heap.size + 1) (w.alloc (.cells #[a] t)) ((w.alloc (.cells #[a] t)).alloc (.cells #[b] u)) := (Below.refl _ _).alloc (by simp) _
  refine ⟨?_, ?_, ?_, ?_, by omega, ?_⟩
  · rw [hb.cell (p := ⟨w.heap.size, 0, none⟩) (by simp; omega), k1.cell (p := ⟨w.heap.size, 0, none⟩) (by simp)]; exact n1.1
  · rw [hb.frozen (p := ⟨w.heap.size, 0, none⟩) (by simp; omega), k1.frozen (p := ⟨w.heap.size, 0, none⟩) (by simp)]; exact n1.2
  · rw [hb.cell (p := ⟨w.heap.size + 1, 0, none⟩) (by simp)]; exact n2.1
  · rw [hb.frozen (p := ⟨w.heap.size + 1, 0, none⟩) (by simp)]; exact n2.2
  · exact (((Below.refl _ w).alloc (Nat.le_refl _) _).alloc (by simp) _).trans (hb.mono (by simp; omega))

set_option maxRecDepth 100000 in
set_option maxHeartbeats 2000000 in
theorem stepI_bad1 (v : Value) (l : List T) (q : Int) (w : World) (h : TR w v l) (hl : l.length ≤ 1048576) (hr : rightB l = false) :
    Calls Try.prog 89 #[v, .int .i64 q] w fun e w' => e = .returned (.tuple #[.int .i64 0, .bool false]) ∧ Below w.heap.size w w' := by
  have H := hide h
  clear h
  refine (callsIn_wide (n := 5)).1 ?_
  refine callsIn_of_wp_marks Try.func89 rfl trivial ?_ rfl
  simp only [Try.ntmps89, List.size_toArray, List.length_cons, List.length_nil, Nat.reduceAdd, Nat.reduceSub, Array.replicate_succ, Array.replicate_zero, List.push_toArray, List.append_toArray, List.nil_append, List.cons_append]
  gi_wp2_with (fail)
  refine ⟨trivial, (callsIn_wide.2 (rightI v l _ ((unhide H).kept (((Below.refl _ _).alloc (Nat.le_refl _) _).alloc (by simp) _)) hl)).mono ?_⟩
  rintro e w1 ⟨rfl, hb⟩
  obtain ⟨c4, f4, c5, f5, hz, hB⟩ := new2 _ _ _ _ _ _ hb
  have HB := hide hB
  clear hb hB
  gi_wp2_with (fail)
  refine ⟨trivial, ?_⟩
  gi_wp2_with (fail)
  refine ⟨.tuple #[.int .i64 0, .bool false], ?_, rfl, ((unhide HB).setCell (p := ⟨w.heap.size, 0, none⟩) (Nat.le_refl _) _).setCell (p := ⟨w.heap.size + 1, 0, none⟩) (by simp) _⟩
  simp [results, Try.results89, go_sem, c4, c5]

set_option maxRecDepth 100000 in
set_option maxHeartbeats 2000000 in
theorem stepI_bad2 (v : Value) (l : List T) (q : Int) (w : World) (h : TR w v l) (hl : l.length ≤ 1048576) (hr : rightB l = true) (hq : okB q = false) :
    Calls Try.prog 89 #[v, .int .i64 q] w fun e w' => e = .returned (.tuple #[.int .i64 0, .bool false]) ∧ Below w.heap.size w w' := by
  have H := hide h
  clear h
  refine (callsIn_wide (n := 5)).1 ?_
  refine callsIn_of_wp_marks Try.func89 rfl trivial ?_ rfl
  simp only [Try.ntmps89, List.size_toArray, List.length_cons, List.length_nil, Nat.reduceAdd, Nat.reduceSub, Array.replicate_succ, Array.replicate_zero, List.push_toArray, List.append_toArray, List.nil_append, List.cons_append]
  gi_wp2_with (fail)
  refine ⟨trivial, (callsIn_wide.2 (rightI v l _ ((unhide H).kept (((Below.refl _ _).alloc (Nat.le_refl _) _).alloc (by simp) _)) hl)).mono ?_⟩
  rintro e w1 ⟨rfl, hb⟩
  obtain ⟨c4, f4, c5, f5, hz, hB⟩ := new2 _ _ _ _ _ _ hb
  have HB := hide hB
  clear hb hB
  gi_wp2_with (fail)
  refine ⟨trivial, (callsIn_wide.2 (okI q _)).mono ?_⟩
  rintro e w2 ⟨rfl, rfl⟩
  gi_wp2_with (fail)
  refine ⟨.tuple #[.int .i64 0, .bool false], ?_, rfl, ((unhide HB).setCell (p := ⟨w.heap.size, 0, none⟩) (Nat.le_refl _) _).setCell (p := ⟨w.heap.size + 1, 0, none⟩) (by simp) _⟩
  simp [results, Try.results89, go_sem, c4, c5]

set_option maxRecDepth 100000 in
set_option maxHeartbeats 2000000 in
theorem stepI_ok (b o cap : Nat) (l : List T) (q : Int) (w : World) (h : TC w b o l) (hr : rightB l = true) (hq : okB q = true) :
    Calls Try.prog 89 #[.slice (some ⟨b, o, none⟩) l.length cap, .int .i64 q] w fun e w' => e = .returned (.tuple #[.int .i64 (stepV l q), .bool (stepB l q)]) ∧ Below w.heap.size w w' := by
  obtain ⟨z1, z2⟩ := rightB_len hr
  obtain ⟨q1, q2⟩ := okB_bd hq
  have HV : Hid (∀ x, stepF l q 0 = some x → stepB l q = true ∧ stepV l q = x) := hide (fun x hx => stepB_some hr hq hx)
  have HN : Hid (stepF l q 0 = none → stepB l q = false ∧ stepV l q = 0) := hide stepB_none
  have HAT : Hid (∀ k, k < l.length → 0 ≤ (l.getD k T0).1 ∧ (l.getD k T0).1 ≤ 1000000000) := hide (fun k hk => ⟨(okT_of (rightB_at hr hk)).2.1, (okT_of (rightB_at hr hk)).2.2.1⟩)
  generalize stepB l q = rb at *
  generalize stepV l q = rv at *
  have H := hide h
  clear h
  refine (callsIn_wide (n := 5)).1 ?_
  refine callsIn_of_wp_marks Try.func89 rfl trivial ?_ rfl
  simp only [Try.ntmps89, List.size_toArray, List.length_cons, List.length_nil, Nat.reduceAdd, Nat.reduceSub, Array.replicate_succ, Array.replicate_zero, List.push_toArray, List.append_toArray, List.nil_append, List.cons_append]
  gi_wp2_with (fail)
  refine ⟨trivial, (callsIn_wide.2 (rightI _ l _ (.inr ⟨b, o, cap, rfl, (unhide H).kept (((Below.refl _ _).alloc (Nat.le_refl _) _).alloc (by simp) _)⟩) (by omega))).mono ?_⟩
  rintro e w1 ⟨rfl, hb⟩
  obtain ⟨c4, f4, c5, f5, hz, hB⟩ := new2 _ _ _ _ _ _ hb
  have HB := hide hB
  have H1 := hide ((unhide H).kept hB)
  have hbw : b < w.heap.size := (unhide H).1
  clear hb hB H
  gi_wp2_with (fail)
  refine ⟨trivial, (callsIn_wide.2 (okI q _)).mono ?_⟩
  rintro e w2 ⟨rfl, rfl⟩
  gi_wp2_with (fail)
  refine ⟨trivial, (stepsOf 4 _ rfl q _).mono ?_⟩
  rintro e w3 ⟨rfl, rfl⟩
  gi_wp2_with (fail)
  have n6 := new1 w2 (.int .i64 0) 3
  have n7 := new1 (w2.alloc (.cells #[.int .i64 0] 3)) (.slice (some ⟨b, o, none⟩) l.length cap) 24
  have n8 := new1 ((w2.alloc (.cells #[.int .i64 0] 3)).alloc (.cells #[.slice (some ⟨b, o, none⟩) l.length cap] 24)) (.int .i64 q) 3
  simp only [World.size_alloc] at n7 n8
  obtain ⟨W0, hW0⟩ : ∃ W0, ((w2.alloc (.cells #[.int .i64 0] 3)).alloc (.cells #[.slice (some ⟨b, o, none⟩) l.length cap] 24)).alloc (.cells #[.int .i64 q] 3) = W0 := ⟨_, rfl⟩
  have k1 : Below w2.heap.size w2 W0 := by rw [← hW0]; exact (((Below.refl _ _).alloc (Nat.le_refl _) _).alloc (by simp) _).alloc (by simp; omega) _
  have k2 : Below (w2.heap.size + 1) (w2.alloc (.cells #[.int .i64 0] 3)) W0 := by rw [← hW0]; exact ((Below.refl _ _).alloc (by simp) _).alloc (by simp) _
  have k3 : Below (w2.heap.size + 1 + 1) ((w2.alloc (.cells #[.int .i64 0] 3)).alloc (.cells #[.slice (some ⟨b, o, none⟩) l.length cap] 24)) W0 := by rw [← hW0]; exact (Below.refl _ _).alloc (by simp) _
  have hsz : W0.heap.size = w2.heap.size + 3 := by rw [← hW0]; simp
  have hB0 : Below w.heap.size w W0 := (unhide HB).trans (k1.mono (unhide HB).size)
  have d6 : W0.cell? ⟨w2.heap.size, 0, none⟩ = some (.int .i64 0) := (k2.cell (p := ⟨w2.heap.size, 0, none⟩) (by simp)).trans n6.1
  have e6 : W0.frozen? ⟨w2.heap.size, 0, none⟩ = false := (k2.frozen (p := ⟨w2.heap.size, 0, none⟩) (by simp)).trans n6.2
  have d7 : W0.cell? ⟨w2.heap.size + 1, 0, none⟩ = some (.slice (some ⟨b, o, none⟩) l.length cap) := (k3.cell (p := ⟨w2.heap.size + 1, 0, none⟩) (by simp)).trans n7.1
  have d8 : W0.cell? ⟨w2.heap.size + 1 + 1, 0, none⟩ = some (.int .i64 q) := by rw [← hW0]; exact n8.1
  have d4 : W0.cell? ⟨w.heap.size, 0, none⟩ = some (.int .i64 0) := (k1.cell (p := ⟨w.heap.size, 0, none⟩) (by simp; omega)).trans c4
  have e4 : W0.frozen? ⟨w.heap.size, 0, none⟩ = false := (k1.frozen (p := ⟨w.heap.size, 0, none⟩) (by simp; omega)).trans f4
  have d5 : W0.cell? ⟨w.heap.size + 1, 0, none⟩ = some (.bool false) := (k1.cell (p := ⟨w.heap.size + 1, 0, none⟩) (by simp; omega)).trans c5
  have e5 : W0.frozen? ⟨w.heap.size + 1, 0, none⟩ = false := (k1.frozen (p := ⟨w.heap.size + 1, 0, none⟩) (by simp; omega)).trans f5
  have H0 := (unhide H1).kept k1
  rw [hW0]
  have hS : Hid (w2.heap.size = w2.heap.size) := hide rfl
  generalize w2.heap.size = S at *
  clear n6 n7 n8 hW0 k1 k2 k3 c4 c5 f4 f5 H1 HB hr hq hS
  refine wpIn_rangeFunc_ownF rfl (by omega) (gf := 92) (lb := #[.pointer (some ⟨S + 1 + 1, 0, none⟩), .pointer (some ⟨S + 1, 0, none⟩)]) rfl trivial (enters_of Try.func92 (by kernel_rfl) rfl)
    (steps_stops 4 (by omega) (S + 1 + 1) (S + 1) S b o cap l q z2 q1 q2 (by omega) HAT W0 (by omega) (by omega) (by omega) d8 d7 H0) belowK_t (belowK_b (by omega)) (Below.refl _ _) (fun _ => rfl)
    (fun pre W => ((∃ s, accF pre 0 = some s ∧ -1000000000000000 ≤ s ∧ s ≤ 1000000000000000 ∧ W.cell? ⟨S, 0, none⟩ = some (.int .i64 s)) ∧ W.frozen? ⟨S, 0, none⟩ = false ∧ W.cell? ⟨w.heap.size, 0, none⟩ = some (.int .i64 0) ∧ W.frozen? ⟨w.heap.size, 0, none⟩ = false ∧ W.cell? ⟨w.heap.size + 1, 0, none⟩ = some (.bool false) ∧ W.frozen? ⟨w.heap.size + 1, 0, none⟩ = false) ∧ Below w.heap.size w W)
    (fun c pre W => (c = .ret ∧ accF pre 0 = none ∧ W.cell? ⟨w.heap.size, 0, none⟩ = some (.int .i64 0) ∧ W.cell? ⟨w.heap.size + 1, 0, none⟩ = some (.bool false)) ∧ Below w.heap.size w W)
    (OwnFrom.and (Own.from (fun s A B row hs hg hr => by
      obtain ⟨⟨s, h1, h2, h3, h4⟩, h5, h6, h7, h8, h9⟩ := hs
      exact ⟨⟨s, h1, h2, h3, cell_kept h4 hg hr⟩, (frozen_kept h4 hg hr).trans h5, cell_kept h6 hg hr, (frozen_kept h6 hg hr).trans h7, cell_kept h8 hg hr, (frozen_kept h8 hg hr).trans h9⟩) _) (ownFrom_below (Nat.le_refl _) (by omega)))
    (fun c => OwnFrom.and (Own.from (fun s A B row hs hg hr => ⟨hs.1, hs.2.1, cell_kept hs.2.2.1 hg hr, cell_kept hs.2.2.2 hg hr⟩) _) (ownFrom_below (Nat.le_refl _) (by omega)))
    ⟨⟨⟨0, rfl, by omega, by omega, d6⟩, e6, d4, e4, d5, e5⟩, hB0⟩
    (fun x => { tmps := #[.slice (some ⟨b, o, none⟩) l.length cap, .int .i64 q, undef, undef, .pointer (some ⟨w.heap.size, 0, none⟩), .pointer (some ⟨w.heap.size + 1, 0, none⟩), .pointer (some ⟨S, 0, none⟩), .int .i64 x.1, .int .i64 x.2, undef, undef,
      .slice (some ⟨b, o, none⟩) l.length cap, .bool true, .bool false, .bool false, .int .i64 q, .bool true, .bool false, .bool false, .slice (some ⟨b, o, none⟩) l.length cap, .int .i64 q, .func (.func 92) #[] #[.pointer (some ⟨S + 1 + 1, 0, none⟩), .pointer (some ⟨S + 1, 0, none⟩)], .int .i64 x.1, .int .i64 x.2,
      undef, undef, undef, undef, undef, undef, undef, undef, undef, undef, undef, undef, undef, undef, undef, undef, undef], defers := [] }) ?assign ?body ?done ?stop
  case assign =>
    intro lp x W K hK
    gi_wp2
    exact hK
  case body =>
    rintro lp pre ⟨m, y⟩ W ⟨⟨⟨s, ha, s1, s2, hc6⟩, hf6, hc4, hf4, hc5, hf5⟩, hB⟩ hlen
    have HA := hide ha
    clear ha
    dsimp only
    have g1 : ¬ S = w.heap.size := by omega
    have g2 : ¬ S = w.heap.size + 1 := by omega
    have g3 : ¬ w.heap.size = S := by omega
    have g4 : ¬ w.heap.size + 1 = S := by omega
    gi_wp2_with (fail)
    refine ⟨trivial, (CallsIn.inRound lp (callsIn_wide.2 (timesI m y _))).mono ?_⟩
    rintro e w3 ⟨rfl, rfl⟩
    cases hf : fitB m y
    · have HX : Hid (accF (pre ++ [(m, y)]) 0 = none) := hide (by rw [acc_append, unhide HA]; simp [accF, hf])
      generalize timesV m y = tv at *
      gi_wp2_with (fail)
      exact ⟨(KeepsOthers.setCell _ _ _).trans (KeepsOthers.setCell _ _ _), ⟨rfl, unhide HX, by rw [World.cell?_setCell_other _ _ _ _ (by simp)]; exact World.cell?_setCell_same _ _ _ hc4, World.cell?_setCell_same _ _ _ (by rw [World.cell?_setCell_other _ _ _ _ (by simp)]; exact hc5)⟩, (hB.setCell (p := ⟨w.heap.size, 0, none⟩) (Nat.le_refl _) _).setCell (p := ⟨w.heap.size + 1, 0, none⟩) (by simp) _⟩
    · rw [timesV_yes hf]
      have HX : Hid (∀ c, addB s (m * y) = false → accF (pre ++ [(m, y)]) 0 = c → c = none) := hide (fun c hc e => by rw [← e, acc_append, unhide HA]; simp [accF, hc])
      have HY : Hid (addB s (m * y) = true → accF (pre ++ [(m, y)]) 0 = some (s + m * y)) := hide (fun hc => by rw [acc_append, unhide HA]; simp [accF, hc, hf])
      generalize hp : m * y = pr at *
      clear hp
      gi_wp2_with (fail)
      refine ⟨trivial, (CallsIn.inRound lp (callsIn_wide.2 (addI s pr _))).mono ?_⟩
      rintro e w4 ⟨rfl, rfl⟩
      cases hadd : addB s pr
      · rw [addV_no hadd]
        have HZ : Hid (accF (pre ++ [(m, y)]) 0 = none) := hide (unhide HX _ hadd rfl)
        clear HX HY
        gi_wp2_with (fail)
        refine ⟨((KeepsOthers.setCell _ _ _).trans (KeepsOthers.setCell _ _ _)).trans (KeepsOthers.setCell _ _ _), ⟨rfl, unhide HZ, ?_, ?_⟩, ((hB.setCell (p := ⟨S, 0, none⟩) (by simp; omega) _).setCell (p := ⟨w.heap.size, 0, none⟩) (Nat.le_refl _) _).setCell (p := ⟨w.heap.size + 1, 0, none⟩) (by simp) _⟩
        · rw [World.cell?_setCell_other _ _ _ _ (by simp)]
          exact World.cell?_setCell_same _ _ _ (by rw [World.cell?_setCell_other _ _ _ _ (by simp)]; exact hc4)
        · exact World.cell?_setCell_same _ _ _ (by rw [World.cell?_setCell_other _ _ _ _ (by simp), World.cell?_setCell_other _ _ _ _ (by simp)]; exact hc5)
      · rw [addV_yes hadd]
        have HZ : Hid (accF (pre ++ [(m, y)]) 0 = some (s + pr)) := hide (unhide HY hadd)
        obtain ⟨b1, b2⟩ := okB_bd (addB_parts hadd).2.2
        clear HX HY
        gi_wp2_with (fail)
        refine ⟨KeepsOthers.setCell _ _ _, (Below.refl S _).setCell (p := ⟨S, 0, none⟩) (Nat.le_refl _) _, ⟨⟨s + pr, unhide HZ, b1, b2, World.cell?_setCell_same _ _ _ hc6⟩, by rw [World.frozen?_setCell]; exact hf6, ?_, by rw [World.frozen?_setCell]; exact hf4, ?_, by rw [World.frozen?_setCell]; exact hf5⟩, hB.setCell (p := ⟨S, 0, none⟩) (by simp; omega) _⟩
        · rw [World.cell?_setCell_other _ _ _ _ (by simp)]; exact hc4
        · rw [World.cell?_setCell_other _ _ _ _ (by simp)]; exact hc5
  case done =>
    rintro D ys W hD rfl ⟨⟨⟨s, ha, s1, s2, hc6⟩, hf6, hc4, hf4, hc5, hf5⟩, hB⟩ hK
    rw [acc_units] at ha
    obtain ⟨rfl, rfl⟩ := unhide HV _ ha
    have HA := hide ha
    clear ha HV HN
    have g1 : ¬ S = w.heap.size := by omega
    have g2 : ¬ S = w.heap.size + 1 := by omega
    gi_wp2_with (fail)
    have hK' := ((KeepsOthers.setCell W ⟨w.heap.size, 0, none⟩ (.int .i64 rv)).trans (KeepsOthers.setCell _ ⟨w.heap.size + 1, 0, none⟩ (.bool true))).same D _ hK rfl
    refine ⟨by simp, .inl ⟨_, _, rfl, run_takeDeferred hK', ?_⟩⟩
    have q4 : ((W.setCell ⟨w.heap.size, 0, none⟩ (.int .i64 rv)).setCell ⟨w.heap.size + 1, 0, none⟩ (.bool true)).cell? ⟨w.heap.size, 0, none⟩ = some (.int .i64 rv) := by rw [World.cell?_setCell_other _ _ _ _ (by simp)]; exact World.cell?_setCell_same _ _ _ hc4
    have q5 : ((W.setCell ⟨w.heap.size, 0, none⟩ (.int .i64 rv)).setCell ⟨w.heap.size + 1, 0, none⟩ (.bool true)).cell? ⟨w.heap.size + 1, 0, none⟩ = some (.bool true) := World.cell?_setCell_same _ _ _ (by rw [World.cell?_setCell_other _ _ _ _ (by simp)]; exact hc5)
    have hc4' := cell_kept q4 (grownBy_putObj' _ D (.deferred none)) (fun r e => by cases e; exact ⟨_, hK', rfl⟩)
    have hc5' := cell_kept q5 (grownBy_putObj' _ D (.deferred none)) (fun r e => by cases e; exact ⟨_, hK', rfl⟩)
    refine ⟨.tuple #[.int .i64 rv, .bool true], ?_, rfl, ((hB.setCell (p := ⟨w.heap.size, 0, none⟩) (Nat.le_refl _) _).setCell (p := ⟨w.heap.size + 1, 0, none⟩) (by simp) _).trans (belowK_b (w := w) (Nat.le_refl _) _ D _ _ (by omega) hK' rfl rfl)⟩
    simp [results, Try.results89, go_sem, hc4', hc5']
  case stop =>
    rintro D c pre W hD hpre ⟨⟨rfl, hin, hc4, hc5⟩, hB⟩ hK
    obtain ⟨post, hpost⟩ := hpre
    have hnone : stepF l q 0 = none := by rw [← acc_units, ← hpost, acc_append, hin]; rfl
    obtain ⟨rfl, rfl⟩ := unhide HN hnone
    clear hnone HV HN hin hpost
    gi_wp2_with (fail)
    refine ⟨by simp, .inl ⟨_, _, rfl, run_takeDeferred hK, ?_⟩⟩
    have hc4' := cell_kept hc4 (grownBy_putObj' _ D (.deferred none)) (fun r e => by cases e; exact ⟨_, hK, rfl⟩)
    have hc5' := cell_kept hc5 (grownBy_putObj' _ D (.deferred none)) (fun r e => by cases e; exact ⟨_, hK, rfl⟩)
    refine ⟨.tuple #[.int .i64 0, .bool false], ?_, rfl, hB.trans (belowK_b (w := w) (Nat.le_refl _) W D _ _ (by omega) hK rfl rfl)⟩
    simp [results, Try.results89, go_sem, hc4', hc5']

/-- impl.RuleStep -/
theorem stepI (v : Value) (l : List T) (q : Int) (w : World) (h : TR w v l) (hl : l.length ≤ 1048576) :
    Calls Try.prog 89 #[v, .int .i64 q] w fun e w' => e = .returned (.tuple #[.int .i64 (stepV l q), .bool (stepB l q)]) ∧ Below w.heap.size w w' := by
  cases hr : rightB l
  · obtain ⟨e1, e2⟩ := stepB_bad (q := q) (.inl hr)
    rw [e1, e2]
    exact stepI_bad1 v l q w h hl hr
  cases hq : okB q
  · obtain ⟨e1, e2⟩ := stepB_bad (l := l) (.inr hq)
    rw [e1, e2]
    exact stepI_bad2 v l q w h hl hr hq
  rcases h with ⟨rfl, a, c, rfl⟩ | ⟨b, o, cap, rfl, hc⟩
  · have := rightB_len hr; simp at this
  · exact stepI_ok b o cap l q w hc hr hq
end Go.Proofs.Ytdpefmjlmpjjbaa.Tiers
