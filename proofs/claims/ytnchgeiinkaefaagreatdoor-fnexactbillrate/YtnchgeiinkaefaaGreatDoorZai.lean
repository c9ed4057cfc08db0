/-
  Texts of this proof laid together, in build order; each says of itself what it holds.
-/
import Derived.Test.YtnchgeiinkaefaaGreatDoorZah
import Derived.Test.YtnchgeiinkaefaaGreatDoorZaa
import Derived.Test.YtnchgeiinkaefaaGreatDoorZac
import Derived.Deep.AppendLies
import Derived.Deep.RegionHeldLaw
import Derived.OwnWalk
import Derived.Deep.QuietTactic
import Derived.BigQuiet
import Derived.Test.YtnchgeiinkaefaaGreatDoorZad
section
/-
  spec's run of a tariff: eval, where kids are run.
-/
namespace Go.Proofs.YtnchgeiinkaefaaGreatDoor.Rule
set_option linter.unusedVariables false
open Go.RowKit Tiers
open Kinds (kidsK)
open Coin (okB addV addB timesV fitB partV partB)
open Draw (grown_trans grown_none grown_of_below below_of)

/-- from o on block b holds an expression -/
def KidC (W : World) (b o : Nat) (f : Ex) (ka : Option Addr) (kc : Nat) (ta : Option Addr) (tc : Nat) : Prop :=
  W.cell? ⟨b, o, none⟩ = some (.int .i64 f.kind) ∧ W.cell? ⟨b, o + 1, none⟩ = some (.int .i64 f.num) ∧ W.cell? ⟨b, o + 2, none⟩ = some (.string f.meter) ∧ W.cell? ⟨b, o + 3, none⟩ = some (.slice ka f.kids.length kc) ∧ W.cell? ⟨b, o + 4, none⟩ = some (.slice ta f.tiers.length tc)
theorem KidC.same {W W' : World} {b o : Nat} {f : Ex} {ka : Option Addr} {kc : Nat} {ta : Option Addr} {tc : Nat} (h : KidC W b o f ka kc ta tc) (hb : W'.heap[b]? = W.heap[b]?) : KidC W' b o f ka kc ta tc :=
  ⟨(World.cell?_of_block (w := W) hb).trans h.1, (World.cell?_of_block (w := W) hb).trans h.2.1, (World.cell?_of_block (w := W) hb).trans h.2.2.1, (World.cell?_of_block (w := W) hb).trans h.2.2.2.1, (World.cell?_of_block (w := W) hb).trans h.2.2.2.2⟩
/-- a kid in its row -/
theorem kidEV {lo hi : Nat} {W : World} {d b o : Nat} {l : List Ex} (hc : ∀ i, i < l.length → ∃ kv tv, (W.cell? ⟨b, o + i * 5, none⟩ = some (.int .i64 (l.getD i E0).kind) ∧ W.cell? ⟨b, o + i * 5 + 1, none⟩ = some (.int .i64 (l.getD i E0).num) ∧ W.cell? ⟨b, o + i * 5 + 2, none⟩ = some (.string (l.getD i E0).meter) ∧
        W.cell? ⟨b, o + i * 5 + 3, none⟩ = some kv ∧ W.cell? ⟨b, o + i * 5 + 4, none⟩ = some tv) ∧
        ((l.getD i E0).meter.size ≤ maxLen ∧ (l.getD i E0).tiers.length ≤ maxLen) ∧ ES lo hi W d kv (l.getD i E0).kids ∧ TL lo hi W tv (l.getD i E0).tiers)
    (i : Nat) (hi' : i < l.length) : ∃ ka kc ta tc, KidC W b (o + i * 5) (l.getD i E0) ka kc ta tc ∧ EV lo hi W d (exV (l.getD i E0) ka kc ta tc) (l.getD i E0) := by
  obtain ⟨kv, tv, ⟨e0, e1, e2, e3, e4⟩, hz, hk, ht⟩ := hc i hi'
  have hE : EV lo hi W d (.agg #[.int .i64 (l.getD i E0).kind, .int .i64 (l.getD i E0).num, .string (l.getD i E0).meter, kv, tv]) (l.getD i E0) := ⟨kv, tv, rfl, hz, hk, ht⟩
  obtain ⟨ta, tc, rfl⟩ := ht.form
  obtain ⟨ka, kc, rfl, _⟩ := hk.form
  exact ⟨ka, kc, ta, tc, ⟨e0, e1, e2, e3, e4⟩, hE⟩
theorem RunC.own {W W' : World} {P : Nat} {uv : Value} {l c : Nat} (h : RunC W P uv l c) (hb : W'.heap[P]? = W.heap[P]?) : RunC W' P uv l c := by
  obtain ⟨h0, h1, h2, f1, f2⟩ := h
  refine ⟨(World.cell?_of_block (w := W) hb).trans h0, (World.cell?_of_block (w := W) hb).trans h1, (World.cell?_of_block (w := W) hb).trans h2, ?_, ?_⟩
  · simp only [World.frozen?] at f1 ⊢; rw [hb]; exact f1
  · simp only [World.frozen?] at f2 ⊢; rw [hb]; exact f2

theorem Box.same {W W' : World} {B : Nat} {e : Ex} {ka : Option Addr} {kc : Nat} {ta : Option Addr} {tc : Nat} (h : Box W B e ka kc ta tc) (hb : W'.heap[B]? = W.heap[B]?) : Box W' B e ka kc ta tc :=
  ⟨(World.cell?_of_block (w := W) hb).trans h.1, (World.cell?_of_block (w := W) hb).trans h.2.1, (World.cell?_of_block (w := W) hb).trans h.2.2.1, (World.cell?_of_block (w := W) hb).trans h.2.2.2.1, (World.cell?_of_block (w := W) hb).trans h.2.2.2.2⟩
/-- told or over -/
theorem Rest.fin {us : List Uses.U} {e : Ex} {vs : List Int} (l : Nat) (hn : nextM e.kind vs = none) : Rest us e vs l (if valB us e vs = true then valV us e vs else 0) (overC (valB us e vs)) l := by
  cases h : valB us e vs
  · exact Rest.over hn h
  · exact Rest.val hn h
theorem EvP.fin {us : List Uses.U} {e : Ex} {vs : List Int} {l l1 : Nat} {w w' : World} {P : Nat} {uv : Value} (hgo : ∀ r c l', Rest us e vs l1 r c l' → Ev us e (l + 1) r c l') (hn : nextM e.kind vs = none) (hl : l1 ≤ l) (hok : valB us e vs = true → okB (valV us e vs) = true) (hg : w.grownBy w' (some P)) (hR : RunC w' P uv l1 0) :
    EvP us e (l + 1) w P uv (.returned (.int .i64 (valV us e vs))) (overW w' P (valB us e vs)) := by
  refine ⟨_, _, _, l1, rfl, hgo _ _ _ (Rest.fin l1 hn), fun h => ?_, by omega, by cases valB us e vs <;> decide, grown_trans hg (grown_over _ _ _), hR.over _⟩
  cases hv : valB us e vs
  · rw [hv] at h; cases h
  · exact ⟨rfl, hok hv⟩
theorem EvP.bad {us : List Uses.U} {e : Ex} {vs : List Int} {l l1 i : Nat} {w w' : World} {P : Nat} {uv : Value} {n' : Int} {c l2 : Nat} (hgo : ∀ r c l', Rest us e vs l1 r c l' → Ev us e (l + 1) r c l') (hn : nextM e.kind vs = some i) (hl : l1 ≤ l) (hev : Ev us (e.kids.getD i E0) l1 n' c l2) (hc : ¬ c = 0) (h2 : l2 ≤ l1) (hc2 : c ≤ 2) (hg : w.grownBy w' (some P)) (hR : RunC w' P uv l2 c) :
    EvP us e (l + 1) w P uv (.returned (.int .i64 0)) w' :=
  ⟨_, _, _, l2, rfl, hgo _ _ _ (Rest.bad hn hev hc h2), fun h => absurd h hc, by omega, hc2, hg, hR⟩
/-- an if comes to what its second or third kid comes to -/
theorem EvP.if {us : List Uses.U} {e : Ex} {a : Int} {l l1 i : Nat} {w w1 w' : World} {P : Nat} {uv : Value} {x : Ending} (hk : e.kind = 9) (hgo : ∀ r c l', Rest us e [a] l1 r c l' → Ev us e (l + 1) r c l') (hn : nextM e.kind [a] = some i) (hl : l1 ≤ l) (h : EvP us (e.kids.getD i E0) l1 w1 P uv x w') (hg : w.grownBy w1 (some P)) :
    EvP us e (l + 1) w P uv x w' := by
  obtain ⟨n, n', c, l2, rfl, hev, hok, hl2, hc2, hg2, hR2⟩ := h
  by_cases hc : c = 0
  · subst hc
    obtain ⟨rfl, ho⟩ := hok rfl
    have e1 : valB us e [a, n'] = true := by unfold valB; rw [if_neg (by omega), if_neg (by omega), if_neg (by omega), if_pos hk]
    have e2 : valV us e [a, n'] = n' := by unfold valV; rw [if_neg (by omega), if_neg (by omega), if_neg (by omega), if_pos hk]; rfl
    have e3 : nextM e.kind [a, n'] = none := by rw [hk]; rfl
    have := Rest.val (us := us) (l := l2) e3 e1
    rw [e2] at this
    exact ⟨n', n', 0, l2, rfl, hgo _ _ _ (Rest.kid hn hev ho hl2 this), fun _ => ⟨rfl, ho⟩, by omega, hc2, grown_trans hg hg2, hR2⟩
  · exact ⟨n, 0, c, l2, rfl, hgo _ _ _ (Rest.bad hn hev hc hl2), fun h => absurd h hc, by omega, hc2, grown_trans hg hg2, hR2⟩

set_option maxHeartbeats 3200000 in
set_option maxRecDepth 100000 in
theorem eval_kids (us : List Uses.U) {d : Nat} (H : EvalS us d) (w0 : World) (uv : Value) (lo hi b o cap : Nat) (ta : Option Addr) (tc : Nat) (e : Ex) (l : Nat) (w : World) (hl : l ≤ 1000) (hU : Uses.UR w0 uv us) (hhi : hi ≤ w0.heap.size) (ha : allB e = true) (hw : wt e ≤ 1048576) (hB : Below w0.heap.size w0 w) (hR : RunC w w0.heap.size uv (l + 1) 0)
    (hk1 : e.kind ≠ 1) (hk2 : e.kind ≠ 2) (k1 : lo ≤ b) (k2 : b < hi) (hT : TR w0 (.slice ta e.tiers.length tc) e.tiers)
    (hc : ∀ i, i < e.kids.length → ∃ ka kc ta tc, KidC w0 b (o + i * 5) (e.kids.getD i E0) ka kc ta tc ∧ EV lo hi w0 d (exV (e.kids.getD i E0) ka kc ta tc) (e.kids.getD i E0)) :
    Calls Tryz.prog 54 #[.pointer (some ⟨w0.heap.size, 0, none⟩), exV e (some ⟨b, o, none⟩) cap ta tc] w fun x w' => EvP us e (l + 1) w w0.heap.size uv x w' := by
  obtain ⟨q1, q2, q3, q4⟩ := node_parts (all_node ha)
  have hlen : 1 ≤ e.kids.length := by
    have : 1 ≤ kidsK e.kind := by
      unfold kidsK; rw [if_neg (by omega)]
      split
      · omega
      split
      · omega
      rw [if_pos (by omega)]; omega
    omega
  have hP := hR.lt
  have HH := hide H
  have HB := hide hB
  have HU := hide hU
  have HC := hide hc
  have HA : Hid (∀ i, i < e.kids.length → allB (e.kids.getD i E0) = true ∧ wt (e.kids.getD i E0) ≤ 1048576) := hide (fun i hi => ⟨all_kid ha hi, wt_kid hi hw⟩)
  have hn0 : nextM e.kind [] = some 0 := by
    unfold nextM
    split
    · rfl
    · rw [if_pos (by simp only [List.length_nil]; omega)]; rfl
  have HN0 := hide hn0
  obtain ⟨W1, hW1⟩ : ∃ W1, (w.setCell ⟨w0.heap.size, 1, none⟩ (.int .i64 (l : Int))).alloc (.cells #[.int .i64 e.kind, .int .i64 e.num, .string e.meter, .slice (some ⟨b, o, none⟩) e.kids.length cap, .slice ta e.tiers.length tc] 77) = W1 := ⟨_, rfl⟩
  have HW1 := hide hW1
  have HG1 : Hid (w.grownBy W1 (some w0.heap.size)) := hide (by rw [← hW1]; exact grown_trans (grown_set _ _ _ _) (World.grownBy_alloc _ _ _))
  have HRW : Hid (RunC W1 w0.heap.size uv l 0) := hide (by rw [← hW1]; exact (hR.left l).kept (below_alloc _ _))
  have HB1 : Hid (Below w0.heap.size w0 W1) := hide (below_of hB (Nat.le_refl _) (unhide HG1))
  have HX : Hid (Box W1 w.heap.size e (some ⟨b, o, none⟩) cap ta tc) := hide (by
    rw [← hW1]; have := Box.new (w.setCell ⟨w0.heap.size, 1, none⟩ (.int .i64 (l : Int))) e (some ⟨b, o, none⟩) cap ta tc 77
    simpa using this)
  have y2 : w.heap.size < W1.heap.size := by rw [← hW1]; simp
  have hbP : b < w0.heap.size := by omega
  have hbw : b < w.heap.size := by omega
  have hne : ¬ b = w0.heap.size := by omega
  obtain ⟨ka0, kc0, ta0, tc0, hc0, hE0⟩ := hc 0 (by omega)
  have HE0 := hide hE0
  rw [Nat.zero_mul, Nat.add_zero] at hc0
  have hc0' := hc0.same (hB.block b hbP)
  obtain ⟨z0, z1, z2, z3, z4⟩ := hc0'
  have A0 := hide (unhide HA 0 (by omega))
  generalize hf0 : e.kids.getD 0 E0 = f0 at z0 z1 z2 z3 z4 HE0 A0
  have HF0 := hide hf0
  have hul : (0 : Int) < (e.kids.length : Int) := by omega
  have hkl : (e.kids.length : Int) ≤ 3 := by
    rw [q3]; unfold kidsK; split
    · omega
    split
    · omega
    split
    · omega
    split <;> omega
  obtain ⟨h0, h1, h2, f1, f2⟩ := hR
  have e1 : ((l + 1 : Nat) : Int) = (l : Int) + 1 := by omega
  rw [e1] at h1
  have e2 : ((l : Int) + 1 == 0) = false := beq_eq_false_iff_ne.2 (by omega)
  have e3 : (l : Int) + 1 - 1 = (l : Int) := by omega
  have g1 : (e.kind == 1) = false := beq_eq_false_iff_ne.2 hk1
  have g2 : (e.kind == 2) = false := beq_eq_false_iff_ne.2 hk2
  have HT := hide hT
  have htl : e.tiers.length ≤ 1048576 := by have := wt_eq e; omega
  have Q3 := hide q3
  clear hW1 hU hB hc hE0 hc0 hf0 H hn0 q4 hT q3 ha hw e1
  go_enter Tryz.func54, Tryz.ntmps54
  go_wp2_with (fail)
  rw [unhide HW1]
  refine (unhide HH w0 uv lo hi _ f0 l W1 (unhide HU) (unhide HE0) hhi (unhide A0).1 (unhide A0).2 hl (unhide HB1) (unhide HRW)).mono ?_
  rintro x w2 ⟨a, a', c, l1, rfl, hev, hok, hl1, hc2, hg2, hR2⟩
  rw [← unhide HF0] at hev
  have HEV := hide hev
  have HOK := hide hok
  have HR2 := hide hR2
  have HG2 := hide (grown_trans (unhide HG1) hg2)
  have HB2 := hide (below_of (unhide HB1) (Nat.le_refl _) hg2)
  have HX2 := hide ((unhide HX).same (hg2.block w.heap.size y2 (by simp; omega)))
  have hs2 := hg2.size
  obtain ⟨h0', h1', h2', f1', f2'⟩ := hR2
  obtain ⟨x0, x1, x2, x3, x4⟩ := unhide HX2
  clear z0 z1 z2 z3 z4 h0 h1 h2 f1 f2 e2 e3 g1 g2 hev hok hg2 HE0 A0 HF0 HW1 HRW HX HG1 HB1
  by_cases c0 : c = 0
  rotate_left
  · have cp : (0 : Int) < (c : Int) := by omega
    go_wp2_with (fail)
    go_ret
    exact EvP.bad (vs := []) (fun r c l' h => Ev.go h) (unhide HN0) (Nat.le_refl _) (unhide HEV) c0 hl1 hc2 (unhide HG2) (unhide HR2)
  subst c0
  obtain ⟨rfl, ho⟩ := unhide HOK rfl
  have HGO : Hid (∀ r c l', Rest us e [a'] l1 r c l' → Ev us e (l + 1) r c l') := hide (fun r c l' h => Ev.go (Rest.kid (unhide HN0) (unhide HEV) ho hl1 h))
  have HO := hide ho
  clear HOK HEV ho
  by_cases k6 : e.kind = 6
  · have g6 : (e.kind == 6) = true := beq_iff_eq.2 k6
    have e1 : valB us e [a'] = partB a' e.num 10000 := by unfold valB; rw [if_neg (by omega), if_neg (by omega), if_pos k6]; rfl
    have e2 : valV us e [a'] = partV a' e.num 10000 := by unfold valV; rw [if_neg (by omega), if_neg (by omega), if_pos k6]; rfl
    have HFIN := hide (fun w' => @EvP.fin us e [a'] l l1 w w' w0.heap.size uv (unhide HGO) (by rw [k6]; rfl) hl1 (fun _ => by rw [e2]; exact Coin.okB_true (Coin.part_bd _ _ _)))
    rw [e1, e2] at HFIN
    clear e1 e2 k6
    go_wp2_with (fail)
    refine (Coin.partS a' e.num 10000 w2).mono ?_
    rintro x w3 ⟨rfl, k, rfl⟩
    have HR3 : Hid (RunC (w2.drewN k) w0.heap.size uv l1 0) := hide ((unhide HR2).own rfl)
    generalize partV a' e.num 10000 = pv at *
    generalize partB a' e.num 10000 = pb at *
    go_wp2_with (fail)
    refine (overS w0.heap.size uv l1 _ _ _ (unhide HR3)).mono ?_
    rintro x w4 ⟨rfl, rfl⟩
    go_wp2_with (fail)
    go_ret
    exact unhide HFIN _ ⟨(unhide HG2).os, (unhide HG2).tape, (unhide HG2).output, (unhide HG2).size, (unhide HG2).block⟩ (unhide HR3)
  have g6 : (e.kind == 6) = false := beq_eq_false_iff_ne.2 k6
  by_cases k10 : e.kind = 10
  · have g10 : (e.kind == 10) = true := beq_iff_eq.2 k10
    have e1 : valB us e [a'] = stepB e.tiers a' := by unfold valB; rw [if_neg (by omega), if_neg (by omega), if_neg (by omega), if_neg (by omega), if_pos k10]; rfl
    have e2 : valV us e [a'] = stepV e.tiers a' := by unfold valV; rw [if_neg (by omega), if_neg (by omega), if_neg (by omega), if_neg (by omega), if_pos k10]; rfl
    have HFIN := hide (fun w' => @EvP.fin us e [a'] l l1 w w' w0.heap.size uv (unhide HGO) (by rw [k10]; rfl) hl1 (fun _ => by rw [e2]; exact Coin.okB_true (Tiers.stepV_bd _ _)))
    rw [e1, e2] at HFIN
    clear e1 e2 k10
    go_wp2_with (fail)
    refine (stepS _ e.tiers a' w2 ((unhide HT).kept (unhide HB2)) htl).mono ?_
    rintro x w3 ⟨rfl, hb3⟩
    have HR3 := hide ((unhide HR2).kept hb3)
    have HG3 := hide (grown_trans (unhide HG2) (grown_of_below hb3 _))
    clear hb3
    generalize stepV e.tiers a' = pv at *
    generalize stepB e.tiers a' = pb at *
    go_wp2_with (fail)
    refine (overS w0.heap.size uv l1 _ _ _ (unhide HR3)).mono ?_
    rintro x w4 ⟨rfl, rfl⟩
    go_wp2_with (fail)
    go_ret
    exact unhide HFIN _ (unhide HG3) (unhide HR3)
  have g10 : (e.kind == 10) = false := beq_eq_false_iff_ne.2 k10
  by_cases k9 : e.kind = 9
  · have g9 : (e.kind == 9) = true := beq_iff_eq.2 k9
    have l3 : (e.kids.length : Int) = 3 := by rw [unhide Q3, k9]; rfl
    by_cases apos : 0 < a'
    · have hn1 : nextM e.kind [a'] = some 1 := by rw [k9]; show (if 0 < a' then some 1 else some 2) = _; rw [if_pos apos]
      have HIF := hide (fun x w' => @EvP.if us e a' l l1 1 w w2 w' w0.heap.size uv x k9 (unhide HGO) hn1 hl1)
      obtain ⟨ka1, kc1, ta1, tc1, hc1, hE1⟩ := unhide HC 1 (by omega)
      have A1 := hide (unhide HA 1 (by omega))
      have HE1 := hide hE1
      rw [Nat.one_mul] at hc1
      obtain ⟨z0, z1, z2, z3, z4⟩ := hc1.same ((unhide HB2).block b hbP)
      clear hE1 hc1 hn1 k9
      generalize e.kids.getD 1 E0 = f1 at *
      go_wp2_with (fail)
      refine (unhide HH w0 uv lo hi _ f1 l1 w2 (unhide HU) (unhide HE1) hhi (unhide A1).1 (unhide A1).2 (by omega) (unhide HB2) (unhide HR2)).mono ?_
      rintro x w3 hev
      have hev' := hev
      obtain ⟨n, n', c, l2, rfl, _, _, _, _, _, _⟩ := hev'
      have HEV := hide (unhide HIF _ _ hev (unhide HG2))
      clear hev
      go_wp2_with (fail)
      go_ret
      exact unhide HEV
    · have hn1 : nextM e.kind [a'] = some 2 := by rw [k9]; show (if 0 < a' then some 1 else some 2) = _; rw [if_neg apos]
      have HIF := hide (fun x w' => @EvP.if us e a' l l1 2 w w2 w' w0.heap.size uv x k9 (unhide HGO) hn1 hl1)
      obtain ⟨ka1, kc1, ta1, tc1, hc1, hE1⟩ := unhide HC 2 (by omega)
      have A1 := hide (unhide HA 2 (by omega))
      have HE1 := hide hE1
      rw [show o + 2 * 5 = o + 10 from rfl] at hc1
      obtain ⟨z0, z1, z2, z3, z4⟩ := hc1.same ((unhide HB2).block b hbP)
      clear hE1 hc1 hn1 k9
      generalize e.kids.getD 2 E0 = f1 at *
      go_wp2_with (fail)
      refine (unhide HH w0 uv lo hi _ f1 l1 w2 (unhide HU) (unhide HE1) hhi (unhide A1).1 (unhide A1).2 (by omega) (unhide HB2) (unhide HR2)).mono ?_
      rintro x w3 hev
      have hev' := hev
      obtain ⟨n, n', c, l2, rfl, _, _, _, _, _, _⟩ := hev'
      have HEV := hide (unhide HIF _ _ hev (unhide HG2))
      clear hev
      go_wp2_with (fail)
      go_ret
      exact unhide HEV
  have g9 : (e.kind == 9) = false := beq_eq_false_iff_ne.2 k9
  have hpk := pair_cases ⟨q1, q2⟩ hk1 hk2 k6 k9 k10
  have l2' : (e.kids.length : Int) = 2 := by rw [unhide Q3]; rcases hpk with h | h | h | h | h <;> (rw [h]; rfl)
  have hn1 : nextM e.kind [a'] = some 1 := by rcases hpk with h | h | h | h | h <;> (rw [h]; rfl)
  have hn2 : ∀ b', nextM e.kind [a', b'] = none := fun b' => by rcases hpk with h | h | h | h | h <;> (rw [h]; rfl)
  have e1 : ∀ b', valB us e [a', b'] = pairB e.kind a' b' := fun b' => by unfold valB; rw [if_neg (by omega), if_neg (by omega), if_neg (by omega), if_neg (by omega), if_neg (by omega)]; rfl
  have e2 : ∀ b', valV us e [a', b'] = pairV e.kind a' b' := fun b' => by unfold valV; rw [if_neg (by omega), if_neg (by omega), if_neg (by omega), if_neg (by omega), if_neg (by omega)]; rfl
  obtain ⟨ka1, kc1, ta1, tc1, hc1, hE1⟩ := unhide HC 1 (by omega)
  have A1 := hide (unhide HA 1 (by omega))
  have HE1 := hide hE1
  rw [Nat.one_mul] at hc1
  obtain ⟨z0, z1, z2, z3, z4⟩ := hc1.same ((unhide HB2).block b hbP)
  have HN1 := hide hn1
  have HN2 := hide hn2
  have E1 := hide e1
  have E2 := hide e2
  have HPK := hide hpk
  clear hE1 hc1 hn1 hn2 e1 e2 hpk
  generalize hf1 : e.kids.getD 1 E0 = f1 at z0 z1 z2 z3 z4 HE1 A1
  have HF1 := hide hf1
  clear hf1
  go_wp2_with (fail)
  refine (unhide HH w0 uv lo hi _ f1 l1 w2 (unhide HU) (unhide HE1) hhi (unhide A1).1 (unhide A1).2 (by omega) (unhide HB2) (unhide HR2)).mono ?_
  rintro x w3 ⟨m, m', c, l2, rfl, hev, hok, hl2, hc3, hg3, hR3⟩
  rw [← unhide HF1] at hev
  have HEV := hide hev
  have HOK := hide hok
  have HR3 := hide hR3
  have HG3 := hide (grown_trans (unhide HG2) hg3)
  have HX3 := (unhide HX2).same (hg3.block w.heap.size (by omega) (by simp; omega))
  clear x0 x1 x2 x3 x4 h0' h1' h2' f1' f2' z0 z1 z2 z3 z4 hev hok hg3 HX2 HR2 HG2 HE1 A1
  obtain ⟨h0', h1', h2', f1', f2'⟩ := hR3
  obtain ⟨x0, x1, x2, x3, x4⟩ := HX3
  by_cases c0 : c = 0
  rotate_left
  · have cp : (0 : Int) < (c : Int) := by omega
    go_wp2_with (fail)
    go_ret
    exact EvP.bad (vs := [a']) (unhide HGO) (unhide HN1) hl1 (unhide HEV) c0 hl2 hc3 (unhide HG3) (unhide HR3)
  subst c0
  obtain ⟨rfl, ho2⟩ := unhide HOK rfl
  have HFIN := hide (fun w' => @EvP.fin us e [a', m'] l l2 w w' w0.heap.size uv (fun r c l' h => unhide HGO r c l' (Rest.kid (unhide HN1) (unhide HEV) ho2 hl2 h)) (unhide HN2 m') (by omega) (fun h => by
    rw [unhide E1] at h; rw [unhide E2]; exact pair_bd (unhide HO) ho2 h))
  rw [unhide E1, unhide E2] at HFIN
  have HO2 := hide ho2
  clear HOK HEV ho2 E1 E2
  go_wp2_with (fail)
  refine (calcS w0.heap.size uv l2 _ a' m' _ (unhide HR3) (unhide HPK) (unhide HO2)).mono ?_
  rintro x w4 ⟨rfl, rfl⟩
  generalize pairV e.kind a' m' = pv at *
  generalize pairB e.kind a' m' = pb at *
  go_wp2_with (fail)
  go_ret
  exact unhide HFIN _ (unhide HG3) (unhide HR3)
end Go.Proofs.YtnchgeiinkaefaaGreatDoor.Rule
end

section
/-
  spec.RuleRun.
-/
namespace Go.Proofs.YtnchgeiinkaefaaGreatDoor.Rule
set_option linter.unusedVariables false
open Go.RowKit Tiers
open Kinds (kidsK)
open Coin (okB addV addB timesV fitB partV partB)
open Draw (grown_trans grown_none grown_of_below below_of)

theorem kids0 {k : Int} (h : kidsK k = 0) : k = 1 ∨ k = 2 := by
  unfold kidsK at h
  split at h
  · assumption
  split at h
  · omega
  split at h
  · omega
  split at h <;> omega
theorem evalS_leaf (us : List Uses.U) (hul : us.length ≤ 1048576) (w0 : World) (uv : Value) (e : Ex) (ka : Option Addr) (kc : Nat) (ta : Option Addr) (tc : Nat) (l : Nat) (w : World) (hU : Uses.UR w0 uv us) (ha : allB e = true) (hk : e.kids = []) (hl : l ≤ 1000) (hB : Below w0.heap.size w0 w) (hR : RunC w w0.heap.size uv l 0) :
    Calls Tryz.prog 54 #[.pointer (some ⟨w0.heap.size, 0, none⟩), exV e ka kc ta tc] w fun x w' => EvP us e l w w0.heap.size uv x w' := by
  cases l with
  | zero => exact eval_out us _ uv e ka kc ta tc w hR
  | succ l =>
    have hn := all_node ha
    have h3 := (node_parts hn).2.2.1
    rw [hk] at h3
    rcases kids0 h3.symm with h | h
    · exact eval_num us _ uv e ka kc ta tc l w (by omega) hR h (num_bd hn h)
    · exact eval_meter us w0 uv e ka kc ta tc l w (by omega) hU hul hB hR h
theorem evalS_all (us : List Uses.U) (hul : us.length ≤ 1048576) : ∀ d, EvalS us d
  | 0 => by
    intro w0 uv lo hi v e l w hU hE hhi ha hw hl hB hR
    have hk : e.kids = [] := by obtain ⟨kv, tv, _, _, h, _⟩ := hE; exact h.1
    obtain ⟨ka, kc, ta, tc, rfl⟩ := hE.form
    exact evalS_leaf us hul w0 uv e ka kc ta tc l w hU ha hk hl hB hR
  | d + 1 => by
    intro w0 uv lo hi v e l w hU hE hhi ha hw hl hB hR
    by_cases hk : e.kids = []
    · obtain ⟨ka, kc, ta, tc, rfl⟩ := hE.form
      exact evalS_leaf us hul w0 uv e ka kc ta tc l w hU ha hk hl hB hR
    cases l with
    | zero =>
      obtain ⟨ka, kc, ta, tc, rfl⟩ := hE.form
      exact eval_out us _ uv e ka kc ta tc w hR
    | succ l =>
      obtain ⟨kv, tv, rfl, hz, hE2, ht⟩ := hE
      rcases hE2 with ⟨h, _⟩ | ⟨b, o, cap, rfl, hlen, k1, k2, hc⟩
      · exact absurd h hk
      obtain ⟨ta, tc, rfl⟩ := ht.form
      have h3 := (node_parts (all_node ha)).2.2.1
      have hne : kidsK e.kind ≠ 0 := by
        rw [← h3]
        have : e.kids.length ≠ 0 := fun h => hk (List.eq_nil_of_length_eq_zero h)
        omega
      refine eval_kids us (evalS_all us hul d) w0 uv lo hi b o cap ta tc e l w (by omega) hU hhi ha hw hB hR ?_ ?_ k1 k2 ht.toTR (fun i hi => kidEV hc i hi)
      · intro h; rw [h] at hne; exact hne rfl
      · intro h; rw [h] at hne; exact hne rfl

/-- what RuleRun answers -/
def RunOf (us : List Uses.U) (e : Ex) (f v c t : Int) : Prop :=
  if okE e = true ∧ 0 ≤ f ∧ f ≤ 1000 then ∃ (n' : Int) (c' l' : Nat), Ev us e f.toNat n' c' l' ∧ c = c' ∧ (l' : Int) ≤ f ∧ v = (if c' = 0 then n' else 0) ∧ t = f - l' else v = 0 ∧ c = 3 ∧ t = 0
theorem okE_all {e : Ex} (h : okE e = true) : allB e = true := by
  unfold okE at h; simp only [Bool.and_eq_true] at h; exact h.1.1

set_option maxHeartbeats 1600000 in
theorem runS (us : List Uses.U) (hul : us.length ≤ 1048576) (d lo hi : Nat) (v uv : Value) (e : Ex) (f : Int) (w : World) (h : EV lo hi w d v e) (hhi : hi ≤ w.heap.size) (hw : wt e ≤ 1048576) (hU : Uses.UR w uv us) :
    Calls Tryz.prog 36 #[v, uv, .int .i64 f] w fun x w' => ∃ v c t : Int, x = .returned (.tuple #[.int .i64 v, .int .i64 c, .int .i64 t]) ∧ RunOf us e f v c t ∧ Below w.heap.size w w' := by
  obtain ⟨ka, kc, ta, tc, rfl⟩ := h.form
  obtain ⟨ua, uc, rfl⟩ : ∃ a c, uv = .slice a us.length c := by
    rcases hU with ⟨rfl, a, c, rfl⟩ | ⟨b, o, cap, rfl, _⟩
    · exact ⟨_, _, rfl⟩
    · exact ⟨_, _, rfl⟩
  obtain ⟨W1, hW1⟩ : ∃ W1, w.alloc (.cells #[.int .i64 e.kind, .int .i64 e.num, .string e.meter, .slice ka e.kids.length kc, .slice ta e.tiers.length tc] 77) = W1 := ⟨_, rfl⟩
  have HW1 := hide hW1
  have hb1 : Below w.heap.size w W1 := by rw [← hW1]; exact below_alloc _ _
  have HB1 := hide hb1
  have HX : Hid (Box W1 w.heap.size e ka kc ta tc) := hide (by rw [← hW1]; exact Box.new _ _ _ _ _ _ _)
  have HE1 := hide (keptE h hhi hb1)
  have HU1 := hide (hU.kept hb1)
  have hs1 : w.heap.size < W1.heap.size := by rw [← hW1]; simp
  have HF1 : Hid (¬ (okE e = true ∧ 0 ≤ f ∧ f ≤ 1000) → RunOf us e f 0 3 0) := hide (fun h => by unfold RunOf; rw [if_neg h]; exact ⟨rfl, rfl, rfl⟩)
  clear hW1 hb1 h hU
  obtain ⟨x0, x1, x2, x3, x4⟩ := unhide HX
  go_enter Tryz.func36, Tryz.ntmps36
  go_wp2_with (fail)
  rw [unhide HW1]
  refine (okS d lo hi _ e W1 (unhide HE1) (by omega) hw).mono ?_
  rintro x w2 ⟨rfl, hb2⟩
  have HX2 := hide ((unhide HX).kept hb2)
  have HE2 := hide (keptE (unhide HE1) (by omega) hb2)
  have HU2 := hide ((unhide HU1).kept hb2)
  have HB2 := hide (below_trans (unhide HB1) hb2)
  have hs2 : w.heap.size < w2.heap.size := Nat.lt_of_lt_of_le hs1 hb2.size
  clear x0 x1 x2 x3 x4 HX HE1 HU1 HB1 hb2 HW1
  obtain ⟨x0, x1, x2, x3, x4⟩ := unhide HX2
  cases hk : okE e
  · have HF := hide (unhide HF1 (by rw [hk]; rintro ⟨h, _⟩; cases h))
    clear hk HF1
    go_wp2_with (fail)
    go_ret3
    exact ⟨_, _, _, rfl, unhide HF, unhide HB2⟩
  by_cases f0 : f < 0
  · have HF := hide (unhide HF1 (by omega))
    clear HF1
    go_wp2_with (fail)
    go_ret3
    exact ⟨_, _, _, rfl, unhide HF, unhide HB2⟩
  by_cases f1 : 1000 < f
  · have HF := hide (unhide HF1 (by omega))
    clear HF1
    go_wp2_with (fail)
    go_ret3
    exact ⟨_, _, _, rfl, unhide HF, unhide HB2⟩
  obtain ⟨F, rfl⟩ := Int.eq_ofNat_of_zero_le (show 0 ≤ f by omega)
  have HA := hide (okE_all hk)
  have HF2 : Hid (∀ n' c' l', Ev us e F n' c' l' → l' ≤ F → RunOf us e F (if c' = 0 then n' else 0) c' (F - l')) := hide (fun n' c' l' h hl => by
    unfold RunOf; rw [if_pos ⟨hk, by omega, by omega⟩]; exact ⟨n', c', l', by simpa using h, rfl, by omega, rfl, rfl⟩)
  obtain ⟨W3, hW3⟩ : ∃ W3, w2.alloc (.cells #[.slice ua us.length uc, .int .i64 (F : Int), .int .i64 0] 107) = W3 := ⟨_, rfl⟩
  have HW3 := hide hW3
  have HR3 : Hid (RunC W3 w2.heap.size (.slice ua us.length uc) F 0) := hide (by
    rw [← hW3]
    have e1 := (MapKept.heap_alloc w2 (.cells #[.slice ua us.length uc, .int .i64 (F : Int), .int .i64 0] 107)).1
    refine ⟨?_, ?_, ?_, ?_, ?_⟩ <;> simp only [World.cell?, World.frozen?, e1] <;> simp)
  have hb3 : Below w2.heap.size w2 W3 := by rw [← hW3]; exact below_alloc _ _
  have HB3 := hide hb3
  have HX3 := hide ((unhide HX2).kept hb3)
  have hs3 : w2.heap.size < W3.heap.size := by rw [← hW3]; simp
  clear hW3 hb3 HF1 HX2 hk
  go_wp2_with (fail)
  rw [unhide HW3]
  refine (evalS_all us hul d w2 _ lo hi _ e F W3 (unhide HU2) (unhide HE2) (by omega) (unhide HA) hw (by omega) (unhide HB3) (unhide HR3)).mono ?_
  rintro x w4 ⟨n, n', c, l', rfl, hev, hok, hl, hc2, hg, hR⟩
  have HB4 := hide (below_trans (unhide HB2) (below_of (unhide HB3) (Nat.le_refl _) hg))
  have HF3 := hide (unhide HF2 _ _ _ hev hl)
  have HOK := hide hok
  obtain ⟨h0', h1', h2', f1', f2'⟩ := hR
  clear x0 x1 x2 x3 x4 hev hok hg HF2 HX3 HR3 HW3
  by_cases c0 : c = 0
  · subst c0
    obtain ⟨rfl, _⟩ := unhide HOK rfl
    go_wp2_with (fail)
    go_quiet (fail)
    go_wp2
    go_ret3
    exact ⟨_, _, _, rfl, unhide HF3, Tiers.below_drewN' (unhide HB4) _⟩
  · have cp : (0 : Int) < (c : Int) := by omega
    rw [if_neg c0] at HF3
    go_wp2_with (fail)
    go_quiet (fail)
    go_wp2
    go_ret3
    exact ⟨_, _, _, rfl, unhide HF3, Tiers.below_drewN' (unhide HB4) _⟩
end Go.Proofs.YtnchgeiinkaefaaGreatDoor.Rule
end

section
/-
  A tariff comes to one thing alone.
-/
namespace Go.Proofs.YtnchgeiinkaefaaGreatDoor.Rule
set_option linter.unusedVariables false
open Go.RowKit

mutual
theorem Ev.det {us : List Uses.U} {e : Ex} {l : Nat} {v : Int} {c l' : Nat} : Ev us e l v c l' → ∀ {v2 : Int} {c2 l2 : Nat}, Ev us e l v2 c2 l2 → v = v2 ∧ c = c2 ∧ l' = l2
  | .out e, _, _, _, h2 => by cases h2; exact ⟨rfl, rfl, rfl⟩
  | .go h, _, _, _, h2 => Rest.det h h2.more
theorem Rest.det {us : List Uses.U} {e : Ex} {vs : List Int} {l : Nat} {v : Int} {c l' : Nat} : Rest us e vs l v c l' → ∀ {v2 : Int} {c2 l2 : Nat}, Rest us e vs l v2 c2 l2 → v = v2 ∧ c = c2 ∧ l' = l2
  | .kid hn h ho hl k, _, _, _, h2 => by
    cases h2 with
    | kid hn2 g _ _ gk =>
      rw [hn] at hn2
      cases hn2
      obtain ⟨rfl, _, rfl⟩ := Ev.det h g
      exact Rest.det k gk
    | bad hn2 g hc _ =>
      rw [hn] at hn2
      cases hn2
      exact absurd (Ev.det h g).2.1.symm hc
    | val hn2 _ => rw [hn] at hn2; cases hn2
    | over hn2 _ => rw [hn] at hn2; cases hn2
  | .bad hn h hc hl, _, _, _, h2 => by
    cases h2 with
    | kid hn2 g _ _ gk =>
      rw [hn] at hn2
      cases hn2
      exact absurd (Ev.det h g).2.1 hc
    | bad hn2 g hc2 _ =>
      rw [hn] at hn2
      cases hn2
      exact ⟨rfl, (Ev.det h g).2⟩
    | val hn2 _ => rw [hn] at hn2; cases hn2
    | over hn2 _ => rw [hn] at hn2; cases hn2
  | .val hn hv, _, _, _, h2 => by
    obtain ⟨h1, h3, h4⟩ := h2.yes hn hv
    exact ⟨h1.symm, h3.symm, h4.symm⟩
  | .over hn hv, _, _, _, h2 => by
    cases h2 with
    | kid hn2 => rw [hn] at hn2; cases hn2
    | bad hn2 => rw [hn] at hn2; cases hn2
    | val _ hv2 => rw [hv] at hv2; cases hv2
    | over => exact ⟨rfl, rfl, rfl⟩
end
theorem RunOf.det {us : List Uses.U} {e : Ex} {f v c t v2 c2 t2 : Int} (h : RunOf us e f v c t) (h2 : RunOf us e f v2 c2 t2) : v = v2 ∧ c = c2 ∧ t = t2 := by
  unfold RunOf at h h2
  split at h
  · rename_i hy
    rw [if_pos hy] at h2
    obtain ⟨n', c', l', hE, rfl, _, rfl, rfl⟩ := h
    obtain ⟨n2, c2', l2, hE2, rfl, _, rfl, rfl⟩ := h2
    obtain ⟨rfl, rfl, rfl⟩ := Ev.det hE hE2
    exact ⟨rfl, rfl, rfl⟩
  · rename_i hy
    rw [if_neg hy] at h2
    obtain ⟨rfl, rfl, rfl⟩ := h
    obtain ⟨rfl, rfl, rfl⟩ := h2
    exact ⟨rfl, rfl, rfl⟩
theorem RunOf.congr {us us' : List Uses.U} (hu : ∀ m, Uses.ofV m us = Uses.ofV m us') {e : Ex} {f v c t : Int} (h : RunOf us e f v c t) : RunOf us' e f v c t := by
  unfold RunOf at h ⊢
  split at h
  · rename_i hy
    rw [if_pos hy]
    obtain ⟨n', c', l', hE, h1, h2, h3, h4⟩ := h
    exact ⟨n', c', l', Ev.congr hu hE, h1, h2, h3, h4⟩
  · rename_i hy
    rw [if_neg hy]
    exact h
end Go.Proofs.YtnchgeiinkaefaaGreatDoor.Rule
end

section
/-
  What a tariff takes of its fuel, and what more of it does; no program in it.
-/
namespace Go.Proofs.YtnchgeiinkaefaaGreatDoor.Rule
set_option linter.unusedVariables false
open Go.RowKit
open Kinds (kidsK)
open Coin (okB)

theorem cntL_drop {l : List Ex} {k : Nat} (h : k < l.length) : cntL (l.drop k) = cnt (l.getD k E0) + cntL (l.drop (k + 1)) := by
  rw [List.drop_eq_getElem_cons h, cntL]; simp [List.getD, h]
/-- what the kids still to be run take at most -/
def toRun (e : Ex) (vs : List Int) : Nat := if e.kind = 9 ∧ 2 ≤ vs.length then 0 else cntL (e.kids.drop vs.length)
theorem toRun_nil (e : Ex) : toRun e [] = cntL e.kids := by
  unfold toRun; rw [if_neg (by simp)]; rfl
theorem kids9 : kidsK 9 = 3 := by decide
theorem next_toRun {e : Ex} {vs : List Int} {i : Nat} (hn : nodeE e = true) (h : nextM e.kind vs = some i) : i < e.kids.length ∧ ∀ v, cnt (e.kids.getD i E0) + toRun e (vs ++ [v]) ≤ toRun e vs := by
  have h3 := (node_parts hn).2.2.1
  unfold nextM at h
  by_cases k9 : e.kind = 9
  · rw [if_pos k9] at h
    rw [k9, kids9] at h3
    have h3' : e.kids.length = 3 := by omega
    have d0 : cntL (e.kids.drop 0) = cnt (e.kids.getD 0 E0) + cntL (e.kids.drop 1) := cntL_drop (by omega)
    have d1 : cntL (e.kids.drop 1) = cnt (e.kids.getD 1 E0) + cntL (e.kids.drop 2) := cntL_drop (by omega)
    have d2 : cntL (e.kids.drop 2) = cnt (e.kids.getD 2 E0) + cntL (e.kids.drop 3) := cntL_drop (by omega)
    split at h
    · next h0 =>
      obtain rfl := Option.some.inj h
      refine ⟨by omega, fun v => ?_⟩
      have r0 : toRun e vs = cntL (e.kids.drop 0) := by unfold toRun; rw [if_neg (by omega), h0]
      have r1 : toRun e (vs ++ [v]) = cntL (e.kids.drop 1) := by unfold toRun; rw [if_neg (fun hh => by have := hh.2; rw [List.length_append, h0] at this; simp at this), List.length_append, h0]; rfl
      rw [r0, r1]; omega
    split at h
    · next h0 h1 =>
      have r0 : toRun e vs = cntL (e.kids.drop 1) := by unfold toRun; rw [if_neg (by omega), h1]
      have r1 : ∀ v, toRun e (vs ++ [v]) = 0 := fun v => by unfold toRun; rw [if_pos ⟨k9, by simp; omega⟩]
      split at h
      · obtain rfl := Option.some.inj h
        refine ⟨by omega, fun v => ?_⟩
        rw [r0, r1]; omega
      · obtain rfl := Option.some.inj h
        refine ⟨by omega, fun v => ?_⟩
        rw [r0, r1]; omega
    · cases h
  · rw [if_neg k9] at h
    split at h
    · next hlt =>
      obtain rfl := Option.some.inj h
      have hl : vs.length < e.kids.length := by omega
      refine ⟨hl, fun v => ?_⟩
      have r0 : toRun e vs = cntL (e.kids.drop vs.length) := by unfold toRun; rw [if_neg (fun h => k9 h.1)]
      have r1 : toRun e (vs ++ [v]) = cntL (e.kids.drop (vs.length + 1)) := by unfold toRun; rw [if_neg (fun h => k9 h.1), List.length_append]; rfl
      rw [r0, r1, cntL_drop hl]; omega
    · cases h

mutual
/-- an expression takes one for each expression in it at most -/
theorem Ev.cost {us : List Uses.U} {e : Ex} {l : Nat} {v : Int} {c l' : Nat} : Ev us e l v c l' → allB e = true → l' ≤ l ∧ l ≤ l' + cnt e ∧ (c = 2 → l < cnt e)
  | .out e, _ => ⟨Nat.le_refl _, Nat.zero_le _, fun _ => by rw [cnt_eq]; omega⟩
  | .go h, ha => by
    obtain ⟨h1, h2, h3⟩ := Rest.cost h ha
    rw [toRun_nil] at h2 h3
    rw [cnt_eq]
    exact ⟨by omega, by omega, fun hc => by have := h3 hc; omega⟩
theorem Rest.cost {us : List Uses.U} {e : Ex} {vs : List Int} {l : Nat} {v : Int} {c l' : Nat} : Rest us e vs l v c l' → allB e = true → l' ≤ l ∧ l ≤ l' + toRun e vs ∧ (c = 2 → l < toRun e vs)
  | .kid (v := x) hn h ho hl k, ha => by
    obtain ⟨hi, hr⟩ := next_toRun (all_node ha) hn
    obtain ⟨a1, a2, _⟩ := Ev.cost h (all_kid ha hi)
    obtain ⟨b1, b2, b3⟩ := Rest.cost k ha
    have := hr x
    exact ⟨by omega, by omega, fun hc => by have := b3 hc; omega⟩
  | .bad hn h hc hl, ha => by
    obtain ⟨hi, hr⟩ := next_toRun (all_node ha) hn
    obtain ⟨a1, a2, a3⟩ := Ev.cost h (all_kid ha hi)
    have := hr 0
    exact ⟨a1, by omega, fun hc => by have := a3 hc; omega⟩
  | .val hn hv, ha => ⟨Nat.le_refl _, Nat.le_add_right _ _, fun h => by cases h⟩
  | .over hn hv, ha => ⟨Nat.le_refl _, Nat.le_add_right _ _, fun h => by cases h⟩
end
mutual
/-- more fuel changes nothing but what is left -/
theorem Ev.lift {us : List Uses.U} {e : Ex} {l : Nat} {v : Int} {c l' : Nat} : Ev us e l v c l' → c ≠ 2 → ∀ k, Ev us e (l + k) v c (l' + k)
  | .out e, hc, k => absurd rfl hc
  | .go h, hc, k => by
    have := Ev.go (Rest.lift h hc k)
    rwa [Nat.add_right_comm] at this
theorem Rest.lift {us : List Uses.U} {e : Ex} {vs : List Int} {l : Nat} {v : Int} {c l' : Nat} : Rest us e vs l v c l' → c ≠ 2 → ∀ k, Rest us e vs (l + k) v c (l' + k)
  | .kid hn h ho hl r, hc, k => .kid hn (Ev.lift h (by omega) k) ho (by omega) (Rest.lift r hc k)
  | .bad hn h h0 hl, hc, k => .bad hn (Ev.lift h hc k) h0 (by omega)
  | .val hn hv, hc, k => .val hn hv
  | .over hn hv, hc, k => .over hn hv
end

mutual
theorem Ev.code {us : List Uses.U} {e : Ex} {l : Nat} {v : Int} {c l' : Nat} : Ev us e l v c l' → c ≤ 2
  | .out e => Nat.le_refl _
  | .go h => Rest.code h
theorem Rest.code {us : List Uses.U} {e : Ex} {vs : List Int} {l : Nat} {v : Int} {c l' : Nat} : Rest us e vs l v c l' → c ≤ 2
  | .kid hn h ho hl k => Rest.code k
  | .bad hn h hc hl => Ev.code h
  | .val hn hv => by omega
  | .over hn hv => by omega
end

theorem ok_zero : okB 0 = true := by decide
theorem val_ok {us : List Uses.U} {e : Ex} {vs : List Int} (hn : nodeE e = true) (hvs : ∀ i, okB (vs.getD i 0) = true) (h : valB us e vs = true) : okB (valV us e vs) = true := by
  unfold valB at h
  unfold valV
  split
  · rename_i k; exact num_bd hn k
  rename_i k; rw [if_neg k] at h
  split
  · rename_i k; rw [if_pos k] at h; exact h
  rename_i k; rw [if_neg k] at h
  split
  · exact Coin.okB_true (Coin.part_bd _ _ _)
  rename_i k; rw [if_neg k] at h
  split
  · exact hvs 1
  rename_i k; rw [if_neg k] at h
  split
  · exact Coin.okB_true (Tiers.stepV_bd _ _)
  rename_i k; rw [if_neg k] at h
  exact pair_bd (hvs 0) (hvs 1) h
theorem getD_snoc {vs : List Int} {v : Int} (hvs : ∀ i, okB (vs.getD i 0) = true) (hv : okB v = true) (i : Nat) : okB ((vs ++ [v]).getD i 0) = true := by
  by_cases h : i < vs.length
  · have := hvs i
    simp only [List.getD_eq_getElem?_getD] at this ⊢
    rwa [List.getElem?_append_left h]
  · by_cases h' : i = vs.length
    · subst h'; simpa [List.getD_eq_getElem?_getD] using hv
    · have : (vs ++ [v])[i]? = none := by rw [List.getElem?_eq_none_iff]; simp; omega
      rw [List.getD_eq_getElem?_getD, this]; exact ok_zero
mutual
/-- a value is an amount, and nothing else is told -/
theorem Ev.amount {us : List Uses.U} {e : Ex} {l : Nat} {v : Int} {c l' : Nat} : Ev us e l v c l' → allB e = true → c = 0 → okB v = true
  | .out e, _, hc => by cases hc
  | .go h, ha, hc => Rest.amount h ha (fun i => by simpa [List.getD_eq_getElem?_getD] using ok_zero) hc
theorem Rest.amount {us : List Uses.U} {e : Ex} {vs : List Int} {l : Nat} {v : Int} {c l' : Nat} : Rest us e vs l v c l' → allB e = true → (∀ i, okB (vs.getD i 0) = true) → c = 0 → okB v = true
  | .kid hn h ho hl k, ha, hvs, hc => Rest.amount k ha (getD_snoc hvs ho) hc
  | .bad hn h h0 hl, ha, hvs, hc => absurd hc h0
  | .val hn hv, ha, hvs, _ => val_ok (all_node ha) hvs hv
  | .over hn hv, ha, hvs, hc => by cases hc
end

theorem val_congrO {us us' : List Uses.U} {o : ByteArray} (h : ∀ m, m ≠ o → Uses.ofV m us = Uses.ofV m us') {e : Ex} (he : e.meter ≠ o) (vs : List Int) : valV us e vs = valV us' e vs ∧ valB us e vs = valB us' e vs := by
  unfold valV valB; rw [h e.meter he]; exact ⟨rfl, rfl⟩
mutual
theorem Ev.congrO {us us' : List Uses.U} {o : ByteArray} (ho : ByteArray.empty ≠ o) (h : ∀ m, m ≠ o → Uses.ofV m us = Uses.ofV m us') {e : Ex} {l : Nat} {v : Int} {c l' : Nat} : Ev us e l v c l' → noE o e → Ev us' e l v c l'
  | .out e, _ => .out e
  | .go k, he => .go (Rest.congrO ho h k he)
theorem Rest.congrO {us us' : List Uses.U} {o : ByteArray} (ho : ByteArray.empty ≠ o) (h : ∀ m, m ≠ o → Uses.ofV m us = Uses.ofV m us') {e : Ex} {vs : List Int} {l : Nat} {v : Int} {c l' : Nat} : Rest us e vs l v c l' → noE o e → Rest us' e vs l v c l'
  | .kid (i := i) hn k hv hl r, he => .kid hn (Ev.congrO ho h k (noL_at ho (by rw [noE_eq] at he; exact he.2) i)) hv hl (Rest.congrO ho h r he)
  | .bad (i := i) hn k hc hl, he => .bad hn (Ev.congrO ho h k (noL_at ho (by rw [noE_eq] at he; exact he.2) i)) hc hl
  | .val hn hv, he => by
    rw [noE_eq] at he
    obtain ⟨e1, e2⟩ := val_congrO h he.1 _
    rw [e1]; exact .val hn (by rw [← e2]; exact hv)
  | .over hn hv, he => by
    rw [noE_eq] at he
    exact .over hn (by rw [← (val_congrO h he.1 _).2]; exact hv)
end

end Go.Proofs.YtnchgeiinkaefaaGreatDoor.Rule
end

section
/-
  'out = append(out, n)' on a slice of ints of the call's own, in a plain region and in one that draws its order.
-/
namespace Go.Proofs.YtnchgeiinkaefaaGreatDoor.Ints
set_option linter.unusedVariables false
open Go.RowKit

theorem infoEx : ∃ i, Tryz.prog.info? 3 = some i ∧ i.zero = some (.int .i64 0) ∧ i.size = 1 ∧ i.bytes = 8 := by
  have h := info
  obtain ⟨i, hi, h2⟩ := Option.map_eq_some_iff.1 h
  simp only [Prod.mk.injEq] at h2
  exact ⟨i, hi, h2.1, h2.2.1, h2.2.2⟩

/-- the numbers of a row, as values -/
abbrev vals (l : List Int) : List Value := l.map (Value.int .i64)

/-- the slice of the call's own in block g holds the numbers l -/
def Own (W : World) (B g cap : Nat) (l : List Int) : Prop := W.ownsRow B 3 1 (.slice (some ⟨g, 0, none⟩) l.length cap) l.length (vals l)

section
variable {ops : Array Oper} {o : Oper} {a : Act} {K : Act → World → Prop} {Q : Exit → Act → World → Prop} {E : Prop}

theorem news (w : World) (N : Nat) (q : Int) (hN : w.heap[N]? = some (.cells #[.int .i64 q] 3 (0, 0))) : ∀ j u, (vals [q])[j]? = some u → w.cell? ((⟨N, 0, none⟩ : Addr).add j) = some u :=
  World.news_of_block hN

end

theorem Own.kept {W W' : World} {B g c : Nat} {l : List Int} {r : Option Nat} (h : Own W B g c l) (hg : W.grownBy W' r) (hne : some g ≠ r) : Own W' B g c l :=
  World.ownsRow.kept h hg (.inr (by simpa [Value.ownBlock] using hne))
theorem Own.lt {W : World} {B g c : Nat} {l : List Int} (h : Own W B g c l) : B ≤ g ∧ g < W.heap.size := World.ownsRow.lt h g rfl
/-- a new slice without elements -/
theorem Own.new (w : World) (B : Nat) (hB : B ≤ w.heap.size) : Own (w.alloc (.cells #[] 3)) B w.heap.size 0 [] :=
  ⟨by simp, .inr ⟨w.heap.size, 0, #[], rfl, hB, (MapKept.heap_alloc w _).1, by simp, by unfold maxLen; omega, by simp, by simp⟩⟩
theorem Own.cells {W : World} {B g c : Nat} {l : List Int} (h : Own W B g c l) : Cells W g 0 l := by
  refine ⟨h.lt.2, fun i hi => ?_⟩
  have h1 := World.ownsRow.cells h rfl i (.int .i64 (l.getD i 0)) (by simp [vals, List.getD, hi])
  rw [Addr.add_lit] at h1
  refine ⟨h1, ?_⟩
  rcases h.2 with ⟨h2, _⟩ | ⟨g', cap, cur, h2, _, h3, _⟩
  · cases h2
  · simp only [Value.slice.injEq, Option.some.injEq, Addr.mk.injEq, and_true, true_and] at h2
    obtain ⟨rfl, _⟩ := h2
    simp only [World.frozen?]
    rw [h3]; simp
end Go.Proofs.YtnchgeiinkaefaaGreatDoor.Ints
end

section
/-
  CoinShare, the document's.
-/
namespace Go.Proofs.YtnchgeiinkaefaaGreatDoor.Share
set_option linter.unusedVariables false
open Go.RowKit Ints

/-- what the division by weights gives: the part of one weight, and its rest -/
def ptV (T S x : Int) : Int := T / S * x + T % S * x / S
def rsV (T S x : Int) : Int := T % S * x % S

theorem ptBd {T S x : Int} (h0 : 0 ≤ T) (h1 : T ≤ 1000000000000000) (hx : 0 ≤ x) (hx' : x ≤ 1000000) (hxs : x ≤ S) (hs : 1 ≤ S) (hs' : S ≤ 16000000) :
    0 ≤ T / S ∧ T / S ≤ 1000000000000000 ∧ 0 ≤ T % S ∧ T % S < S ∧ 0 ≤ T % S * x ∧ T % S * x ≤ 16000000000000 ∧ 0 ≤ T % S * x / S ∧ T % S * x / S ≤ T % S ∧ 0 ≤ T / S * x ∧ T / S * x + T % S ≤ T ∧ 0 ≤ T % S * x % S ∧ T % S * x % S < S := by
  have d1 : 0 ≤ T / S := Int.ediv_nonneg h0 (by omega)
  have d2 : T / S ≤ T := Int.ediv_le_self _ h0
  have m1 : 0 ≤ T % S := Int.emod_nonneg _ (by omega)
  have m2 : T % S < S := Int.emod_lt_of_pos _ (by omega)
  have p1 : 0 ≤ T % S * x := Int.mul_nonneg m1 hx
  have p2 : T % S * x ≤ 16000000 * 1000000 := Int.mul_le_mul (by omega) hx' hx (by omega)
  have q1 : 0 ≤ T % S * x / S := Int.ediv_nonneg p1 (by omega)
  have q2 : T % S * x / S ≤ T % S := by
    have : T % S * x ≤ T % S * S := Int.mul_le_mul_of_nonneg_left hxs m1
    have h3 := Int.ediv_le_ediv (c := S) (by omega) this
    rwa [Int.mul_ediv_cancel _ (by omega)] at h3
  have e1 : T / S * x ≤ T / S * S := Int.mul_le_mul_of_nonneg_left hxs d1
  have e2 := Int.mul_ediv_add_emod T S
  have e3 : T / S * S = S * (T / S) := Int.mul_comm _ _
  refine ⟨d1, by omega, m1, m2, p1, by omega, q1, q2, Int.mul_nonneg d1 hx, by omega, Int.emod_nonneg _ (by omega), Int.emod_lt_of_pos _ (by omega)⟩

def moreB (rs : List Int) (j i : Nat) : Bool := decide (rs.getD i 0 < rs.getD j 0) || (rs.getD j 0 == rs.getD i 0) && decide (j < i)
def cnt (rs : List Int) (i k : Nat) : Nat := (List.range k).countP fun j => moreB rs j i
end Go.Proofs.YtnchgeiinkaefaaGreatDoor.Share
end

section
/-
  CoinShare, the document's: what it answers.
-/
namespace Go.Proofs.YtnchgeiinkaefaaGreatDoor.Share
set_option linter.unusedVariables false
open Go.RowKit Ints

theorem take_step (l : List Int) (k : Nat) (h : k < l.length) : l.take (k + 1) = l.take k ++ [l.getD k 0] := by
  rw [List.take_add_one, List.getElem?_eq_getElem h]; simp [List.getD, h]
theorem sum_bd' (l : List Int) (M : Int) : ∀ k : Nat, (∀ j, j < k → 0 ≤ l.getD j 0 ∧ l.getD j 0 ≤ M) → k ≤ l.length → 0 ≤ (l.take k).sum ∧ (l.take k).sum ≤ k * M := by
  intro k
  induction k with
  | zero => intro _ _; simp
  | succ k ih =>
    intro h hk
    have h1 := ih (fun j hj => h j (by omega)) (by omega)
    have h2 := h k (by omega)
    rw [sum_take l k (by omega)]
    have : ((k + 1 : Nat) : Int) * M = k * M + M := by rw [Int.natCast_add, Int.add_mul]; simp
    rw [this]
    omega

end Go.Proofs.YtnchgeiinkaefaaGreatDoor.Share
end

section
/-
  Kids that are appended one by one to a row of the call's own.
-/
namespace Go.Proofs.YtnchgeiinkaefaaGreatDoor.Rule
set_option linter.unusedVariables false
open Go.RowKit
open Tiers (T T0)

/-- a kid, and the values of its two lists -/
abbrev X := Ex × Value × Value
abbrev cells5 (x : X) : List Value := [.int .i64 x.1.kind, .int .i64 x.1.num, .string x.1.meter, x.2.1, x.2.2]
def flatK (l : List X) : List Value := l.flatMap cells5
theorem flatK_get : ∀ (l : List X) (i : Nat) (x : X), l[i]? = some x → ∀ j u, j < 5 → (cells5 x)[j]? = some u → (flatK l)[i * 5 + j]? = some u
  | [], i, x, h, _, _, _, _ => by simp at h
  | y :: l, 0, x, h, j, u, hj, hu => by
    simp at h; subst h
    have e : flatK (y :: l) = cells5 y ++ flatK l := rfl
    rw [e, Nat.zero_mul, Nat.zero_add, List.getElem?_append_left (by show j < 5; omega)]
    exact hu
  | y :: l, i + 1, x, h, j, u, hj, hu => by
    simp only [List.getElem?_cons_succ] at h
    have e : flatK (y :: l) = cells5 y ++ flatK l := rfl
    have e2 : (i + 1) * 5 + j = 5 + (i * 5 + j) := by omega
    rw [e, List.getElem?_append_right (by show 5 ≤ _; omega)]
    have e3 : (i + 1) * 5 + j - (cells5 y).length = i * 5 + j := by show (i + 1) * 5 + j - 5 = _; omega
    rw [e3]
    exact flatK_get l i x h j u hj hu
theorem flatK_append (a b : List X) : flatK (a ++ b) = flatK a ++ flatK b := by unfold flatK; simp

/-- what hangs on a kid lies in blocks from B on, the row's own not among them -/
def Kid (W : World) (B : Nat) (g : Option Nat) (d : Nat) (x : X) : Prop :=
  (x.1.meter.size ≤ maxLen ∧ x.1.tiers.length ≤ maxLen) ∧ ∃ lo hi, ES lo hi W d x.2.1 x.1.kids ∧ TL lo hi W x.2.2 x.1.tiers ∧ B ≤ lo ∧ hi ≤ W.heap.size ∧ ∀ q, g = some q → q < lo ∨ hi ≤ q
/-- a row of kids of the call's own -/
structure KS (W : World) (B d : Nat) (kv : Value) (l : List X) : Prop where
  own : W.ownsRow B 77 5 kv l.length (flatK l)
  kid : ∀ x ∈ l, Kid W B kv.ownBlock d x

theorem KS.nil (W : World) (B d : Nat) : KS W B d (.slice none 0 0) [] := ⟨⟨rfl, .inl ⟨rfl, rfl⟩⟩, fun x hx => by cases hx⟩
theorem Kid.kept {W W' : World} {B : Nat} {g : Option Nat} {d : Nat} {x : X} {r : Option Nat} (h : Kid W B g d x) (hg : W.grownBy W' r) (hr : ∀ q, r = some q → q < B ∨ g = some q) : Kid W' B g d x := by
  obtain ⟨hz, lo, hi, h1, h2, h3, h4, h5⟩ := h
  have hs : Same lo hi W W' := fun b b1 b2 => hg.block b (by omega) (fun e => by
    rcases hr b e.symm with h | h
    · omega
    · rcases h5 b h with h | h <;> omega)
  exact ⟨hz, lo, hi, h1.kept hs, h2.kept hs, h3, Nat.le_trans h4 hg.size, h5⟩
theorem KS.kept {W W' : World} {B d : Nat} {kv : Value} {l : List X} {r : Option Nat} (h : KS W B d kv l) (hg : W.grownBy W' r) (hr : ∀ q, r = some q → q < B) : KS W' B d kv l := by
  refine ⟨?_, fun x hx => (h.kid x hx).kept hg (fun q hq => .inl (hr q hq))⟩
  obtain ⟨h1, h2⟩ := h.own
  refine ⟨h1, ?_⟩
  rcases h2 with h2 | ⟨g, cap, cur, rfl, hB, hb, h3⟩
  · exact .inl h2
  · have hlt : g < W.heap.size := by
      refine Nat.lt_of_not_le fun hn => ?_
      have : W.heap[g]? = none := by simp; omega
      rw [this] at hb; cases hb
    exact .inr ⟨g, cap, cur, rfl, hB, (hg.block g hlt (fun e => by have := hr g e.symm; omega)).trans hb, h3⟩
theorem KS.form {W : World} {B d : Nat} {kv : Value} {l : List X} (h : KS W B d kv l) : ∃ a c, kv = .slice a l.length c := by
  obtain ⟨h1, h2⟩ := h.own
  rcases h2 with ⟨rfl, h0⟩ | ⟨g, cap, cur, rfl, _⟩
  · exact ⟨none, 0, by rw [h0]⟩
  · exact ⟨_, _, rfl⟩
theorem KS.blk {W : World} {B d : Nat} {kv : Value} {l : List X} (h : KS W B d kv l) : ∀ q, kv.ownBlock = some q → B ≤ q ∧ q < W.heap.size := by
  obtain ⟨h1, h2⟩ := h.own
  rcases h2 with ⟨rfl, h0⟩ | ⟨g, cap, cur, rfl, hB, hb, _⟩
  · intro q hq; cases hq
  · intro q hq
    obtain rfl : g = q := by simpa [Value.ownBlock] using hq
    refine ⟨hB, Nat.lt_of_not_le fun hn => ?_⟩
    have : W.heap[g]? = none := by simp; omega
    rw [this] at hb; cases hb
theorem KS.es {W : World} {B d : Nat} {kv : Value} {l : List X} (h : KS W B d kv l) (hl : l.length ≤ 1000) : ES B W.heap.size W (d + 1) kv (l.map (·.1)) := by
  have ho := h.own
  have hb := h.blk
  obtain ⟨h1, h2⟩ := h.own
  rcases h2 with ⟨rfl, h0⟩ | ⟨g, cap, cur, rfl, _⟩
  · obtain rfl := List.length_eq_zero_iff.1 h0
    exact .inl ⟨rfl, _, _, rfl⟩
  · obtain ⟨g1, g2⟩ := hb g rfl
    refine .inr ⟨g, 0, cap, by simp, by simp; unfold maxLen; omega, g1, g2, fun i hi => ?_⟩
    have hi' : i < l.length := by simpa using hi
    have hx : l[i]? = some l[i] := List.getElem?_eq_getElem hi'
    have e : (l.map (·.1)).getD i E0 = l[i].1 := by simp [List.getD, hi']
    rw [e]
    obtain ⟨hz, lo, hi2, k1, k2, k3, k4, _⟩ := h.kid l[i] (List.getElem_mem _)
    have hc : ∀ j u, j < 5 → (cells5 l[i])[j]? = some u → W.cell? ⟨g, 0 + i * 5 + j, none⟩ = some u := fun j u hj hu => by
      have := ho.cells (g := g) rfl (i * 5 + j) u (flatK_get l i _ hx j u hj hu)
      rw [Addr.add_lit, Nat.zero_add] at this
      rw [Nat.zero_add]; exact this
    exact ⟨l[i].2.1, l[i].2.2, ⟨hc 0 _ (by omega) rfl, hc 1 _ (by omega) rfl, hc 2 _ (by omega) rfl, hc 3 _ (by omega) rfl, hc 4 _ (by omega) rfl⟩, hz, k1.mono k3 k4, k2.mono k3 k4⟩

theorem infoK : ∃ i, Tryz.prog.info? 77 = some i ∧ i.zero = some (.agg #[.int .i64 0, .int .i64 0, .string ByteArray.empty, .slice none 0 0, .slice none 0 0]) ∧ i.size = 5 ∧ i.bytes = 80 := by
  obtain ⟨i, hi, h2⟩ := Option.map_eq_some_iff.1 infoE
  simp only [Prod.mk.injEq] at h2
  exact ⟨i, hi, h2.1, h2.2.1, h2.2.2⟩

section
variable {ops : Array Oper} {o : Oper} {a : Act} {K : Act → World → Prop} {Q : Exit → Act → World → Prop} {P0 : Prop}
theorem stepAppK (w : World) (hgd : o.guard = none) (s x : Operand) (ho : o.op = .call { callee := .builtin .append, args := #[s, x], argTypes := #[74, 74] })
    (B N d n : Nat) (kv : Value) (l : List X) (q : X) (hn : l.length = n) (hs : a.eval s = kv) (hK : KS w B d kv l) (hx : a.eval x = .slice (some ⟨N, 0, none⟩) 1 1) (hN : w.heap[N]? = some (.cells (cells5 q).toArray 77 (0, 0)))
    (hq : Kid w B kv.ownBlock d q) (hl : l.length ≤ 900) (hB : B ≤ w.heap.size)
    (h : ∀ g c w', KS w' B d (.slice (some ⟨g, 0, none⟩) (n + 1) c) (l ++ [q]) → w.grownBy w' kv.ownBlock → (kv.ownBlock = some g ∨ g = w.heap.size) → K (a.put o.dst (.slice (some ⟨g, 0, none⟩) (n + 1) c)) w') :
    if Region.wanted o (yielded ops a.tmps) = true then Oper.wp Tryz.prog o a w K Q else P0 := by
  subst hn
  obtain ⟨i, hi, hz, hsz, hby⟩ := infoK
  have hone : ∀ u ∈ cells5 q, u.oneCell' = true := by
    obtain ⟨_, lo, hi, k1, k2, _⟩ := hq
    obtain ⟨ka, kc, e1, _⟩ := k1.form
    have e2 : ∃ a c, q.2.2 = .slice a q.1.tiers.length c := by
      rcases k2 with ⟨h0, a, c, h⟩ | ⟨b, o, cap, h, _⟩
      · exact ⟨a, c, by rw [h, h0]; rfl⟩
      · exact ⟨_, _, h⟩
    obtain ⟨ta, tc, e2⟩ := e2
    intro u hu
    simp only [cells5, e1, e2, List.mem_cons, List.not_mem_nil, or_false] at hu
    rcases hu with rfl | rfl | rfl | rfl | rfl <;> rfl
  refine step_append_lies (P := Tryz.prog) w hgd s x 74 ho B 77 i _ 5 80 Tryz.underlying74 hi hz hsz hby rfl (by omega) kv l.length (flatK l) hs hK.own ⟨N, 0, none⟩ 1 1 (cells5 q) hx rfl (World.news_of_block hN) hone (by omega) (by unfold maxLen; omega) (by omega) hB _ rfl ?_
  intro g c w' h1 h2 h3 h4
  refine h g c w' ⟨?_, ?_⟩ h2 h3
  · rw [flatK_append]
    have e : flatK [q] = cells5 q := by simp [flatK]
    rw [e, List.length_append]
    exact h1
  · intro y hy
    have key : ∀ y, Kid w B kv.ownBlock d y → Kid w' B (some g) d y := fun y hk => by
      obtain ⟨z, lo, hi, k1, k2, k3, k4, k5⟩ := hk.kept h2 (fun q hq => .inr hq)
      obtain ⟨_, lo', hi', j1, j2, j3, j4, j5⟩ := hk
      have hs : Same lo' hi' w w' := fun b b1 b2 => h2.block b (by omega) (fun e => by rcases j5 b e.symm with h | h <;> omega)
      refine ⟨z, lo', hi', j1.kept hs, j2.kept hs, j3, Nat.le_trans j4 h2.size, fun q hq => ?_⟩
      obtain rfl : g = q := by simpa using hq
      rcases h3 with h | h
      · exact j5 g h
      · exact .inr (by omega)
    rcases List.mem_append.1 hy with h' | h'
    · exact key y (hK.kid y h')
    · obtain rfl := List.mem_singleton.1 h'
      exact key _ hq
end
end Go.Proofs.YtnchgeiinkaefaaGreatDoor.Rule
end
