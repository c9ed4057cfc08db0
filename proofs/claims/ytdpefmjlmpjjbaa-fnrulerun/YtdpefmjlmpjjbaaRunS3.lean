/-
  spec's run of a tariff: eval, where kids are run.
-/
import Derived.Test.YtdpefmjlmpjjbaaRunS2
namespace Go.Proofs.Ytdpefmjlmpjjbaa.Rule
set_option linter.unusedVariables false
open Go.RowKit Tiers
open Kinds (kidsK)
open Coin (okB addV addB timesV fitB partV partB)
open Draw (grown_trans grown_none grown_of_below below_of)

/-- from o on block b holds an expression -/
def KidC (W : World) (b o : Nat) (f : Ex) (ka : Option Addr) (kc : Nat) (ta : Option Addr) (tc : Nat) : Prop :=
  W.cell? ⟨b, o, none⟩ = some (.int .i64 f.kind) ∧ W.cell? ⟨b, o + 1, none⟩ = some (.int .i64 f.num) ∧ W.cell? ⟨b, o + 2, none⟩ = some (.string f.meter) ∧ W.cell? ⟨b, o + 3, none⟩ = some (.slice ka f.kids.length kc) ∧ W.cell? ⟨b, o + 4, none⟩ = some (.slice ta f.tiers.length tc)
theorem KidC.same {W W' : World} {b o : Nat} {f : Ex} {ka : Option Addr} {kc : Nat} {ta : Option Addr} {tc : Nat} (h : KidC W b o f ka kc ta tc) (hb : W'.heap[b]? = W.heap[b]?) : KidC W' b o f ka kc ta tc :=
  ⟨(World.cell?_of_block (w := W) hb).trans h.1, (World.cell?_of_block (w := W) hb).trans h.2.1, (World.cell?_of_block (w := W) hb).trans h.2.2.1, (World.cell?_of_block (w := W) hb).trans h.2.2.2.1, (World.cell?_of_block (w := W) hb).trans h.2.2.2.2⟩
/-- a kid in its row -/
theorem kidEV {lo hi : Nat} {W : World} {d b o : Nat} {l : List Ex} (hc : ∀ i, i < l.length → ∃ kv tv, (W.cell? ⟨b, o + i * 5, none⟩ = some (.int .i64 (l.getD i E0).kind) ∧ W.cell? ⟨b, o + i * 5 + 1, none⟩ = some (.int .i64 (l.getD i E0).num) ∧ W.cell? ⟨b, o + i * 5 + 2, none⟩ = some (.string (l.getD i E0).meter) ∧
        W.cell? ⟨b, o + i * 5 + 3, none⟩ = some kv ∧ W.cell? ⟨b, o + i * 5 + 4, none⟩ = some tv) ∧
        ((l.getD i E0).meter.size ≤ maxLen ∧ (l.getD i E0).tiers.length ≤ maxLen) ∧ ES lo hi W d kv (l.getD i E0).kids ∧ TL lo hi W tv (l.getD i E0).tiers)
    (i : Nat) (hi' : i < l.length) : ∃ ka kc ta tc, KidC W b (o + i * 5) (l.getD i E0) ka kc ta tc ∧ EV lo hi W d (exV (l.getD i E0) ka kc ta tc) (l.getD i E0) := by
  obtain ⟨kv, tv, ⟨e0, e1, e2, e3, e4⟩, hz, hk, ht⟩ := hc i hi'
  have hE : EV lo hi W d (.agg #[.int .i64 (l.getD i E0).kind, .int .i64 (l.getD i E0).num, .string (l.getD i E0).meter, kv, tv]) (l.getD i E0) := ⟨kv, tv, rfl, hz, hk, ht⟩
  obtain ⟨ta, tc, rfl⟩ := ht.form
  obtain ⟨ka, kc, rfl, _⟩ := hk.form
  exact ⟨ka, kc, ta, tc, ⟨e0, e1, e2, e3, e4⟩, hE⟩
theorem RunC.own {W W' : World} {P : Nat} {uv : Value} {l c : Nat} (h : RunC W P uv l c) (hb : W'.heap[P]? = W.heap[P]?) : RunC W' P uv l c := by
  obtain ⟨h0, h1, h2, f1, f2⟩ := h
  refine ⟨(World.cell?_of_block (w := W) hb).trans h0, (World.cell?_of_block (w := W) hb).trans h1, (World.cell?_of_block (w := W) hb).trans h2, ?_, ?_⟩
  · simp only [World.frozen?] at f1 ⊢; rw [hb]; exact f1
  · simp only [World.frozen?] at f2 ⊢; rw [hb]; exact f2

theorem Box.same {W W' : World} {B : Nat} {e : Ex} {ka : Option Addr} {kc : Nat} {ta : Option Addr} {tc : Nat} (h : Box W B e ka kc ta tc) (hb : W'.heap[B]? = W.heap[B]?) : Box W' B e ka kc ta tc :=
  ⟨(World.cell?_of_block (w := W) hb).trans h.1, (World.cell?_of_block (w := W) hb).trans h.2.1, (World.cell?_of_block (w := W) hb).trans h.2.2.1, (World.cell?_of_block (w := W) hb).trans h.2.2.2.1, (World.cell?_of_block (w := W) hb).trans h.2.2.2.2⟩
/-- told or over -/
theorem Rest.fin {us : List Uses.U} {e : Ex} {vs : List Int} (l : Nat) (hn : nextM e.kind vs = none) : Rest us e vs l (if valB us e vs = true then valV us e vs else 0) (overC (valB us e vs)) l := by
  cases h : valB us e vs
  · exact Rest.over hn h
  · exact Rest.val hn h
theorem EvP.fin {us : List Uses.U} {e : Ex} {vs : List Int} {l l1 : Nat} {w w' : World} {P : Nat} {uv : Value} (hgo : ∀ r c l', Rest us e vs l1 r c l' → Ev us e (l + 1) r c l') (hn : nextM e.kind vs = none) (hl : l1 ≤ l) (hok : valB us e vs = true → okB (valV us e vs) = true) (hg : w.grownBy w' (some P)) (hR : RunC w' P uv l1 0) :
    EvP us e (l + 1) w P uv (.returned (.int .i64 (valV us e vs))) (overW w' P (valB us e vs)) := by
  refine ⟨_, _, _, l1, rfl, hgo _ _ _ (Rest.fin l1 hn), fun h => ?_, by omega, by cases valB us e vs <;> decide, grown_trans hg (grown_over _ _ _), hR.over _⟩
  cases hv : valB us e vs
  · rw [hv] at h; cases h
  · exact ⟨rfl, hok hv⟩
theorem EvP.bad {us : List Uses.U} {e : Ex} {vs : List Int} {l l1 i : Nat} {w w' : World} {P : Nat} {uv : Value} {n' : Int} {c l2 : Nat} (hgo : ∀ r c l', Rest us e vs l1 r c l' → Ev us e (l + 1) r c l') (hn : nextM e.kind vs = some i) (hl : l1 ≤ l) (hev : Ev us (e.kids.getD i E0) l1 n' c l2) (hc : ¬ c = 0) (h2 : l2 ≤ l1) (hc2 : c ≤ 2) (hg : w.grownBy w' (some P)) (hR : RunC w' P uv l2 c) :
    EvP us e (l + 1) w P uv (.returned (.int .i64 0)) w' :=
  ⟨_, _, _, l2, rfl, hgo _ _ _ (Rest.bad hn hev hc h2), fun h => absurd h hc, by omega, hc2, hg, hR⟩
/-- an if comes to what its second or third kid comes to -/
theorem EvP.if {us : List Uses.U} {e : Ex} {a : Int} {l l1 i : Nat} {w w1 w' : World} {P : Nat} {uv : Value} {x : Ending} (hk : e.kind = 9) (hgo : ∀ r c l', Rest us e [a] l1 r c l' → Ev us e (l + 1) r c l') (hn : nextM e.kind [a] = some i) (hl : l1 ≤ l) (h : EvP us (e.kids.getD i E0) l1 w1 P uv x w') (hg : w.grownBy w1 (some P)) :
    EvP us e (l + 1) w P uv x w' := by
  obtain ⟨n, n', c, l2, rfl, hev, hok, hl2, hc2, hg2, hR2⟩ := h
  by_cases hc : c = 0
  · subst hc
    obtain ⟨rfl, ho⟩ := hok rfl
    have e1 : valB us e [a, n'] = true := by unfold valB; rw [if_neg (by omega), if_neg (by omega), if_neg (by omega), if_pos hk]
    have e2 : valV us e [a, n'] = n' := by unfold valV; rw [if_neg (by omega), if_neg (by omega), if_neg (by omega), if_pos hk]; rfl
    have e3 : nextM e.kind [a, n'] = none := by rw [hk]; rfl
    have := Rest.val (us := us) (l := l2) e3 e1
    rw [e2] at this
    exact ⟨n', n', 0, l2, rfl, hgo _ _ _ (Rest.kid hn hev ho hl2 this), fun _ => ⟨rfl, ho⟩, by omega, hc2, grown_trans hg hg2, hR2⟩
  · exact ⟨n, 0, c, l2, rfl, hgo _ _ _ (Rest.bad hn hev hc hl2), fun h => absurd h hc, by omega, hc2, grown_trans hg hg2, hR2⟩

set_option maxHeartbeats 3200000 in
set_option maxRecDepth 100000 in
theorem eval_kids (us : List Uses.U) {d : Nat} (H : EvalS us d) (w0 : World) (uv : Value) (lo hi b o cap : Nat) (ta : Option Addr) (tc : Nat) (e : Ex) (l : Nat) (w : World) (hl : l ≤ 1000) (hU : Uses.UR w0 uv us) (hhi : hi ≤ w0.heap.size) (ha : allB e = true) (hw : wt e ≤ 1048576) (hB : Below w0.heap.size w0 w) (hR : RunC w w0.heap.size uv (l + 1) 0)
    (hk1 : e.kind ≠ 1) (hk2 : e.kind ≠ 2) (k1 : lo ≤ b) (k2 : b < hi) (hT : TR w0 (.slice ta e.tiers.length tc) e.tiers)
    (hc : ∀ i, i < e.kids.length → ∃ ka kc ta tc, KidC w0 b (o + i * 5) (e.kids.getD i E0) ka kc ta tc ∧ EV lo hi w0 d (exV (e.kids.getD i E0) ka kc ta tc) (e.kids.getD i E0)) :
    Calls Try.prog 15 #[.pointer (some ⟨w0.heap.size, 0, none⟩), exV e (some ⟨b, o, none⟩) cap ta tc] w fun x w' => EvP us e (l + 1) w w0.heap.size uv x w' := by
  obtain ⟨q1, q2, q3, q4⟩ := node_parts (all_node ha)
  have hlen : 1 ≤ e.kids.length := by
    have : 1 ≤ kidsK e.kind := by
      unfold kidsK; rw [if_neg (by omega)]
      split
      · omega
      split
      · omega
      rw [if_pos (by omega)]; omega
    omega
  have hP := hR.lt
  have HH := hide H
  have HB := hide hB
  have HU := hide hU
  have HC := hide hc
  have HA : Hid (∀ i, i < e.kids.length → allB (e.kids.getD i E0) = true ∧ wt (e.kids.getD i E0) ≤ 1048576) := hide (fun i hi => ⟨all_kid ha hi, wt_kid hi hw⟩)
  have hn0 : nextM e.kind [] = some 0 := by
    unfold nextM
    split
    · rfl
    · rw [if_pos (by simp only [List.length_nil]; omega)]; rfl
  have HN0 := hide hn0
  obtain ⟨W1, hW1⟩ : ∃ W1, (w.setCell ⟨w0.heap.size, 1, none⟩ (.int .i64 (l : Int))).alloc (.cells #[.int .i64 e.kind, .int .i64 e.num, .string e.meter, .slice (some ⟨b, o, none⟩) e.kids.length cap, .slice ta e.tiers.length tc] 26) = W1 := ⟨_, rfl⟩
  have HW1 := hide hW1
  have HG1 : Hid (w.grownBy W1 (some w0.heap.size)) := hide (by rw [← hW1]; exact grown_trans (grown_set _ _ _ _) (World.grownBy_alloc _ _ _))
  have HRW : Hid (RunC W1 w0.heap.size uv l 0) := hide (by rw [← hW1]; exact (hR.left l).kept (below_alloc _ _))
  have HB1 : Hid (Below w0.heap.size w0 W1) := hide (below_of hB (Nat.le_refl _) (unhide HG1))
  have HX : Hid (Box W1 w.heap.size e (some ⟨b, o, none⟩) cap ta tc) := hide (by
    rw [← hW1]; have := Box.new (w.setCell ⟨w0.heap.size, 1, none⟩ (.int .i64 (l : Int))) e (some ⟨b, o, none⟩) cap ta tc 26
    simpa using this)
  have y2 : w.heap.size < W1.heap.size := by rw [← hW1]; simp
  have hbP : b < w0.heap.size := by omega
  have hbw : b < w.heap.size := by omega
  have hne : ¬ b = w0.heap.size := by omega
  obtain ⟨ka0, kc0, ta0, tc0, hc0, hE0⟩ := hc 0 (by omega)
  have HE0 := hide hE0
  rw [Nat.zero_mul, Nat.add_zero] at hc0
  have hc0' := hc0.same (hB.block b hbP)
  obtain ⟨z0, z1, z2, z3, z4⟩ := hc0'
  have A0 := hide (unhide HA 0 (by omega))
  generalize hf0 : e.kids.getD 0 E0 = f0 at z0 z1 z2 z3 z4 HE0 A0
  have HF0 := hide hf0
  have hul : (0 : Int) < (e.kids.length : Int) := by omega
  have hkl : (e.kids.length : Int) ≤ 3 := by
    rw [q3]; unfold kidsK; split
    · omega
    split
    · omega
    split
    · omega
    split <;> omega
  obtain ⟨h0, h1, h2, f1, f2⟩ := hR
  have e1 : ((l + 1 : Nat) : Int) = (l : Int) + 1 := by omega
  rw [e1] at h1
  have e2 : ((l : Int) + 1 == 0) = false := beq_eq_false_iff_ne.2 (by omega)
  have e3 : (l : Int) + 1 - 1 = (l : Int) := by omega
  have g1 : (e.kind == 1) = false := beq_eq_false_iff_ne.2 hk1
  have g2 : (e.kind == 2) = false := beq_eq_false_iff_ne.2 hk2
  have HT := hide hT
  have htl : e.tiers.length ≤ 1048576 := by have := wt_eq e; omega
  have Q3 := hide q3
  clear hW1 hU hB hc hE0 hc0 hf0 H hn0 q4 hT q3 ha hw e1
  go_enter Try.func15, Try.ntmps15
  go_wp2_with (fail)
  rw [unhide HW1]
  refine (unhide HH w0 uv lo hi _ f0 l W1 (unhide HU) (unhide HE0) hhi (unhide A0).1 (unhide A0).2 hl (unhide HB1) (unhide HRW)).mono ?_
  rintro x w2 ⟨a, a', c, l1, rfl, hev, hok, hl1, hc2, hg2, hR2⟩
  rw [← unhide HF0] at hev
  have HEV := hide hev
  have HOK := hide hok
  have HR2 := hide hR2
  have HG2 := hide (grown_trans (unhide HG1) hg2)
  have HB2 := hide (below_of (unhide HB1) (Nat.le_refl _) hg2)
  have HX2 := hide ((unhide HX).same (hg2.block w.heap.size y2 (by simp; omega)))
  have hs2 := hg2.size
  obtain ⟨h0', h1', h2', f1', f2'⟩ := hR2
  obtain ⟨x0, x1, x2, x3, x4⟩ := unhide HX2
  clear z0 z1 z2 z3 z4 h0 h1 h2 f1 f2 e2 e3 g1 g2 hev hok hg2 HE0 A0 HF0 HW1 HRW HX HG1 HB1
  by_cases c0 : c = 0
  rotate_left
  · have cp : (0 : Int) < (c : Int) := by omega
    go_wp2_with (fail)
    go_ret
    exact EvP.bad (vs := []) (fun r c l' h => Ev.go h) (unhide HN0) (Nat.le_refl _) (unhide HEV) c0 hl1 hc2 (unhide HG2) (unhide HR2)
  subst c0
  obtain ⟨rfl, ho⟩ := unhide HOK rfl
  have HGO : Hid (∀ r c l', Rest us e [a'] l1 r c l' → Ev us e (l + 1) r c l') := hide (fun r c l' h => Ev.go (Rest.kid (unhide HN0) (unhide HEV) ho hl1 h))
  have HO := hide ho
  clear HOK HEV ho
  by_cases k6 : e.kind = 6
  · have g6 : (e.kind == 6) = true := beq_iff_eq.2 k6
    have e1 : valB us e [a'] = partB a' e.num 10000 := by unfold valB; rw [if_neg (by omega), if_neg (by omega), if_pos k6]; rfl
    have e2 : valV us e [a'] = partV a' e.num 10000 := by unfold valV; rw [if_neg (by omega), if_neg (by omega), if_pos k6]; rfl
    have HFIN := hide (fun w' => @EvP.fin us e [a'] l l1 w w' w0.heap.size uv (unhide HGO) (by rw [k6]; rfl) hl1 (fun _ => by rw [e2]; exact Coin.okB_true (Coin.part_bd _ _ _)))
    rw [e1, e2] at HFIN
    clear e1 e2 k6
    go_wp2_with (fail)
    refine (Coin.partS a' e.num 10000 w2).mono ?_
    rintro x w3 ⟨rfl, k, rfl⟩
    have HR3 : Hid (RunC (w2.drewN k) w0.heap.size uv l1 0) := hide ((unhide HR2).own rfl)
    generalize partV a' e.num 10000 = pv at *
    generalize partB a' e.num 10000 = pb at *
    go_wp2_with (fail)
    refine (overS w0.heap.size uv l1 _ _ _ (unhide HR3)).mono ?_
    rintro x w4 ⟨rfl, rfl⟩
    go_wp2_with (fail)
    go_ret
    exact unhide HFIN _ ⟨(unhide HG2).os, (unhide HG2).tape, (unhide HG2).output, (unhide HG2).size, (unhide HG2).block⟩ (unhide HR3)
  have g6 : (e.kind == 6) = false := beq_eq_false_iff_ne.2 k6
  by_cases k10 : e.kind = 10
  · have g10 : (e.kind == 10) = true := beq_iff_eq.2 k10
    have e1 : valB us e [a'] = stepB e.tiers a' := by unfold valB; rw [if_neg (by omega), if_neg (by omega), if_neg (by omega), if_neg (by omega), if_pos k10]; rfl
    have e2 : valV us e [a'] = stepV e.tiers a' := by unfold valV; rw [if_neg (by omega), if_neg (by omega), if_neg (by omega), if_neg (by omega), if_pos k10]; rfl
    have HFIN := hide (fun w' => @EvP.fin us e [a'] l l1 w w' w0.heap.size uv (unhide HGO) (by rw [k10]; rfl) hl1 (fun _ => by rw [e2]; exact Coin.okB_true (Tiers.stepV_bd _ _)))
    rw [e1, e2] at HFIN
    clear e1 e2 k10
    go_wp2_with (fail)
    refine (stepS _ e.tiers a' w2 ((unhide HT).kept (unhide HB2)) htl).mono ?_
    rintro x w3 ⟨rfl, hb3⟩
    have HR3 := hide ((unhide HR2).kept hb3)
    have HG3 := hide (grown_trans (unhide HG2) (grown_of_below hb3 _))
    clear hb3
    generalize stepV e.tiers a' = pv at *
    generalize stepB e.tiers a' = pb at *
    go_wp2_with (fail)
    refine (overS w0.heap.size uv l1 _ _ _ (unhide HR3)).mono ?_
    rintro x w4 ⟨rfl, rfl⟩
    go_wp2_with (fail)
    go_ret
    exact unhide HFIN _ (unhide HG3) (unhide HR3)
  have g10 : (e.kind == 10) = false := beq_eq_false_iff_ne.2 k10
  by_cases k9 : e.kind = 9
  · have g9 : (e.kind == 9) = true := beq_iff_eq.2 k9
    have l3 : (e.kids.length : Int) = 3 := by rw [unhide Q3, k9]; rfl
    by_cases apos : 0 < a'
    · have hn1 : nextM e.kind [a'] = some 1 := by rw [k9]; show (if 0 < a' then some 1 else some 2) = _; rw [if_pos apos]
      have HIF := hide (fun x w' => @EvP.if us e a' l l1 1 w w2 w' w0.heap.size uv x k9 (unhide HGO) hn1 hl1)
      obtain ⟨ka1, kc1, ta1, tc1, hc1, hE1⟩ := unhide HC 1 (by omega)
      have A1 := hide (unhide HA 1 (by omega))
      have HE1 := hide hE1
      rw [Nat.one_mul] at hc1
      obtain ⟨z0, z1, z2, z3, z4⟩ := hc1.same ((unhide HB2).block b hbP)
      clear hE1 hc1 hn1 k9
      generalize e.kids.getD 1 E0 = f1 at *
      go_wp2_with (fail)
      refine (unhide HH w0 uv lo hi _ f1 l1 w2 (unhide HU) (unhide HE1) hhi (unhide A1).1 (unhide A1).2 (by omega) (unhide HB2) (unhide HR2)).mono ?_
      rintro x w3 hev
      have hev' := hev
      obtain ⟨n, n', c, l2, rfl, _, _, _, _, _, _⟩ := hev'
      have HEV := hide (unhide HIF _ _ hev (unhide HG2))
      clear hev
      go_wp2_with (fail)
      go_ret
      exact unhide HEV
    · have hn1 : nextM e.kind [a'] = some 2 := by rw [k9]; show (if 0 < a' then some 1 else some 2) = _; rw [if_neg apos]
      have HIF := hide (fun x w' => @EvP.if us e a' l l1 2 w w2 w' w0.heap.size uv x k9 (unhide HGO) hn1 hl1)
      obtain ⟨ka1, kc1, ta1, tc1, hc1, hE1⟩ := unhide HC 2 (by omega)
      have A1 := hide (unhide HA 2 (by omega))
      have HE1 := hide hE1
      rw [show o + 2 * 5 = o + 10 from rfl] at hc1
      obtain ⟨z0, z1, z2, z3, z4⟩ := hc1.same ((unhide HB2).block b hbP)
      clear hE1 hc1 hn1 k9
      generalize e.kids.getD 2 E0 = f1 at *
      go_wp2_with (fail)
      refine (unhide HH w0 uv lo hi _ f1 l1 w2 (unhide HU) (unhide HE1) hhi (unhide A1).1 (unhide A1).2 (by omega) (unhide HB2) (unhide HR2)).mono ?_
      rintro x w3 hev
      have hev' := hev
      obtain ⟨n, n', c, l2, rfl, _, _, _, _, _, _⟩ := hev'
      have HEV := hide (unhide HIF _ _ hev (unhide HG2))
      clear hev
      go_wp2_with (fail)
      go_ret
      exact unhide HEV
  have g9 : (e.kind == 9) = false := beq_eq_false_iff_ne.2 k9
  have hpk := pair_cases ⟨q1, q2⟩ hk1 hk2 k6 k9 k10
  have l2' : (e.kids.length : Int) = 2 := by rw [unhide Q3]; rcases hpk with h | h | h | h | h <;> (rw [h]; rfl)
  have hn1 : nextM e.kind [a'] = some 1 := by rcases hpk with h | h | h | h | h <;> (rw [h]; rfl)
  have hn2 : ∀ b', nextM e.kind [a', b'] = none := fun b' => by rcases hpk with h | h | h | h | h <;> (rw [h]; rfl)
  have e1 : ∀ b', valB us e [a', b'] = pairB e.kind a' b' := fun b' => by unfold valB; rw [if_neg (by omega), if_neg (by omega), if_neg (by omega), if_neg (by omega), if_neg (by omega)]; rfl
  have e2 : ∀ b', valV us e [a', b'] = pairV e.kind a' b' := fun b' => by unfold valV; rw [if_neg (by omega), if_neg (by omega), if_neg (by omega), if_neg (by omega), if_neg (by omega)]; rfl
  obtain ⟨ka1, kc1, ta1, tc1, hc1, hE1⟩ := unhide HC 1 (by omega)
  have A1 := hide (unhide HA 1 (by omega))
  have HE1 := hide hE1
  rw [Nat.one_mul] at hc1
  obtain ⟨z0, z1, z2, z3, z4⟩ := hc1.same ((unhide HB2).block b hbP)
  have HN1 := hide hn1
  have HN2 := hide hn2
  have E1 := hide e1
  have E2 := hide e2
  have HPK := hide hpk
  clear hE1 hc1 hn1 hn2 e1 e2 hpk
  generalize hf1 : e.kids.getD 1 E0 = f1 at z0 z1 z2 z3 z4 HE1 A1
  have HF1 := hide hf1
  clear hf1
  go_wp2_with (fail)
  refine (unhide HH w0 uv lo hi _ f1 l1 w2 (unhide HU) (unhide HE1) hhi (unhide A1).1 (unhide A1).2 (by omega) (unhide HB2) (unhide HR2)).mono ?_
  rintro x w3 ⟨m, m', c, l2, rfl, hev, hok, hl2, hc3, hg3, hR3⟩
  rw [← unhide HF1] at hev
  have HEV := hide hev
  have HOK := hide hok
  have HR3 := hide hR3
  have HG3 := hide (grown_trans (unhide HG2) hg3)
  have HX3 := (unhide HX2).same (hg3.block w.heap.size (by omega) (by simp; omega))
  clear x0 x1 x2 x3 x4 h0' h1' h2' f1' f2' z0 z1 z2 z3 z4 hev hok hg3 HX2 HR2 HG2 HE1 A1
  obtain ⟨h0', h1', h2', f1', f2'⟩ := hR3
  obtain ⟨x0, x1, x2, x3, x4⟩ := HX3
  by_cases c0 : c = 0
  rotate_left
  · have cp : (0 : Int) < (c : Int) := by omega
    go_wp2_with (fail)
    go_ret
    exact EvP.bad (vs := [a']) (unhide HGO) (unhide HN1) hl1 (unhide HEV) c0 hl2 hc3 (unhide HG3) (unhide HR3)
  subst c0
  obtain ⟨rfl, ho2⟩ := unhide HOK rfl
  have HFIN := hide (fun w' => @EvP.fin us e [a', m'] l l2 w w' w0.heap.size uv (fun r c l' h => unhide HGO r c l' (Rest.kid (unhide HN1) (unhide HEV) ho2 hl2 h)) (unhide HN2 m') (by omega) (fun h => by
    rw [unhide E1] at h; rw [unhide E2]; exact pair_bd (unhide HO) ho2 h))
  rw [unhide E1, unhide E2] at HFIN
  have HO2 := hide ho2
  clear HOK HEV ho2 E1 E2
  go_wp2_with (fail)
  refine (calcS w0.heap.size uv l2 _ a' m' _ (unhide HR3) (unhide HPK) (unhide HO2)).mono ?_
  rintro x w4 ⟨rfl, rfl⟩
  generalize pairV e.kind a' m' = pv at *
  generalize pairB e.kind a' m' = pb at *
  go_wp2_with (fail)
  go_ret
  exact unhide HFIN _ (unhide HG3) (unhide HR3)
end Go.Proofs.Ytdpefmjlmpjjbaa.Rule
