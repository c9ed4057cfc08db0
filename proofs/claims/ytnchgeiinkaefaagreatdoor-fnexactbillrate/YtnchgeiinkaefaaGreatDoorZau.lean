/-
  Texts of this proof laid together, in build order; each says of itself what it holds.
-/
import Derived.Test.YtnchgeiinkaefaaGreatDoorZap
import Derived.Test.YtnchgeiinkaefaaGreatDoorZar
import Derived.Test.YtnchgeiinkaefaaGreatDoorZat
import Derived.RangeFuncNested
import Derived.RangeFuncBound
import Derived.RangeFuncCalls
import Derived.RangeFuncLeaves
import Derived.Shelf.Abstract
import Derived.Shelf.RegionOpen
import Derived.OwnWalkIn
import Derived.TacticsInMore
import Derived.LoopNIn
import Derived.LoopIn
import Derived.Test.YtnchgeiinkaefaaGreatDoorZai
import Derived.Test.YtnchgeiinkaefaaGreatDoorZao
import Derived.Deep.AppendLies
import Derived.Deep.RegionHeldLaw
import Derived.OwnWalk
import Derived.Deep.QuietTactic
import Derived.BigQuiet
import Derived.Test.YtnchgeiinkaefaaGreatDoorProg
section
/-
  The closure that netRows hands out: the row of each line, without its tax, or the error with which its rule ends.
-/
namespace Go.Proofs.YtnchgeiinkaefaaGreatDoor.Bill
set_option linter.unusedVariables false
open Go.RowKit Evs Go.Shelf
open Rule (EnvR IsRule OX readRI ReadOutI RunOf runS runI)
open Uses (U UR UC)

attribute [local go_sem] Oper.semAt_some

/-- what a round keeps: all that lies below B, and every row of cells from B2 on -/
structure KpC (B B2 : Nat) (W W' : World) : Prop where
  os : W'.os = W.os
  tape : W'.tape = W.tape
  output : W'.output = W.output
  size : W.heap.size ≤ W'.heap.size
  same : ∀ (j : Nat) (o : Obj), W.heap[j]? = some o → (j < B ∨ B2 ≤ j ∧ o.isCells = true) → W'.heap[j]? = some o
theorem KpC.trans {B B2 : Nat} {A C D : World} (h : KpC B B2 A C) (k : KpC B B2 C D) : KpC B B2 A D :=
  ⟨k.os.trans h.os, k.tape.trans h.tape, k.output.trans h.output, Nat.le_trans h.size k.size, fun j o hj ho => k.same j o (h.same j o hj ho) ho⟩
theorem KpC.put {B B2 : Nat} {n : Nat} (hn : B ≤ n) (W : World) (l : Nat) (o o' : Obj) (hl : n ≤ l) (h : W.heap[l]? = some o) (hc : o.isCells = false) (_ : o.isWalk = false) : KpC B B2 W (W.putObj l o') := by
  have hg := grownBy_putObj' W l o'
  refine ⟨hg.os, hg.tape, hg.output, hg.size, fun j x hj hx => ?_⟩
  have hjs : j < W.heap.size := by
    refine Nat.lt_of_not_le fun hle => ?_
    rw [Array.getElem?_eq_none hle] at hj; simp at hj
  have hne : some j ≠ some l := by
    intro e
    simp only [Option.some.injEq] at e
    subst e
    rw [hj] at h
    simp only [Option.some.injEq] at h
    subst h
    rcases hx with hx | ⟨_, hx⟩
    · omega
    · rw [hc] at hx; simp at hx
  exact (hg.block j hjs hne).trans hj
theorem KpC.cell {B B2 : Nat} {W W' : World} (h : KpC B B2 W W') {j o : Nat} {v : Value} (hc : W.cell? ⟨j, o, none⟩ = some v) (hj : j < B ∨ B2 ≤ j) : W'.cell? ⟨j, o, none⟩ = some v := by
  obtain ⟨x, hx, hxc⟩ := cells_of_cell hc
  have := h.same j x hx (hj.imp id (fun e => ⟨e, hxc⟩))
  exact (World.cell?_of_block (this.trans hx.symm)).trans hc
theorem KpC.below {B B2 : Nat} {W W' : World} (h : KpC B B2 W W') (hB : B ≤ W.heap.size) : Below B W W' :=
  ⟨h.os, h.tape, h.output, h.size, fun j hj => by
    have hjs : j < W.heap.size := by omega
    have hx : W.heap[j]? = some W.heap[j] := Array.getElem?_eq_getElem hjs
    rw [h.same j _ hx (.inl hj), hx]⟩
theorem KpC.grown {B B2 : Nat} {W W' : World} {r : Option Nat} (hg : W.grownBy W' r) (hr : ∀ j, r = some j → B ≤ j ∧ j < B2) : KpC B B2 W W' :=
  ⟨hg.os, hg.tape, hg.output, hg.size, fun j o hj ho => by
    have hjs : j < W.heap.size := by
      refine Nat.lt_of_not_le fun hle => ?_
      rw [Array.getElem?_eq_none hle] at hj; simp at hj
    refine (hg.block j hjs ?_).trans hj
    intro e
    have := hr j e.symm
    omega⟩
theorem KpC.ofBelow {B B2 : Nat} {W W' : World} (h : Below W.heap.size W W') : KpC B B2 W W' := KpC.grown (growB h none) (by simp)
theorem UC.keptC {B B2 : Nat} {W W' : World} {b o : Nat} {l : List U} (h : UC W b o l) (hk : KpC B B2 W W') (hb : B2 ≤ b) : UC W' b o l :=
  ⟨Nat.lt_of_lt_of_le h.1 hk.size, fun i hi => ⟨hk.cell (h.2 i hi).1 (.inr hb), hk.cell (h.2 i hi).2 (.inr hb)⟩⟩

/-- what is yielded: a row's name, what it comes to, and whether its rule came to anything -/
abbrev Y := ByteArray × Int × Bool
abbrev yV (x : Y) : Array Value := #[.agg #[.string x.1, .int .i64 x.2.1, .int .i64 0], if x.2.2 then .nilIface else .iface 84 (.int .i64 6)]
noncomputable def seqY (us : List U) (t : List E) (k : Nat) : List Y := (List.range k).map fun j => ((t.getD j E0).1, netJ us t j, hasJ us t j)
theorem seqY_len (us : List U) (t : List E) (k : Nat) : (seqY us t k).length = k := by simp [seqY]
theorem seqY_succ (us : List U) (t : List E) (k : Nat) : seqY us t (k + 1) = seqY us t k ++ [((t.getD k E0).1, netJ us t k, hasJ us t k)] := by
  unfold seqY; rw [List.range_succ, List.map_append]; rfl
theorem seqY_pre (us : List U) (t : List E) {k n : Nat} (h : k ≤ n) : seqY us t k <+: seqY us t n := by
  unfold seqY
  obtain ⟨m, rfl⟩ : ∃ m, n = k + m := ⟨n - k, by omega⟩
  rw [List.range_add, List.map_append]
  exact ⟨_, rfl⟩

set_option maxRecDepth 100000 in
set_option maxHeartbeats 4000000 in
theorem net1 (n : Nat) (hn : 1 ≤ n) (lp Bt Bu B2 : Nat) (w0 : World) (ta : Option Addr) (tc : Nat) (t : List E) (uv : Value) (us : List U) (hT : ER w0 (.slice ta t.length tc) t) (hts : ∀ u ∈ t, u.1.size ≤ maxLen ∧ u.2.1.size ≤ maxLen) (hEn : EnvR w0) (hrb : ∀ j, j < t.length → ruleB (t.getD j E0).2.1 = true) (hul : us.length ≤ 1048576) (h6 : t.length ≤ 6)
    (h02 : w0.heap.size ≤ B2) (hBt2 : B2 ≤ Bt) (hBu2 : B2 ≤ Bu) (J Jx : List Y → World → Prop)
    (W : World) (hW0 : Below w0.heap.size w0 W) (hJa : AbidesFrom W.heap.size J)
    (hY : ∀ pre x W1, J pre W1 → pre.length < t.length → YieldAt Fence.wide (n - 1) Tryz.prog lp (yV x) W1 fun e W' =>
      (e = .returned (.bool true) ∧ J (pre ++ [x]) W' ∧ KpC w0.heap.size B2 W1 W') ∨ (e = .returned (.bool false) ∧ Jx (pre ++ [x]) W'))
    (hBt : W.cell? ⟨Bt, 0, none⟩ = some (.slice ta t.length tc)) (hBu : W.cell? ⟨Bu, 0, none⟩ = some uv) (hU : (us = [] ∧ ∃ a c, uv = .slice a 0 c) ∨ ∃ b o cap, uv = .slice (some ⟨b, o, none⟩) us.length cap ∧ UC W b o us ∧ B2 ≤ b) (h0 : J [] W) :
    CallsIn Fence.wide n Tryz.prog 63 #[.func (.yield lp) #[] #[], .pointer (some ⟨Bt, 0, none⟩), .pointer (some ⟨Bu, 0, none⟩)] W fun e W' => (∃ v, e = .returned v) ∧
      ((∃ ys, ys = seqY us t t.length ∧ J ys W') ∨ (∃ pre, pre <+: seqY us t t.length ∧ Jx pre W')) := by
  have HJ := hide hJa
  have HY := hide hY
  have H0 := hide h0
  have HT := hide hT
  have HTS := hide hts
  have HE := hide hEn
  have HRB := hide hrb
  have HW0 := hide hW0
  have HBU := hide hBu
  obtain ⟨ua, uc, hUF⟩ : ∃ a c, uv = .slice a us.length c := by
    rcases hU with ⟨rfl, a, c, rfl⟩ | ⟨b, o, cap, rfl, _⟩
    · exact ⟨_, _, rfl⟩
    · exact ⟨_, _, rfl⟩
  have HUK : Hid (∀ W', KpC w0.heap.size B2 W W' → UR W' uv us) := hide (fun W' hk => by
    rcases hU with ⟨rfl, a, c, rfl⟩ | ⟨b, o, cap, rfl, hc, hb⟩
    · exact .inl ⟨rfl, a, c, rfl⟩
    · exact .inr ⟨b, o, cap, rfl, UC.keptC hc hk hb⟩)
  subst hUF
  have hz0 := hW0.size
  clear hJa hY h0 hT hts hEn hrb hW0 hU hBu
  refine callsIn_of_wp Tryz.func63 rfl trivial ?_ rfl
  simp only [Tryz.ntmps63, List.size_toArray, List.length_cons, List.length_nil, Nat.reduceAdd, Nat.reduceSub, Array.replicate_succ, Array.replicate_zero, List.push_toArray, List.append_toArray, List.nil_append, List.cons_append]
  gi_wp2
  gi_loopw [14] (fun i wr => ∃ k : Nat, k ≤ t.length ∧ i = .int .i64 k ∧ Hid (J (seqY us t k) wr) ∧ Hid (KpC w0.heap.size B2 W wr)) (fun i _ => t.length - (intOf i).toNat)
  case atStart => exact ⟨0, Nat.zero_le _, rfl, H0, hide ⟨rfl, rfl, rfl, Nat.le_refl _, fun _ _ h _ => h⟩⟩
  case round =>
    obtain ⟨k, hk, rfl, hJs, hnx⟩ := hrel
    have hbw : Below w0.heap.size w0 wr := (unhide HW0).trans ((unhide hnx).below hz0)
    have HBW := hide hbw
    by_cases hlt : k < t.length
    · obtain ⟨b2, o2, cap2, hcf, hc⟩ : ∃ b2 o2 cap2, Value.slice ta t.length tc = .slice (some ⟨b2, o2, none⟩) t.length cap2 ∧ EC w0 b2 o2 t := by
        rcases unhide HT with ⟨h, _⟩ | h
        · rw [h] at hlt; simp at hlt
        · exact h
      simp only [Value.slice.injEq, true_and] at hcf
      obtain ⟨rfl, rfl⟩ := hcf
      obtain ⟨c0, c1, c2⟩ := (hc.kept hbw).2 k hlt
      have i1 : (0 : Int) ≤ (k : Int) := by omega
      have i2 : (k : Int) < (t.length : Int) := by omega
      obtain ⟨_, hmz⟩ := unhide HTS (t.getD k E0) (by simp [List.getD, hlt])
      have hrbk := unhide HRB k hlt
      have HSC := hide (seqY_succ us t k)
      have HNJ : Hid (netJ us t k = (netO us (t.getD k E0).2.1).getD 0) := hide (by unfold netJ; rw [if_pos hlt])
      have HHJ : Hid (hasJ us t k = (netO us (t.getD k E0).2.1).isSome) := hide rfl
      have hBuc := (unhide hnx).cell (unhide HBU) (.inr hBu2)
      clear hc hbw
      generalize t.getD k E0 = y at *
      obtain ⟨s, m, q⟩ := y
      simp only at c0 c1 c2 hmz hrbk HSC HNJ HHJ
      gi_wp2_with (fail)
      have ba := Rule.below_alloc wr (.cells #[.string s, .string m, .int .i64 q] 52)
      refine ⟨trivial, (callsIn_wide.2 (readRI m _ hmz ((unhide HE).kept ((unhide HBW).trans (ba.mono (unhide HBW).size))))).mono ?_⟩
      rintro x w1 ⟨v, ok, rfl, hO, hb1⟩
      have hok := rule_out hO
      rw [hrbk] at hok
      subst hok
      obtain ⟨e, kv, tv, d, hI, rfl, hOX⟩ := hO.1 rfl
      have hE := hOX.ev
      simp only at hE
      obtain ⟨ka, kc, ya, yc, hf⟩ := hE.form
      simp only [Rule.exV, Value.agg.injEq, Array.mk.injEq, List.cons.injEq, and_true, true_and] at hf
      obtain ⟨rfl, rfl⟩ := hf
      obtain ⟨q1, hB1, hz1⟩ := Boxes.box1 hb1
      have hwt : Rule.wt e ≤ 1048576 := by
        have h3 := hI.2.2
        have h4 := Rule.exprS_wt 8 _ _ _ hI.read
        simp only [List.length_nil] at h4
        omega
      have HI := hide hI
      have bw := Rule.below_alloc w1 (.cells #[.int .i64 e.kind, .int .i64 e.num, .string e.meter, .slice ka e.kids.length kc, .slice ya e.tiers.length yc] 77)
      have HB2 := hide (hB1.trans (bw.mono (by omega)))
      have n0 := ((q1.below bw (by omega)) 0 _ rfl).1
      have HEV2 := hide (Rule.keptE hE (Nat.le_refl _) bw)
      have HU2 := hide (unhide HUK _ ((unhide hnx).trans (KpC.ofBelow (unhide HB2))))
      have hBu2 := ((unhide HB2).cell (p := ⟨Bu, 0, none⟩) (Rule.lt_of_cell hBuc)).trans hBuc
      clear hO hOX hb1 q1 hB1 c0 c1 c2 bw ba hBuc
      obtain ⟨_, _, _, ⟨sv, sc, st, _, hRun, _⟩, _⟩ := runS us hul d _ _ _ _ e 1000 _ (unhide HEV2) (by simp) hwt (unhide HU2) []
      have HRN := hide hRun
      clear hRun hE hI
      gi_wp2_with (fail)
      refine ⟨trivial, (callsIn_wide.2 (runI us hul d _ _ _ _ e 1000 _ (unhide HEV2) (by simp) hwt (unhide HU2) sv sc st (unhide HRN))).mono ?_⟩
      rintro x w2 ⟨rfl, hb2⟩
      have HK2 := hide ((unhide hnx).trans (KpC.ofBelow ((unhide HB2).trans (hb2.mono (unhide HB2).size))))
      have HJ2 := hide (unhide HJ (seqY us t k) wr w2 none (unhide hJs) (growB ((unhide HB2).trans (hb2.mono (unhide HB2).size)) none) (by simp))
      have n1 := (hb2.cell (p := ⟨wr.heap.size, 0, none⟩) (by simp; omega)).trans n0
      have hsc : 0 ≤ sc ∧ (sc ≠ 0 → sv = 0) := by
        have h2 := unhide HRN
        unfold RunOf at h2
        rw [if_pos ⟨(unhide HI).1, by omega, by omega⟩] at h2
        obtain ⟨n', c', l', _, hc, _, hv, _⟩ := h2
        refine ⟨by omega, fun h => ?_⟩
        rw [hv, if_neg (by omega)]
      obtain ⟨hsc0, hsv0⟩ := hsc
      by_cases hc : sc = 0
      · subst hc
        have HN : NetOf us m (if sv < 0 then 0 else sv) := ⟨e, sv, st, unhide HI, unhide HRN, rfl⟩
        have hnj : netJ us t k = max sv 0 := by
          rw [unhide HNJ, netO_some HN]
          simp only [Option.getD_some]
          split <;> omega
        have hhj : hasJ us t k = true := by rw [unhide HHJ, netO_some HN]; rfl
        have HSQ : Hid (seqY us t (k + 1) = seqY us t k ++ [(s, max sv 0, true)]) := hide (by rw [unhide HSC, hnj, hhj])
        clear HN hnj hhj n0 hBu2 hsv0 hsc0
        obtain ⟨nj, hnj⟩ : ∃ nj, max sv 0 = nj := ⟨_, rfl⟩
        rw [hnj] at HSQ
        obtain ⟨fn, tmps, assign, body, hy, hR⟩ := unhide HY (seqY us t k) (s, nj, true) w2 (unhide HJ2) (by rw [seqY_len]; exact hlt)
        simp only [yV, ↓reduceIte] at hy
        have HR := hide hR
        clear hR hb2
        gi_wp2
        refine (unhide HR).mono ?_
        rintro e3 W3 (⟨rfl, hJ3, hk3⟩ | ⟨rfl, hJx3⟩)
        · have HJ3 : Hid (J (seqY us t (k + 1)) W3) := hide (by rw [unhide HSQ]; exact hJ3)
          have HK3 := hide ((unhide HK2).trans hk3)
          clear hJ3 hk3
          gi_wp2
          go_roundw
          case rel => exact ⟨k + 1, by omega, by go_num, HJ3, HK3⟩
          case measure => simp [intOf]; omega
        · have HJ3 : Hid (Jx (seqY us t (k + 1)) W3) := hide (by rw [unhide HSQ]; exact hJx3)
          clear hJx3
          gi_wp2
          refine bodyPost_ret (results_none rfl _ _ _) rfl ?_
          exact ⟨⟨_, rfl⟩, .inr ⟨_, seqY_pre us t hlt, unhide HJ3⟩⟩
      · have HN : netO us m = none := netO_none (fun n ⟨e', v', f', k1, k2, _⟩ => by
          obtain rfl := (unhide HI).one k1
          exact hc ((unhide HRN).det k2).2.1)
        have hnj : netJ us t k = 0 := by rw [unhide HNJ, HN]; rfl
        have hhj : hasJ us t k = false := by rw [unhide HHJ, HN]; rfl
        have HSQ : Hid (seqY us t (k + 1) = seqY us t k ++ [(s, 0, false)]) := hide (by rw [unhide HSC, hnj, hhj])
        obtain rfl := hsv0 hc
        have hbc : (sc != 0) = true := bne_iff_ne.2 hc
        clear HN hnj hhj n0 hBu2 hsv0 hsc0 hc
        obtain ⟨fn, tmps, assign, body, hy, hR⟩ := unhide HY (seqY us t k) (s, 0, false) w2 (unhide HJ2) (by rw [seqY_len]; exact hlt)
        simp only [yV, ↓reduceIte, Bool.false_eq_true] at hy
        have HR := hide hR
        clear hR hb2
        gi_wp2
        refine (unhide HR).mono ?_
        rintro e3 W3 (⟨rfl, hJ3, hk3⟩ | ⟨rfl, hJx3⟩)
        · have HJ3 : Hid (J (seqY us t (k + 1)) W3) := hide (by rw [unhide HSQ]; exact hJ3)
          have HK3 := hide ((unhide HK2).trans hk3)
          clear hJ3 hk3
          gi_wp2
          go_roundw
          case rel => exact ⟨k + 1, by omega, by go_num, HJ3, HK3⟩
          case measure => simp [intOf]; omega
        · have HJ3 : Hid (Jx (seqY us t (k + 1)) W3) := hide (by rw [unhide HSQ]; exact hJx3)
          clear hJx3
          gi_wp2
          refine bodyPost_ret (results_none rfl _ _ _) rfl ?_
          exact ⟨⟨_, rfl⟩, .inr ⟨_, seqY_pre us t hlt, unhide HJ3⟩⟩
    · have HE2 := hide (show k = t.length by omega)
      have hk2 := unhide HE2
      subst hk2
      gi_wp2
      go_end0
      exact ⟨⟨_, rfl⟩, .inl (unhide hJs)⟩

/-- what netRows hands out, as the loop over it wants it -/
theorem net_stops (n : Nat) (hn : 1 ≤ n) (Bt Bu B2 : Nat) (w0 : World) (ta : Option Addr) (tc : Nat) (t : List E) (uv : Value) (us : List U) (hT : ER w0 (.slice ta t.length tc) t) (hts : ∀ u ∈ t, u.1.size ≤ maxLen ∧ u.2.1.size ≤ maxLen) (hEn : EnvR w0) (hrb : ∀ j, j < t.length → ruleB (t.getD j E0).2.1 = true) (hul : us.length ≤ 1048576) (h6 : t.length ≤ 6)
    (h02 : w0.heap.size ≤ B2) (hBt2 : B2 ≤ Bt) (hBu2 : B2 ≤ Bu) (w : World) (hW0 : Below w0.heap.size w0 w)
    (hBts : Bt < w.heap.size) (hBus : Bu < w.heap.size) (hBt : w.cell? ⟨Bt, 0, none⟩ = some (.slice ta t.length tc)) (hBu : w.cell? ⟨Bu, 0, none⟩ = some uv) (hU : (us = [] ∧ ∃ a c, uv = .slice a 0 c) ∨ ∃ b o cap, uv = .slice (some ⟨b, o, none⟩) us.length cap ∧ UC w b o us ∧ B2 ≤ b) :
    SeqStopsK Fence.wide n Tryz.prog 63 #[.pointer (some ⟨Bt, 0, none⟩), .pointer (some ⟨Bu, 0, none⟩)] yV (KpC w0.heap.size B2) (fun ys => ys = seqY us t t.length) (fun pre => pre <+: seqY us t t.length) t.length w :=
  fun lp J Jx W hW hJ _ hY h0 =>
    net1 n hn lp Bt Bu B2 w0 ta tc t uv us hT hts hEn hrb hul h6 h02 hBt2 hBu2 J Jx W (hW0.trans (hW.mono hW0.size)) hJ hY ((hW.cell (p := ⟨Bt, 0, none⟩) hBts).trans hBt) ((hW.cell (p := ⟨Bu, 0, none⟩) hBus).trans hBu)
      (by
        rcases hU with h | ⟨b, o, cap, rfl, hc, hb⟩
        · exact .inl h
        · exact .inr ⟨b, o, cap, rfl, UC.keptC hc (KpC.ofBelow (B := w0.heap.size) (B2 := B2) hW) hb, hb⟩) h0

theorem netRows (n : Nat) (v u : Value) (hv : v.oneCell' = true) (hu : u.oneCell' = true) (w : World) :
    CallsIn Fence.wide n Tryz.prog 42 #[v, u] w fun e w' => e = .returned (.func (.func 63) #[] #[.pointer (some ⟨w.heap.size, 0, none⟩), .pointer (some ⟨w.heap.size + 1, 0, none⟩)]) ∧ w' = (w.alloc (.cells #[v] 29)).alloc (.cells #[u] 48) := by
  refine callsIn_of_wp Tryz.func42 rfl trivial ?_ rfl
  simp only [Tryz.ntmps42, List.size_toArray, List.length_cons, List.length_nil, Nat.reduceAdd, Nat.reduceSub, Array.replicate_succ, Array.replicate_zero, List.push_toArray, List.append_toArray, List.nil_append, List.cons_append]
  gi_wp2
  go_ret
  exact ⟨rfl, rfl⟩
end Go.Proofs.YtnchgeiinkaefaaGreatDoor.Bill
end

section
/-
  impl.rateRows: the rows while they are filled; a code as an error.
-/
namespace Go.Proofs.YtnchgeiinkaefaaGreatDoor.Bill
set_option linter.unusedVariables false
open Go.RowKit Evs Go.Shelf
open Tax
open BRow (R R0 RC RR ROwn RN infoR)

theorem makeRC (n : Nat) (hn : n ≤ 1048576) (w : World) : (Instr.makeSlice 26 (.int .i64 0) (.int .i64 (n : Int))).run Tryz.prog w = .ok (.slice (some ⟨w.heap.size, 0, none⟩) 0 n) (w.alloc (.cells (madeCells #[.string ByteArray.empty, .int .i64 0, .int .i64 0] (n * 3)) 55)) := by
  obtain ⟨i, hi, h2⟩ := Option.map_eq_some_iff.1 infoR
  simp only [Prod.mk.injEq] at h2
  obtain ⟨hz, hs, hb⟩ := h2
  have := run_make (P := Tryz.prog) w 26 55 i _ Tryz.underlying26 hi hz .i64 .i64 0 n (by omega) (by omega) (by rw [hb]; omega) (by omega)
  have e : (Value.agg #[.string ByteArray.empty, .int .i64 0, .int .i64 0]).cells = #[.string ByteArray.empty, .int .i64 0, .int .i64 0] := rfl
  rw [hs, e] at this
  simpa using this

/-- a code as an error -/
def errV (c : Int) : Value := if c = 0 then .nilIface else .iface 84 (.int .i64 c)

/-- the row while it is filled -/
def padR (n : Nat) (pre : List R) : List R := pre ++ List.replicate (n - pre.length) R0
theorem padR_len {n : Nat} {pre : List R} (h : pre.length ≤ n) : (padR n pre).length = n := by unfold padR; simp; omega
theorem padR_pos {n : Nat} (pre : List R) (h : 0 < n) : 0 < (padR n pre).length := by unfold padR; simp; omega
theorem padR_step {n : Nat} {pre : List R} (h : pre.length < n) (x : R) : (padR n pre).set pre.length x = padR n (pre ++ [x]) := by
  unfold padR
  have e : n - pre.length = (n - (pre.length + 1)) + 1 := by omega
  rw [e, List.replicate_succ, List.set_append_right _ _ (Nat.le_refl _), Nat.sub_self, List.set_cons_zero]
  simp
theorem padR_full {n : Nat} {pre : List R} (h : pre.length = n) : padR n pre = pre := by unfold padR; simp [h]

theorem rown_keptR {W W' : World} {b : Nat} {L : List R} {row : Option Nat} (h : ROwn W b L) (hL : 0 < L.length) (hg : W.grownBy W' row) (hr : ∀ r, row = some r → ∃ o : Obj, W.heap[r]? = some o ∧ o.isCells = false) : ROwn W' b L := by
  obtain ⟨o, ho, hc⟩ := cells_of_cell (h.1.2 0 hL).1
  have hk := grownBy_keeps_cells hg hr ho hc
  refine ⟨⟨Nat.lt_of_lt_of_le h.1.1 hg.size, fun i hi => ?_⟩, fun j => ?_⟩
  · obtain ⟨c0, c1, c2⟩ := h.1.2 i hi
    have key : ∀ o : Nat, W'.cell? ⟨b, o, none⟩ = W.cell? ⟨b, o, none⟩ := fun o => World.cell?_of_block hk
    exact ⟨(key _).trans c0, (key _).trans c1, (key _).trans c2⟩
  · have key : W'.frozen? ⟨b, j, none⟩ = W.frozen? ⟨b, j, none⟩ := World.frozen?_of_block hk
    exact key.trans (h.2 j)

/-- one more, where there is room -/
theorem app_runR {W : World} {S n : Nat} {pre : List R} (s : ByteArray) (m q : Int) (h : ROwn W S (padR n pre)) (hp : pre.length < n) (ty : TypeId) :
    (Builtin.append_ #[26, 26] ty #[.slice (some ⟨S, 0, none⟩) pre.length n, .slice (some ⟨W.heap.size, 0, none⟩) 1 1]).run Tryz.prog (W.alloc (.cells #[.string s, .int .i64 m, .int .i64 q] 55)) =
      .ok (.slice (some ⟨S, 0, none⟩) (pre.length + 1) n) ((((W.alloc (.cells #[.string s, .int .i64 m, .int .i64 q] 55)).setCell ⟨S, pre.length * 3, none⟩ (.string s)).setCell ⟨S, pre.length * 3 + 1, none⟩ (.int .i64 m)).setCell ⟨S, pre.length * 3 + 2, none⟩ (.int .i64 q)) := by
  obtain ⟨i, hi, h2⟩ := Option.map_eq_some_iff.1 infoR
  simp only [Prod.mk.injEq] at h2
  obtain ⟨hz, hs, hb⟩ := h2
  have hk := h.kept ((Below.refl W.heap.size W).alloc (Nat.le_refl _) (.cells #[.string s, .int .i64 m, .int .i64 q] 55))
  have hlt : pre.length < (padR n pre).length := by rw [padR_len (by omega)]; exact hp
  obtain ⟨c0, c1, c2⟩ := hk.1.2 pre.length hlt
  rw [Nat.zero_add] at c0 c1 c2
  have e1 := (MapKept.heap_alloc W (.cells #[.string s, .int .i64 m, .int .i64 q] 55)).1
  have := run_append_room_cells (P := Tryz.prog) (W.alloc (.cells #[.string s, .int .i64 m, .int .i64 q] 55)) 26 ty 55 i Tryz.underlying26 hi S 0 pre.length n ⟨W.heap.size, 0, none⟩ 1 1 [.string s, .int .i64 m, .int .i64 q] (by rw [hs]; rfl)
    (World.news_of_block e1)
    (by simp [Value.oneCell']) (by omega)
    (fun j hj => by
      rw [hs]
      match j, hj with
      | 0, _ => simp [c0]
      | 1, _ => simp [c1]
      | 2, _ => simp [c2]
      | j + 3, hj => simp only [List.length_cons, List.length_nil] at hj; omega)
    (fun j _ => hk.2 _)
  rw [hs, Nat.zero_add] at this
  exact this
end Go.Proofs.YtnchgeiinkaefaaGreatDoor.Bill
end

section
/-
  The sum of weights (impl.weightSum, spec.l1Weights).
-/
namespace Go.Proofs.YtnchgeiinkaefaaGreatDoor.Share
set_option linter.unusedVariables false
open Go.RowKit Ints

def okW (x : Int) : Bool := decide (0 ≤ x ∧ x ≤ 1000000)
theorem sum_take (ws : List Int) (k : Nat) (h : k < ws.length) : (ws.take (k + 1)).sum = (ws.take k).sum + ws.getD k 0 := by
  have e : ws.take (k + 1) = ws.take k ++ [ws.getD k 0] := by rw [List.take_add_one, List.getElem?_eq_getElem h]; simp [List.getD, h]
  rw [e, List.sum_append]; simp
theorem sum_bd (ws : List Int) : ∀ k, (∀ j, j < k → okW (ws.getD j 0) = true) → k ≤ ws.length → 0 ≤ (ws.take k).sum ∧ (ws.take k).sum ≤ 1000000 * k := by
  intro k
  induction k with
  | zero => intro _ _; simp
  | succ k ih =>
    intro h hk
    have h1 := ih (fun j hj => h j (by omega)) (by omega)
    have h2 := h k (by omega)
    unfold okW at h2
    simp only [decide_eq_true_eq] at h2
    rw [sum_take ws k (by omega)]
    omega
end Go.Proofs.YtnchgeiinkaefaaGreatDoor.Share
end

section
/-
  'out = append(out, n)' on a slice of ints of the call's own, in a plain region and in one that draws its order.
-/
namespace Go.Proofs.YtnchgeiinkaefaaGreatDoor.Ints
set_option linter.unusedVariables false
open Go.RowKit

theorem infoEx : ∃ i, Tryz.prog.info? 3 = some i ∧ i.zero = some (.int .i64 0) ∧ i.size = 1 ∧ i.bytes = 8 := by
  have h := info
  obtain ⟨i, hi, h2⟩ := Option.map_eq_some_iff.1 h
  simp only [Prod.mk.injEq] at h2
  exact ⟨i, hi, h2.1, h2.2.1, h2.2.2⟩

/-- the numbers of a row, as values -/
abbrev vals (l : List Int) : List Value := l.map (Value.int .i64)

/-- the slice of the call's own in block g holds the numbers l -/
def Own (W : World) (B g cap : Nat) (l : List Int) : Prop := W.ownsRow B 3 1 (.slice (some ⟨g, 0, none⟩) l.length cap) l.length (vals l)

section
variable {ops : Array Oper} {o : Oper} {a : Act} {K : Act → World → Prop} {Q : Exit → Act → World → Prop} {E : Prop}

theorem news (w : World) (N : Nat) (q : Int) (hN : w.heap[N]? = some (.cells #[.int .i64 q] 3 (0, 0))) : ∀ j u, (vals [q])[j]? = some u → w.cell? ((⟨N, 0, none⟩ : Addr).add j) = some u :=
  World.news_of_block hN

end

theorem Own.kept {W W' : World} {B g c : Nat} {l : List Int} {r : Option Nat} (h : Own W B g c l) (hg : W.grownBy W' r) (hne : some g ≠ r) : Own W' B g c l :=
  World.ownsRow.kept h hg (.inr (by simpa [Value.ownBlock] using hne))
theorem Own.lt {W : World} {B g c : Nat} {l : List Int} (h : Own W B g c l) : B ≤ g ∧ g < W.heap.size := World.ownsRow.lt h g rfl
/-- a new slice without elements -/
theorem Own.new (w : World) (B : Nat) (hB : B ≤ w.heap.size) : Own (w.alloc (.cells #[] 3)) B w.heap.size 0 [] :=
  ⟨by simp, .inr ⟨w.heap.size, 0, #[], rfl, hB, (MapKept.heap_alloc w _).1, by simp, by unfold maxLen; omega, by simp, by simp⟩⟩
theorem Own.cells {W : World} {B g c : Nat} {l : List Int} (h : Own W B g c l) : Cells W g 0 l := by
  refine ⟨h.lt.2, fun i hi => ?_⟩
  have h1 := World.ownsRow.cells h rfl i (.int .i64 (l.getD i 0)) (by simp [vals, List.getD, hi])
  rw [Addr.add_lit] at h1
  refine ⟨h1, ?_⟩
  rcases h.2 with ⟨h2, _⟩ | ⟨g', cap, cur, h2, _, h3, _⟩
  · cases h2
  · simp only [Value.slice.injEq, Option.some.injEq, Addr.mk.injEq, and_true, true_and] at h2
    obtain ⟨rfl, _⟩ := h2
    simp only [World.frozen?]
    rw [h3]; simp
end Go.Proofs.YtnchgeiinkaefaaGreatDoor.Ints
end

section
/-
  CoinShare, the document's.
-/
namespace Go.Proofs.YtnchgeiinkaefaaGreatDoor.Share
set_option linter.unusedVariables false
open Go.RowKit Ints

/-- what the division by weights gives: the part of one weight, and its rest -/
def ptV (T S x : Int) : Int := T / S * x + T % S * x / S
def rsV (T S x : Int) : Int := T % S * x % S

theorem ptBd {T S x : Int} (h0 : 0 ≤ T) (h1 : T ≤ 1000000000000000) (hx : 0 ≤ x) (hx' : x ≤ 1000000) (hxs : x ≤ S) (hs : 1 ≤ S) (hs' : S ≤ 16000000) :
    0 ≤ T / S ∧ T / S ≤ 1000000000000000 ∧ 0 ≤ T % S ∧ T % S < S ∧ 0 ≤ T % S * x ∧ T % S * x ≤ 16000000000000 ∧ 0 ≤ T % S * x / S ∧ T % S * x / S ≤ T % S ∧ 0 ≤ T / S * x ∧ T / S * x + T % S ≤ T ∧ 0 ≤ T % S * x % S ∧ T % S * x % S < S := by
  have d1 : 0 ≤ T / S := Int.ediv_nonneg h0 (by omega)
  have d2 : T / S ≤ T := Int.ediv_le_self _ h0
  have m1 : 0 ≤ T % S := Int.emod_nonneg _ (by omega)
  have m2 : T % S < S := Int.emod_lt_of_pos _ (by omega)
  have p1 : 0 ≤ T % S * x := Int.mul_nonneg m1 hx
  have p2 : T % S * x ≤ 16000000 * 1000000 := Int.mul_le_mul (by omega) hx' hx (by omega)
  have q1 : 0 ≤ T % S * x / S := Int.ediv_nonneg p1 (by omega)
  have q2 : T % S * x / S ≤ T % S := by
    have : T % S * x ≤ T % S * S := Int.mul_le_mul_of_nonneg_left hxs m1
    have h3 := Int.ediv_le_ediv (c := S) (by omega) this
    rwa [Int.mul_ediv_cancel _ (by omega)] at h3
  have e1 : T / S * x ≤ T / S * S := Int.mul_le_mul_of_nonneg_left hxs d1
  have e2 := Int.mul_ediv_add_emod T S
  have e3 : T / S * S = S * (T / S) := Int.mul_comm _ _
  refine ⟨d1, by omega, m1, m2, p1, by omega, q1, q2, Int.mul_nonneg d1 hx, by omega, Int.emod_nonneg _ (by omega), Int.emod_lt_of_pos _ (by omega)⟩

def moreB (rs : List Int) (j i : Nat) : Bool := decide (rs.getD i 0 < rs.getD j 0) || (rs.getD j 0 == rs.getD i 0) && decide (j < i)
def cnt (rs : List Int) (i k : Nat) : Nat := (List.range k).countP fun j => moreB rs j i
end Go.Proofs.YtnchgeiinkaefaaGreatDoor.Share
end

section
/-
  CoinShare, the document's: what it answers.
-/
namespace Go.Proofs.YtnchgeiinkaefaaGreatDoor.Share
set_option linter.unusedVariables false
open Go.RowKit Ints

theorem take_step (l : List Int) (k : Nat) (h : k < l.length) : l.take (k + 1) = l.take k ++ [l.getD k 0] := by
  rw [List.take_add_one, List.getElem?_eq_getElem h]; simp [List.getD, h]
theorem sum_bd' (l : List Int) (M : Int) : ∀ k : Nat, (∀ j, j < k → 0 ≤ l.getD j 0 ∧ l.getD j 0 ≤ M) → k ≤ l.length → 0 ≤ (l.take k).sum ∧ (l.take k).sum ≤ k * M := by
  intro k
  induction k with
  | zero => intro _ _; simp
  | succ k ih =>
    intro h hk
    have h1 := ih (fun j hj => h j (by omega)) (by omega)
    have h2 := h k (by omega)
    rw [sum_take l k (by omega)]
    have : ((k + 1 : Nat) : Int) * M = k * M + M := by rw [Int.natCast_add, Int.add_mul]; simp
    rw [this]
    omega

end Go.Proofs.YtnchgeiinkaefaaGreatDoor.Share
end

section
/-
  The places of a rate, and what each of them owes: plain mathematics.
-/
namespace Go.Proofs.YtnchgeiinkaefaaGreatDoor.Tax
set_option linter.unusedVariables false
open Share (cnt moreB)

/-- the lines with this rate -/
def plc (rate : Nat → Int) (q : Int) (n : Nat) : List Nat := (List.range n).filter fun j => decide (rate j = q)
theorem plc_mem {rate : Nat → Int} {q : Int} {n j : Nat} : j ∈ plc rate q n ↔ j < n ∧ rate j = q := by simp [plc]
theorem plc_lt {rate : Nat → Int} {q : Int} {n i : Nat} (h : i < (plc rate q n).length) : (plc rate q n).getD i 0 < n ∧ rate ((plc rate q n).getD i 0) = q := by
  have : (plc rate q n).getD i 0 ∈ plc rate q n := by simp [List.getD, h]
  exact plc_mem.1 this
theorem plc_asc (rate : Nat → Int) (q : Int) (n : Nat) : (plc rate q n).Pairwise (· < ·) := List.Pairwise.filter _ List.pairwise_lt_range
theorem plc_len (rate : Nat → Int) (q : Int) (n : Nat) : (plc rate q n).length ≤ n := by
  have := List.length_filter_le (fun j => decide (rate j = q)) (List.range n)
  simpa [plc] using this
theorem plc_ord {rate : Nat → Int} {q : Int} {n i k : Nat} (hi : i < (plc rate q n).length) (hk : k < (plc rate q n).length) : ((plc rate q n).getD i 0 < (plc rate q n).getD k 0) ↔ i < k := by
  have h := List.pairwise_iff_getElem.1 (plc_asc rate q n)
  have e1 : (plc rate q n).getD i 0 = (plc rate q n)[i] := by simp [List.getD, hi]
  have e2 : (plc rate q n).getD k 0 = (plc rate q n)[k] := by simp [List.getD, hk]
  rw [e1, e2]
  constructor
  · intro hlt
    rcases Nat.lt_trichotomy i k with h1 | h1 | h1
    · exact h1
    · subst h1; omega
    · have := h k i hk hi h1; omega
  · intro h1; exact h i k hi hk h1
theorem list_of_getD {α : Type} (l : List α) (d : α) : l = (List.range l.length).map fun i => l.getD i d := by
  apply List.ext_getElem (by simp)
  intro i h1 h2
  simp [List.getD, h1]
theorem getD_map' {α β : Type} (l : List α) (f : α → β) (d : α) (d' : β) {i : Nat} (h : i < l.length) : (l.map f).getD i d' = f (l.getD i d) := by
  simp [List.getD, h]
theorem cnt_plc {rate : Nat → Int} {r : Nat → Int} {q S : Int} {n i : Nat} (hS : 0 < S) (hi : i < (plc rate q n).length) : cnt ((plc rate q n).map r) i (plc rate q n).length = cntG (grp rate q S) r n ((plc rate q n).getD i 0) := by
  have e1 : cntG (grp rate q S) r n ((plc rate q n).getD i 0) = (plc rate q n).countP fun k => ahd r k ((plc rate q n).getD i 0) := by
    unfold cntG plc
    rw [List.countP_filter]
    apply List.countP_congr
    intro k hk
    simp only [grp, decide_eq_true hS, Bool.and_true, Bool.and_eq_true]
    rw [and_comm]
  rw [e1]
  unfold cnt
  have e2 : ∀ (p : Nat → Bool), (plc rate q n).countP p = (List.range (plc rate q n).length).countP fun k => p ((plc rate q n).getD k 0) := fun p => by
    conv => lhs; rw [list_of_getD (plc rate q n) 0]
    rw [List.countP_map]; rfl
  rw [e2]
  apply List.countP_congr
  intro k hk
  have hk' : k < (plc rate q n).length := by simpa using hk
  unfold moreB ahd
  rw [getD_map' _ r 0 0 hk', getD_map' _ r 0 0 hi]
  have := plc_ord (rate := rate) (q := q) hk' hi
  simp only [Bool.or_eq_true, Bool.and_eq_true, decide_eq_true_eq, beq_iff_eq, this]
theorem sum_plc (rate f : Nat → Int) (q : Int) : ∀ n, ((plc rate q n).map f).sum = sumG (fun j => decide (rate j = q)) f n
  | 0 => by simp [plc, sumG]
  | n + 1 => by
    have ih := sum_plc rate f q n
    unfold plc at ih ⊢
    rw [List.range_succ, List.filter_append, List.map_append, List.sum_append, ih, sumG]
    by_cases h : rate n = q
    · simp [h]
    · simp [h]
theorem sumG_congr {g g' : Nat → Bool} {f : Nat → Int} : ∀ n, (∀ j, j < n → g j = g' j) → sumG g f n = sumG g' f n
  | 0, _ => rfl
  | n + 1, h => by rw [sumG, sumG, sumG_congr n (fun j hj => h j (by omega)), h n (by omega)]
theorem sumG_zero {g : Nat → Bool} {f : Nat → Int} : ∀ n, (∀ j, j < n → 0 ≤ f j) → sumG g f n ≤ 0 → ∀ j, j < n → g j = true → f j = 0
  | 0, _, _, j, hj, _ => by omega
  | n + 1, h, hs, j, hj, hg => by
    have h0 : 0 ≤ sumG g f n := by
      clear hs
      have : ∀ k, k ≤ n → 0 ≤ sumG g f k := by
        intro k
        induction k with
        | zero => intro _; simp [sumG]
        | succ k ih =>
          intro hk
          rw [sumG]
          have := ih (by omega)
          have := h k (by omega)
          split <;> omega
      exact this n (Nat.le_refl _)
    rw [sumG] at hs
    by_cases e : j = n
    · subst e
      rw [if_pos hg] at hs
      have := h j (by omega); omega
    · refine sumG_zero n (fun i hi => h i (by omega)) ?_ j (by omega) hg
      have := h n (by omega)
      split at hs <;> omega
theorem sumG_nonneg {g : Nat → Bool} {f : Nat → Int} : ∀ {n : Nat}, (∀ j, j < n → 0 ≤ f j) → 0 ≤ sumG g f n
  | 0, _ => by simp [sumG]
  | n + 1, h => by
    have := sumG_nonneg (g := g) (n := n) (fun j hj => h j (by omega))
    have := h n (by omega)
    rw [sumG]; split <;> omega
theorem sumG_all0 {rate f : Nat → Int} {q : Int} : ∀ {n : Nat}, (∀ j, j < n → rate j = q → f j = 0) → sumG (fun j => decide (rate j = q)) f n = 0
  | 0, _ => rfl
  | n + 1, h => by
    have := sumG_all0 (n := n) (fun j hj => h j (by omega))
    rw [sumG, this]
    by_cases e : rate n = q
    · rw [h n (by omega) e]; simp
    · simp [e]
theorem partV_zero (q : Int) : Coin.partV 0 q 10000 ≤ 0 := by
  unfold Coin.partV
  split
  · have e : Coin.sz 0 = 0 := by decide
    rw [if_neg (by omega), e]
    have e2 : (0 : Int) / 10000 * q + 0 % 10000 * q / 10000 = 0 := by simp
    have e3 : (0 : Int) % 10000 * q % 10000 = 0 := by simp
    rw [e2, e3]
    have := Coin.rndE_low (q := 0) (r := 0) (d := 10000) (by omega)
    omega
  · omega
/-- what the shares come to, one by one -/
theorem deal_plc {net rate : Nat → Int} {q : Int} {n i : Nat} (hN : ∀ j, j < n → 0 ≤ net j) (q0 : 0 ≤ q) (hi : i < (plc rate q n).length) (old : Nat → Int) (hO : ∀ j, j < n → rate j = q → old j = 0) :
    ((plc rate q n).map (partJ net q)).getD i 0 + (if (cnt ((plc rate q n).map (restJ net q)) i (plc rate q n).length : Int) < Coin.partV (sumQ net rate n q) q 10000 - ((plc rate q n).map (partJ net q)).sum then 1 else 0) = spreadF net rate old n q (sumQ net rate n q) (Coin.partV (sumQ net rate n q) q 10000) ((plc rate q n).getD i 0) := by
  obtain ⟨hj, hr⟩ := plc_lt hi
  rw [getD_map' _ (partJ net q) 0 0 hi, sum_plc]
  unfold spreadF
  by_cases hS : 0 < sumQ net rate n q
  · have hg : grp rate q (sumQ net rate n q) ((plc rate q n).getD i 0) = true := by unfold grp; rw [hr, decide_eq_true hS]; simp
    rw [hg, if_pos rfl, cnt_plc hS hi]
    have e : sumG (fun j => decide (rate j = q)) (partJ net q) n = sumG (grp rate q (sumQ net rate n q)) (partJ net q) n := sumG_congr n (fun j _ => by unfold grp; rw [decide_eq_true hS, Bool.and_true])
    rw [e]
  · have hg : grp rate q (sumQ net rate n q) ((plc rate q n).getD i 0) = false := by unfold grp; rw [decide_eq_false hS]; simp
    rw [hg]
    simp only [Bool.false_eq_true, if_false]
    rw [hO _ hj hr]
    have hz := sumG_zero (g := fun j => decide (rate j = q)) n hN (show sumG (fun j => decide (rate j = q)) net n ≤ 0 by have := hS; unfold sumQ at this; omega)
    have hnj : ∀ j, j < n → rate j = q → partJ net q j = 0 := fun j hj' hr' => by unfold partJ; rw [hz j hj' (decide_eq_true hr')]; simp
    have hs0 : sumQ net rate n q = 0 := by
      have h1 : 0 ≤ sumG (fun j => decide (rate j = q)) net n := (sumG_nonneg hN)
      unfold sumQ at hS ⊢; omega
    rw [hnj _ hj hr, hs0]
    have hp0 : sumG (fun j => decide (rate j = q)) (partJ net q) n = 0 := sumG_all0 hnj
    rw [hp0]
    have : Coin.partV 0 q 10000 ≤ 0 := partV_zero q
    rw [if_neg (by omega)]; rfl
end Go.Proofs.YtnchgeiinkaefaaGreatDoor.Tax
end

section
/-
  A loop over a function whose rounds are told something of what is yielded (of memory, too): out of the model's laws on a loop's record.
-/
namespace Go.Proofs.YtnchgeiinkaefaaGreatDoor.RangeP
open Go.RowKit
set_option linter.unusedVariables false

variable {F : Fence} {n : Nat} {P : Program}

/-- how a round may end -/
def endsP (B : Nat) (Kp : World → World → Prop) (I Jx : Nat → World → Prop) (k : Nat) (W : World) : Exit → Act → World → Prop
  | .normal, _, W' => KeepsFrom B W W' ∧ Kp W W' ∧ I k W'
  | .ret, _, W' => KeepsFrom B W W' ∧ Jx k W'
  | _, _, _ => False

/-- the iterator's contract: round k is told Pr of what is yielded -/
def SeqP (F : Fence) (n : Nat) (P : Program) (g : Nat) (lb : Array Value) (Pr : Nat → Array Value → World → Prop) (Kp : World → World → Prop) (Sf : Nat → Prop) (w : World) : Prop :=
  ∀ (l : Nat) (J Jy : Nat → World → Prop) (W : World), Below w.heap.size w W → AbidesFrom W.heap.size J → AbidesFrom W.heap.size Jy →
    (∀ k args W1, J k W1 → Pr k args W1 → YieldAt F (n - 1) P l args W1 fun e W' => (e = .returned (.bool true) ∧ J (k + 1) W' ∧ Kp W1 W') ∨ (e = .returned (.bool false) ∧ Jy (k + 1) W')) →
    J 0 W →
    CallsIn F n P g (#[.func (.yield l) #[] #[]] ++ lb) W fun e W' => (∃ v, e = .returned v) ∧ ((∃ k, Sf k ∧ J k W') ∨ (∃ k, Jy k W'))

theorem rangeP {g : Operand} {ps : Array Tmp} {assign body : Code} {Q : Exit → Act → World → Prop} {a : Act} {w : World} (hro : F.round = none) (h1 : 1 ≤ n) {gf : Nat} {lb : Array Value} (hg : a.eval g = .func (.func gf) #[] lb) (hFg : F.fn gf)
    (eg : ∀ args w, (callFunc gf args).run P w = .ok (.enter gf args) w) {Pr : Nat → Array Value → World → Prop} {Kp : World → World → Prop} {Sf : Nat → Prop} (hseq : SeqP F (n - 1) P gf lb Pr Kp Sf w)
    (hKt : ∀ {A B C : World}, Kp A B → Kp B C → Kp A C) (hKb : ∀ (W : World) (l : Nat) (o o' : Obj), w.heap.size ≤ l → W.heap[l]? = some o → o.isCells = false → o.isWalk = false → Kp W (W.putObj l o'))
    (hps : ∀ k args W, Pr k args W → args.size = ps.size) (I Jx : Nat → World → Prop) (hI : OwnFrom w.heap.size I) (hJ : OwnFrom w.heap.size Jx) (hPr : ∀ args, OwnFrom w.heap.size fun k W => Pr k args W) (h0 : I 0 w) (As : Array Value → Act)
    (hassign : ∀ (l : Nat) (args : Array Value) (W : World) (K : Act → World → Prop), args.size = ps.size → K (As args) W → assign.wpIn (F.inRound l) (n - 1 - 1) P (Exit.then K fun _ _ _ => False) { tmps := (ps.zip args).foldl (fun t (p, v) => t.setIfInBounds p v) a.tmps, defers := [] } W)
    (hbody : ∀ (l k : Nat) (args : Array Value) (W : World), w.heap.size ≤ l → I k W → Pr k args W → body.wpIn (F.inRound l) (n - 1 - 1) P (endsP w.heap.size Kp I Jx (k + 1) W) (As args) W)
    (hdone : ∀ (D k : Nat) (W : World), w.heap.size ≤ D → Sf k → I k W → W.heap[D]? = some (.deferred (some [])) → Q .normal { a with defers := { target := .collected D, args := #[] } :: a.defers } W)
    (hstop : ∀ (D k : Nat) (W : World), w.heap.size ≤ D → Jx k W → W.heap[D]? = some (.deferred (some [])) → Code.ret.wpIn F n P Q { a with defers := { target := .collected D, args := #[] } :: a.defers } W) :
    (Code.rangeFunc g ps assign body).wpIn F n P Q a w := by
  refine wpIn_rangeFunc fun fn hfn => ?_
  rw [hro]
  let R (st : LoopState) (pe : Option Code) : Obj := .loop { state := st, pending := pe, fn := fn, tmps := a.tmps, params := ps, assign := assign, body := body, defers := w.heap.size }
  let W1 := (w.alloc (.deferred (some []))).alloc (R .ready none)
  have z1 : W1.heap.size = w.heap.size + 2 := by simp [W1]
  have L1 : W1.heap[w.heap.size + 1]? = some (R .ready none) := by
    have := World.alloc_heap_new (w.alloc (.deferred (some []))) (R .ready none); rwa [World.size_alloc] at this
  have D1 : W1.heap[w.heap.size]? = some (.deferred (some [])) := (Below.heap_alloc _ _ _ (by simp)).trans (World.alloc_heap_new w _)
  have B1 : Below w.heap.size w W1 := ((Below.refl _ w).alloc (Nat.le_refl _) _).alloc (by simp) _
  refine ⟨w.heap.size + 1, [{ target := .collected w.heap.size, args := #[] }], W1, { target := .fn (.func gf) lb, args := #[.func (.yield (w.heap.size + 1)) #[] #[]] }, W1, gf, #[.func (.yield (w.heap.size + 1)) #[] #[]] ++ lb, W1, run_enterLoop_outer _ _ _ _ _, ?_, ?_, ?_, fun _ => h1, ?_⟩
  · simp only [resolve, hg]; simp [go_sem]
  · intro f' hf'; simp [Target.leads] at hf'; subst hf'; exact hFg
  · simp [invoke, go_sem, eg]
  -- what the iterator carries along: the caller's word, and the two blocks of the loop
  let Bk (st : LoopState) (pe : Option Code) (W : World) : Prop := W.heap[w.heap.size + 1]? = some (R st pe) ∧ W.heap[w.heap.size]? = some (.deferred (some []))
  have hbk : ∀ st pe W W' row, Bk st pe W → W.grownBy W' row → (∀ r, row = some r → W1.heap.size ≤ r ∧ ∃ o : Obj, W.heap[r]? = some o ∧ o.isWalk = true) → Bk st pe W' := fun st pe W W' row h hg' hr =>
    ⟨(grownBy_keeps hg' (fun r e => (hr r e).2) h.1 rfl).trans h.1, (grownBy_keeps hg' (fun r e => (hr r e).2) h.2 rfl).trans h.2⟩
  have hrow : ∀ (W : World) (row : Option Nat), (∀ r, row = some r → W1.heap.size ≤ r ∧ ∃ o : Obj, W.heap[r]? = some o ∧ o.isWalk = true) → ∀ r, row = some r → w.heap.size ≤ r ∧ ∃ o : Obj, W.heap[r]? = some o ∧ o.isCells = false := fun W row hr r e => by
    obtain ⟨h2, o, ho, hw⟩ := hr r e
    exact ⟨by omega, o, ho, Obj.not_cells_of_walk hw⟩
  refine (hseq (w.heap.size + 1) (fun k W => I k W ∧ Bk .ready none W) (fun k W => Jx k W ∧ Bk .done (some .ret) W) W1 B1
    (fun k W W' row h hg' hr => ⟨hI k W W' row h.1 hg' (hrow W row hr), hbk _ _ W W' row h.2 hg' hr⟩)
    (fun k W W' row h hg' hr => ⟨hJ k W W' row h.1 hg' (hrow W row hr), hbk _ _ W W' row h.2 hg' hr⟩) ?_ ⟨hI.alloc _ (hI.alloc _ h0), L1, D1⟩).mono ?_
  · rintro k args W ⟨hi, hl, hk⟩ hp
    have hsz := hps k args W hp
    have hlt : w.heap.size + 1 < W.heap.size := (Array.getElem?_eq_some_iff.1 hl).1
    refine ⟨fn, _, assign, body, run_yield (P := P) (args := args) hl hsz, roundIn_of_wpIn hfn (hassign _ args W _ hsz ?_)⟩
    have hl2 : (W.putObj (w.heap.size + 1) (R .busy none)).heap[w.heap.size + 1]? = some (R .busy none) := World.putObj_heap_same hlt
    have hk2 : (W.putObj (w.heap.size + 1) (R .busy none)).heap[w.heap.size]? = some (.deferred (some [])) := (World.putObj_heap_other (by omega)).trans hk
    have hw2 : Kp W (W.putObj (w.heap.size + 1) (R .busy none)) := hKb _ _ _ _ (by omega) hl rfl rfl
    refine ⟨_, run_beginRound hl rfl, ?_⟩
    refine wpIn_mono (hbody _ k args _ (by omega) (hI.putObj _ hi (by omega) hl rfl) ((hPr args).putObj _ hp (by omega) hl rfl)) ?_
    have fin : ∀ (jump : Option Code) (W3 : World), KeepsFrom w.heap.size (W.putObj (w.heap.size + 1) (R .busy none)) W3 →
        (Instr.endRound (w.heap.size + 1) jump).run P W3 = .ok (.bool jump.isNone) (W3.putObj (w.heap.size + 1) (R (if jump.isNone then .ready else .done) jump)) ∧ W3.heap[w.heap.size + 1]? = some (R .busy none) ∧
        Bk (if jump.isNone then .ready else .done) jump (W3.putObj (w.heap.size + 1) (R (if jump.isNone then .ready else .done) jump)) := fun jump W3 h3 => by
      have hl3 := h3.same _ _ (by omega) hl2 rfl
      exact ⟨run_endRound (P := P) jump hl3, hl3, World.putObj_heap_same (Array.getElem?_eq_some_iff.1 hl3).1, (World.putObj_heap_other (by omega)).trans (h3.same _ _ (Nat.le_refl _) hk2 rfl)⟩
    rintro e a3 W3 he
    cases e with
    | normal =>
      obtain ⟨h3, hk3, hi3⟩ := he
      obtain ⟨hr, hl3, hb4⟩ := fin none W3 h3
      exact ⟨_, _, hr, .inl ⟨rfl, ⟨hI.putObj _ hi3 (by omega) hl3 rfl, hb4⟩, hKt (hKt hw2 hk3) (hKb _ _ _ _ (by omega) hl3 rfl rfl)⟩⟩
    | ret =>
      obtain ⟨h3, hi3⟩ := he
      obtain ⟨hr, hl3, hb4⟩ := fin (some .ret) W3 h3
      exact ⟨_, _, hr, .inr ⟨rfl, hJ.putObj _ hi3 (by omega) hl3 rfl, hb4⟩⟩
    | exit id => exact he.elim
    | goto t => exact he.elim
    | panic ch => exact he.elim
    | outgrown => exact he.elim
  · rintro e W2 ⟨⟨v, rfl⟩, ⟨k, hS, hi, hl, hk⟩ | ⟨k, hi, hl, hk⟩⟩
    · exact ⟨none, _, run_endLoop (P := P) hl (by simp), hdone _ k _ (Nat.le_refl _) hS (hI.putObj _ hi (by omega) hl rfl) ((World.putObj_heap_other (by omega)).trans hk)⟩
    · exact ⟨some .ret, _, run_endLoop (P := P) hl (by simp), hstop _ k _ (Nat.le_refl _) (hJ.putObj _ hi (by omega) hl rfl) ((World.putObj_heap_other (by omega)).trans hk)⟩
end Go.Proofs.YtnchgeiinkaefaaGreatDoor.RangeP
end

section
/-
  The closure that placesByRate hands out: each rate with the places of all lines that have it.
-/
namespace Go.Proofs.YtnchgeiinkaefaaGreatDoor.Bill
set_option linter.unusedVariables false
open Go.RowKit Evs Go.Shelf
open Tax (plc plc_mem plc_lt plc_len rateF getD_map')
open Ints (Cells vals infoEx)
open RangeP (SeqP)

attribute [local go_sem] Oper.semAt_some

/-- line i is the first of its rate -/
def isF (rate : Nat → Int) (i : Nat) : Bool := (List.range i).all fun m => !decide (rate m = rate i)
/-- the first lines of their rates among the first k -/
def fsU (rate : Nat → Int) (k : Nat) : List Nat := (List.range k).filter (isF rate)
theorem fsU_succ (rate : Nat → Int) (k : Nat) : fsU rate (k + 1) = fsU rate k ++ if isF rate k then [k] else [] := by
  unfold fsU; rw [List.range_succ, List.filter_append]
  cases h : isF rate k <;> simp [h]
theorem fsU_at {rate : Nat → Int} {n i : Nat} (hi : i < n) (h : isF rate i = true) : (fsU rate n)[(fsU rate i).length]? = some i := by
  obtain ⟨m, rfl⟩ : ∃ m, n = (i + 1) + m := ⟨n - (i + 1), by omega⟩
  have e : fsU rate (i + 1 + m) = fsU rate (i + 1) ++ ((List.range m).map fun x => i + 1 + x).filter (isF rate) := by
    unfold fsU; rw [List.range_add, List.filter_append]
  rw [e, fsU_succ, h, if_pos rfl]
  simp
theorem plc_succ (rate : Nat → Int) (q : Int) (k : Nat) : plc rate q (k + 1) = plc rate q k ++ if rate k = q then [k] else [] := by
  unfold plc; rw [List.range_succ, List.filter_append]
  by_cases h : rate k = q <;> simp [h]
theorem plc_head {rate : Nat → Int} {n i : Nat} (hi : i < n) : ((plc rate (rate i) n).getD 0 0 = i) ↔ isF rate i = true := by
  have hm : i ∈ plc rate (rate i) n := plc_mem.2 ⟨hi, rfl⟩
  have hpos : 0 < (plc rate (rate i) n).length := List.length_pos_of_mem hm
  obtain ⟨h1, h2⟩ := plc_lt (rate := rate) (q := rate i) (n := n) hpos
  obtain ⟨k, hk, hke⟩ := List.getElem_of_mem hm
  have hge : (plc rate (rate i) n).getD k 0 = i := by simp [List.getD, hk, hke]
  have hle : (plc rate (rate i) n).getD 0 0 ≤ i := by
    by_cases e : k = 0
    · subst e; omega
    · have := (Tax.plc_ord (rate := rate) (q := rate i) (n := n) hpos hk).2 (by omega)
      omega
  constructor
  · intro h
    unfold isF
    rw [List.all_eq_true]
    intro m hmm
    have hml : m < i := by simpa using hmm
    by_cases e : rate m = rate i
    · have hm2 : m ∈ plc rate (rate i) n := plc_mem.2 ⟨by omega, e⟩
      obtain ⟨k2, hk2, hke2⟩ := List.getElem_of_mem hm2
      have hge2 : (plc rate (rate i) n).getD k2 0 = m := by simp [List.getD, hk2, hke2]
      have : (plc rate (rate i) n).getD 0 0 ≤ m := by
        by_cases e2 : k2 = 0
        · subst e2; omega
        · have := (Tax.plc_ord (rate := rate) (q := rate i) (n := n) hpos hk2).2 (by omega)
          omega
      omega
    · simp [e]
  · intro h
    unfold isF at h
    rw [List.all_eq_true] at h
    rcases Nat.lt_or_ge ((plc rate (rate i) n).getD 0 0) i with hlt | hge'
    · have := h _ (List.mem_range.2 hlt)
      rw [decide_eq_true h2] at this
      cases this
    · omega

/-- a slice of ints of the call's own, nil or not -/
def OwnN (W : World) (B : Nat) (v : Value) (l : List Int) : Prop := W.ownsRow B 3 1 v l.length (vals l)
theorem OwnN.kept {W W' : World} {B : Nat} {v : Value} {l : List Int} (h : OwnN W B v l) (hg : W.grownBy W' none) : OwnN W' B v l :=
  World.ownsRow.kept h hg (by cases e : v.ownBlock with | none => exact .inl rfl | some b => exact .inr (by simp))
theorem OwnN.nil (W : World) (B : Nat) : OwnN W B (.slice none 0 0) [] := ⟨by simp, .inl ⟨rfl, rfl⟩⟩
theorem OwnN.cells {W : World} {B g c : Nat} {l : List Int} (h : OwnN W B (.slice (some ⟨g, 0, none⟩) l.length c) l) : B ≤ g ∧ Cells W g 0 l :=
  ⟨(Ints.Own.lt (show Ints.Own W B g c l from h)).1, Ints.Own.cells (show Ints.Own W B g c l from h)⟩

/-- one more, inside a fence -/
theorem wpListIn_appN {F : Fence} {nF : Nat} {w : World} {ops : Array Oper} {rest : List Oper} {o : Oper} {a : Act} {Q : Exit → Act → World → Prop} (hgd : o.guard = none) (s x : Operand)
    (ho : o.op = .call { callee := .builtin .append, args := #[s, x], argTypes := #[91, 91] }) (B : Nat) (v : Value) (l : List Int) (q : Int) (N : Nat) (hs : a.eval s = v) (hown : OwnN w B v l) (hx : a.eval x = .slice (some ⟨N, 0, none⟩) 1 1) (hN : w.heap[N]? = some (.cells #[.int .i64 q] 3 (0, 0)))
    (hl : l.length ≤ 1000000) (hB : B ≤ w.heap.size)
    (h : ∀ g c w', OwnN w' B (.slice (some ⟨g, 0, none⟩) (l.length + 1) c) (l ++ [q]) → w.grownBy w' v.ownBlock → g < w'.heap.size → wpListIn F nF Tryz.prog ops Q rest (a.put o.dst (.slice (some ⟨g, 0, none⟩) (l.length + 1) c)) w') : wpListIn F nF Tryz.prog ops Q (o :: rest) a w := by
  obtain ⟨infoInt, hinfo, hzero, hsize, hbytes⟩ := infoEx
  obtain ⟨g, c, w', hr, h1, h2, _, h4⟩ := run_append_lies (P := Tryz.prog) w 91 o.type B 3 infoInt (.int .i64 0) 1 8 Tryz.underlying91 hinfo hzero hsize hbytes rfl (by omega) v l.length (vals l) hown ⟨N, 0, none⟩ 1 1 (vals [q]) rfl (Ints.news w N q hN) (by simp [Value.oneCell']) (by omega) (by unfold maxLen; omega) (by omega) hB _ rfl
  refine wpListIn_plain hgd fun K hK => ?_
  unfold Oper.wpIn
  refine ⟨by simp [Oper.about, ho, resolve, Target.leads, Sem.run_pure], ?_⟩
  rw [Oper.semAt_plain F _ _ (by rw [ho]; intro c hc'; cases hc')]
  simp [execOp, ho, resolve, invoke, builtin, hs, hx, hr, Result.andThen]
  exact hK _ _ (h g c w' (by unfold OwnN; simpa using h1) h2 h4)

/-- what round k is told: the rate and the places of the k-th rate -/
def PrP (rate : Nat → Int) (n B2 : Nat) (k : Nat) (args : Array Value) (W : World) : Prop :=
  ∃ i g cap, i < n ∧ isF rate i = true ∧ k = (fsU rate i).length ∧ args = #[.int .i64 (rate i), .slice (some ⟨g, 0, none⟩) (plc rate (rate i) n).length cap] ∧ Cells W g 0 ((plc rate (rate i) n).map fun (j : Nat) => (j : Int)) ∧ B2 ≤ g
end Go.Proofs.YtnchgeiinkaefaaGreatDoor.Bill
end
