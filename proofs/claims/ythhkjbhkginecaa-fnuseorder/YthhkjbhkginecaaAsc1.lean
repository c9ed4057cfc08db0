/-
  What impl.ascending hands out for a map of events: the events in the order of their Ids, for every loop body that keeps what it must.
-/
import Derived.Test.YthhkjbhkginecaaKeepFix
import Derived.Test.YthhkjbhkginecaaIter
import Derived.RangeFuncNested
import Derived.RangeFuncBound
import Derived.RangeFuncCalls
import Derived.RangeFuncLeaves
import Derived.Shelf.Abstract
import Derived.Shelf.RegionOpen
import Derived.OwnWalkIn
import Derived.TacticsInMore
import Derived.LoopNIn
import Derived.LoopIn
namespace Go.Proofs.Ythhkjbhkginecaa.Evs
set_option linter.unusedVariables false
open Go.RowKit Go.Maps MapM Go.Shelf

attribute [local go_sem] Oper.semAt_some

/-- what a round keeps: all that lies below B, and every row of cells from B + 2 on -/
structure KpB (B : Nat) (W W' : World) : Prop where
  os : W'.os = W.os
  tape : W'.tape = W.tape
  output : W'.output = W.output
  size : W.heap.size ≤ W'.heap.size
  same : ∀ (j : Nat) (o : Obj), W.heap[j]? = some o → (j < B ∨ B + 2 ≤ j ∧ o.isCells = true) → W'.heap[j]? = some o
theorem KpB.trans {B : Nat} {A C D : World} (h : KpB B A C) (k : KpB B C D) : KpB B A D :=
  ⟨k.os.trans h.os, k.tape.trans h.tape, k.output.trans h.output, Nat.le_trans h.size k.size, fun j o hj ho => k.same j o (h.same j o hj ho) ho⟩
theorem KpB.put {B : Nat} {n : Nat} (hn : B ≤ n) (W : World) (l : Nat) (o o' : Obj) (hl : n ≤ l) (h : W.heap[l]? = some o) (hc : o.isCells = false) (_ : o.isWalk = false) : KpB B W (W.putObj l o') := by
  have hg := grownBy_putObj' W l o'
  refine ⟨hg.os, hg.tape, hg.output, hg.size, fun j x hj hx => ?_⟩
  have hjs : j < W.heap.size := by
    refine Nat.lt_of_not_le fun hle => ?_
    rw [Array.getElem?_eq_none hle] at hj; simp at hj
  have hne : some j ≠ some l := by
    intro e
    simp only [Option.some.injEq] at e
    subst e
    rw [hj] at h
    simp only [Option.some.injEq] at h
    subst h
    rcases hx with hx | ⟨_, hx⟩
    · omega
    · rw [hc] at hx; simp at hx
  exact (hg.block j hjs hne).trans hj
theorem KpB.cell {B : Nat} {W W' : World} (h : KpB B W W') {j o : Nat} {v : Value} (hc : W.cell? ⟨j, o, none⟩ = some v) (hj : j < B ∨ B + 2 ≤ j) : W'.cell? ⟨j, o, none⟩ = some v := by
  obtain ⟨x, hx, hxc⟩ := cells_of_cell hc
  have := h.same j x hx (hj.imp id (fun e => ⟨e, hxc⟩))
  exact (World.cell?_of_block (this.trans hx.symm)).trans hc
theorem EM.keptK {B : Nat} {W W' : World} {b : Nat} {l : List E} (h : EM W b l) (hk : KpB B W W') (hb : b < B) : EM W' b l := by
  obtain ⟨es, clock, hb', F, hs, hD⟩ := h
  exact ⟨es, clock, hk.same b _ hb' (.inl hb), F, hs, hD⟩

/-- the keys in memory -/
def KC (W : World) (bk : Nat) (l : List E) : Prop := ∀ i, i < l.length → W.cell? ⟨bk, i, none⟩ = some (.string (l.getD i E0).1)

theorem enc_key (s : ByteArray) : encStr s.data.toList = .string s := by cases s; simp [encStr]
theorem keys_row {W : World} {base : Nat} {v : Value} {l : List E} (ha : Asc keyE l) {ss : List (List UInt8)} (hp : ss.Perm (strKeys (DE l))) (h : W.ownsRow base 9 1 v ss.length ((ss.mergeSort (fun x y => decide (x ≤ y))).map encStr)) :
    (l = [] ∧ v = .slice none 0 0) ∨ ∃ bk cap, v = .slice (some ⟨bk, 0, none⟩) l.length cap ∧ base ≤ bk ∧ bk < W.heap.size ∧ KC W bk l := by
  rw [keys_DM] at hp
  rw [sorted_keys keyE ha hp] at h
  have hlen : ss.length = l.length := by have := hp.length_eq; simpa using this
  obtain ⟨h1, h2⟩ := h
  rcases h2 with ⟨rfl, hn⟩ | ⟨g, cap, cur, rfl, hb, hg, hc1, hc2, hc3, hc4⟩
  · refine .inl ⟨List.length_eq_zero_iff.1 (by omega), rfl⟩
  · refine .inr ⟨g, cap, by rw [hlen], hb, ?_, fun i hi => ?_⟩
    · refine Nat.lt_of_not_le fun hle => ?_
      rw [Array.getElem?_eq_none hle] at hg; simp at hg
    · have e2 : cur[i]? = some (encStr (kb keyE (l.getD i E0))) := by
        have e1 : (cur.toList.take (ss.length * 1))[i]? = some (encStr (kb keyE (l.getD i E0))) := by
          rw [hc4]
          simp [List.getD, hi]
        rw [List.getElem?_take_of_lt (by omega)] at e1
        simpa using e1
      simp only [World.cell?, hg]
      rw [← enc_key]
      simpa using e2
theorem grown_alloc (w : World) (o : Obj) : w.grownBy (w.alloc o) none := ⟨rfl, rfl, rfl, by simp, fun j hj _ => Below.heap_alloc w o j hj⟩

theorem lookE_at {l : List E} (ha : Asc keyE l) {k : Nat} (hk : k < l.length) : lookE l (l.getD k E0).1 = (l.getD k E0, true) := by
  have hg : l.getD k E0 = l[k] := by simp [List.getD, hk]
  rw [hg]
  rcases lookE_cases l l[k].1 with ⟨k', hk', e1, e2⟩ | ⟨hn, _⟩
  · have : k' = k := by
      rcases Nat.lt_trichotomy k' k with h | h | h
      · have := List.pairwise_iff_getElem.1 ha k' k hk' hk h
        simp only [kb, keyE] at this
        rw [e1] at this
        exact absurd this (List.lt_irrefl _)
      · exact h
      · have := List.pairwise_iff_getElem.1 ha k k' hk hk' h
        simp only [kb, keyE] at this
        rw [e1] at this
        exact absurd this (List.lt_irrefl _)
    subst this
    exact e2
  · exact absurd rfl (hn _ (List.getElem_mem hk))
theorem look1_run {w : World} {b : Nat} {l : List E} {t : TypeId} {s : ByteArray} (ht : Try.prog.underlying t = some (.map 9 31)) (h : EM w b l) (ha : Asc keyE l) (hs : s.size ≤ maxLen) :
    (Instr.lookup t (.map (some b)) (.string s) false).run Try.prog w = .ok (eV (lookE l s).1) w := by
  obtain ⟨v, ps, hrun, hv⟩ := World.ownsMap.lookup h law ht (zeroE w) (zd := .held (eV E0)) (zp := []) rfl (key := .string s) (WideMaps.keyOf_string_mk Try.underlying9 hs)
  rw [(look_DE ha s).1] at hv
  simp only [RV, Option.some.injEq, Prod.mk.injEq, DataW.held.injEq] at hv
  rw [hv.1] at hrun
  exact hrun
theorem take_step {l : List E} {k : Nat} (hk : k < l.length) : l.take k ++ [l.getD k E0] = l.take (k + 1) := by
  rw [List.take_add_one, List.getElem?_eq_getElem hk]; simp [List.getD, hk]

set_option maxRecDepth 100000 in
set_option maxHeartbeats 2000000 in
theorem asc1 (n : Nat) (hn : 1 ≤ n) (lp Bm B b : Nat) (l : List E) (ha : Asc keyE l) (hl : l.length ≤ 1048576) (hs : ∀ u ∈ l, u.1.size ≤ maxLen) (J Jx : List E → World → Prop)
    (W : World) (hbB : b < B) (hBm : B + 2 ≤ Bm) (hBs : Bm < W.heap.size) (hJa : AbidesFrom W.heap.size J)
    (hY : ∀ pre x W1, J pre W1 → pre.length < l.length → YieldAt Fence.wide (n - 1) Try.prog lp #[.string x.1, eV x] W1 fun e W' =>
      (e = .returned (.bool true) ∧ J (pre ++ [x]) W' ∧ KpB B W1 W') ∨ (e = .returned (.bool false) ∧ Jx (pre ++ [x]) W'))
    (hc : W.cell? ⟨Bm, 0, none⟩ = some (.map (some b))) (hm : EM W b l) (h0 : J [] W) :
    CallsIn Fence.wide n Try.prog 67 #[.func (.yield lp) #[] #[], .pointer (some ⟨Bm, 0, none⟩)] W fun e W' => (∃ v, e = .returned v) ∧
      ((∃ ys, ys = l ∧ J ys W') ∨ (∃ pre, pre <+: l ∧ Jx pre W')) := by
  have HJ := hide hJa
  have HY := hide hY
  have H0 := hide h0
  have HA := hide ha
  have HM := hide hm
  have HS := hide hs
  clear hJa hY h0 ha hm hs
  refine callsIn_of_wp Try.func67 rfl trivial ?_ rfl
  simp only [Try.ntmps67, List.size_toArray, List.length_cons, List.length_nil, Nat.reduceAdd, Nat.reduceSub, Array.replicate_succ, Array.replicate_zero, List.push_toArray, List.append_toArray, List.nil_append, List.cons_append]
  gi_wp2_with (fail)
  refine ⟨trivial, (callsIn_wide.2 (callsIn_wide.1 (Try.maps_Keys_68 (some b) _))).mono ?_⟩
  rintro e w1 ⟨rfl, rfl⟩
  gi_wp2_with (fail)
  refine ⟨trivial, (callsIn_wide.2 (callsIn_wide.1 (Try.slices_Sorted_keys_60_68 b l.length (DE l) RV W (unhide HM) (by rw [size_DM]; unfold maxLen; omega) (by rw [size_DM]; omega)))).mono ?_⟩
  rintro e w2 ⟨v, ss, rfl, hS, hrow, hnil, hb2⟩
  have hbb : Below W.heap.size W w2 := below_trans ((Below.refl _ _).alloc (Nat.le_refl _) _) hb2
  have hkr := keys_row (unhide HA) hS hrow
  have c1 : w2.cell? ⟨Bm, 0, none⟩ = some (.map (some b)) := (hbb.cell (p := ⟨Bm, 0, none⟩) hBs).trans hc
  have HM2 := hide ((unhide HM).kept hbb)
  have HJ2 := hide (unhide HJ [] W w2 none (unhide H0) (below_grown hbb none) (by simp))
  have hsz2 : W.heap.size ≤ w2.heap.size := hbb.size
  clear hb2 hbb hS hrow hnil HM H0 hc
  rcases hkr with ⟨rfl, rfl⟩ | ⟨bk, cap, rfl, hbk, hbks, hkc⟩
  · gi_wp2
    gi_loopw [9] (fun i wr => i = .int .i64 0 ∧ Hid (J [] wr)) (fun i _ => 0)
    case atStart => exact ⟨rfl, HJ2⟩
    case round =>
      obtain ⟨rfl, hJs⟩ := hrel
      gi_wp2
      go_end0
      exact ⟨⟨_, rfl⟩, .inl ⟨_, rfl, unhide hJs⟩⟩
  · rw [World.size_alloc] at hbk
    have HKC := hide hkc
    clear hkc
    gi_wp2
    gi_loopw [9] (fun i wr => ∃ (k : Nat), k ≤ l.length ∧ i = .int .i64 k ∧ Hid (J (l.take k) wr) ∧ Hid (KC wr bk l) ∧ Hid (EM wr b l) ∧ wr.cell? ⟨Bm, 0, none⟩ = some (.map (some b)) ∧ W.heap.size ≤ wr.heap.size) (fun i _ => l.length - (intOf i).toNat)
    case atStart => exact ⟨0, Nat.zero_le _, rfl, HJ2, HKC, HM2, c1, hsz2⟩
    case round =>
      obtain ⟨k, hk, rfl, hJs, hkc, hmr, hcb, hsr⟩ := hrel
      by_cases hlt : k < l.length
      · have c0 := unhide hkc k hlt
        have hsz : (l.getD k E0).1.size ≤ maxLen := unhide HS _ (by simp [List.getD, hlt])
        have i1 : (0 : Int) ≤ (k : Int) := by omega
        have i2 : (k : Int) < (l.length : Int) := by omega
        have hlk := look1_run Try.underlying66 (unhide hmr) (unhide HA) hsz
        rw [lookE_at (unhide HA) hlt] at hlk
        obtain ⟨fn, tmps, assign, body, hy, hR⟩ := unhide HY (l.take k) (l.getD k E0) wr (unhide hJs) (by simp; omega)
        have HT := hide (take_step hlt)
        generalize l.getD k E0 = x at *
        obtain ⟨s, m, q⟩ := x
        dsimp only at hy c0 hlk
        have HR := hide hR
        clear hR
        gi_wp2
        refine (unhide HR).mono ?_
        rintro e W3 (⟨rfl, hJ3, hk3⟩ | ⟨rfl, hJx3⟩)
        · have HJ3 := hide hJ3
          rw [unhide HT] at HJ3
          have HK3 : Hid (KC W3 bk l) := hide (fun i hi => hk3.cell (unhide hkc i hi) (.inr (by omega)))
          have HM3 := hide ((unhide hmr).keptK hk3 hbB)
          have c3 := hk3.cell hcb (.inr hBm)
          have z3 := Nat.le_trans hsr hk3.size
          clear hJ3 hk3 hy
          gi_wp2
          go_roundw
          case rel => exact ⟨k + 1, by omega, by go_num, HJ3, HK3, HM3, c3, z3⟩
          case measure => simp [intOf]; omega
        · have HJ3 := hide hJx3
          rw [unhide HT] at HJ3
          clear hJx3 hy
          gi_wp2
          refine bodyPost_ret (results_none rfl _ _ _) rfl ?_
          exact ⟨⟨_, rfl⟩, .inr ⟨_, List.take_prefix _ _, unhide HJ3⟩⟩
      · obtain rfl : k = l.length := by omega
        rw [List.take_length] at hJs
        gi_wp2
        go_end0
        exact ⟨⟨_, rfl⟩, .inl ⟨_, rfl, unhide hJs⟩⟩

/-- what ascending hands out, as a loop over it wants it -/
theorem asc_stops (n : Nat) (hn : 1 ≤ n) (Bm B b : Nat) (l : List E) (ha : Asc keyE l) (hl : l.length ≤ 1048576) (hs : ∀ u ∈ l, u.1.size ≤ maxLen) (w : World) (hbB : b < B) (hBm : B + 2 ≤ Bm) (hBs : Bm < w.heap.size)
    (hc : w.cell? ⟨Bm, 0, none⟩ = some (.map (some b))) (hm : EM w b l) :
    SeqStopsK Fence.wide n Try.prog 67 #[.pointer (some ⟨Bm, 0, none⟩)] (fun x : E => #[Value.string x.1, eV x]) (KpB B) (fun ys => ys = l) (fun pre => pre <+: l) l.length w :=
  fun lp J Jx W hW hJ _ hY h0 =>
    asc1 n hn lp Bm B b l ha hl hs J Jx W hbB hBm (Nat.lt_of_lt_of_le hBs hW.size) hJ hY ((hW.cell (p := ⟨Bm, 0, none⟩) hBs).trans hc) (hm.kept hW) h0

/-- impl.ascending -/
theorem ascI (n : Nat) (b : Nat) (w : World) :
    CallsIn Fence.wide n Try.prog 53 #[.map (some b)] w fun e w' => e = .returned (.func (.func 67) #[] #[.pointer (some ⟨w.heap.size, 0, none⟩)]) ∧ w' = w.alloc (.cells #[.map (some b)] 66) := by
  refine callsIn_of_wp Try.func53 rfl trivial ?_ rfl
  simp only [Try.ntmps53, List.size_toArray, List.length_cons, List.length_nil, Nat.reduceAdd, Nat.reduceSub, Array.replicate_succ, Array.replicate_zero, List.push_toArray, List.append_toArray, List.nil_append, List.cons_append]
  gi_wp2
  go_ret
  exact ⟨rfl, rfl⟩
end Go.Proofs.Ythhkjbhkginecaa.Evs
