/-
  What impl.headsOf hands out: the heads ahead of, between and behind texts, one by one, to whatever loop keeps what it must.
-/
import Derived.Test.YtgaflnkefjmblaaChainM
import Derived.RangeFuncNested
import Derived.RangeFuncBound
import Derived.RangeFuncCalls
import Derived.RangeFuncLeaves
import Derived.Shelf.Abstract
import Derived.Shelf.RegionOpen
import Derived.OwnWalkIn
import Derived.TacticsInMore
import Derived.LoopNIn
import Derived.LoopIn
namespace Go.Proofs.Ytgaflnkefjmblaa.Chain
set_option linter.unusedVariables false
open Go.RowKit Go.Shelf
open Txt (S0 TC TR)

attribute [local go_sem] Oper.semAt_some

/-- what a round keeps: the blocks of S -/
structure KpS (S : Nat → Prop) (W W' : World) : Prop where
  os : W'.os = W.os
  tape : W'.tape = W.tape
  output : W'.output = W.output
  size : W.heap.size ≤ W'.heap.size
  same : ∀ j, S j → W'.heap[j]? = W.heap[j]?
theorem KpS.trans {S : Nat → Prop} {A C D : World} (h : KpS S A C) (k : KpS S C D) : KpS S A D :=
  ⟨k.os.trans h.os, k.tape.trans h.tape, k.output.trans h.output, Nat.le_trans h.size k.size, fun j hj => (k.same j hj).trans (h.same j hj)⟩
theorem KpS.put {S : Nat → Prop} {n : Nat} (hn : ∀ j, S j → j < n) (W : World) (l : Nat) (o o' : Obj) (hl : n ≤ l) (_ : W.heap[l]? = some o) (_ : o.isCells = false) (_ : o.isWalk = false) : KpS S W (W.putObj l o') :=
  ⟨rfl, rfl, rfl, by simp, fun j hj => World.putObj_heap_other (by have := hn j hj; omega)⟩
theorem KpS.grown {S : Nat → Prop} {W W' : World} {r : Option Nat} (hg : W.grownBy W' r) (hS : ∀ j, S j → j < W.heap.size) (hr : ∀ j, r = some j → ¬ S j) : KpS S W W' :=
  ⟨hg.os, hg.tape, hg.output, hg.size, fun j hj => hg.block j (hS j hj) (fun e => hr j e.symm hj)⟩
theorem KpS.cell {S : Nat → Prop} {W W' : World} (h : KpS S W W') {j o : Nat} {v : Value} (hc : W.cell? ⟨j, o, none⟩ = some v) (hj : S j) : W'.cell? ⟨j, o, none⟩ = some v :=
  (World.cell?_of_block (h.same j hj)).trans hc
/-- the texts in blocks of S -/
def TS (S : Nat → Prop) (W : World) (v : Value) (l : List ByteArray) : Prop :=
  (l = [] ∧ ∃ a c, v = .slice a 0 c) ∨ ∃ b o cap, v = .slice (some ⟨b, o, none⟩) l.length cap ∧ S b ∧ TC W b o l
theorem TS.keptK {S : Nat → Prop} {W W' : World} {v : Value} {l : List ByteArray} (h : TS S W v l) (hk : KpS S W W') : TS S W' v l := by
  rcases h with h | ⟨b, o, cap, rfl, hb, h⟩
  · exact .inl h
  · exact .inr ⟨b, o, cap, rfl, hb, Nat.lt_of_lt_of_le h.1 hk.size, fun i hi => hk.cell (h.2 i hi) hb⟩
theorem TR.ts {W : World} {v : Value} {l : List ByteArray} {S : Nat → Prop} (h : TR W v l) (hS : ∀ j, j < W.heap.size → S j) : TS S W v l := by
  rcases h with h | ⟨b, o, cap, rfl, h⟩
  · exact .inl h
  · exact .inr ⟨b, o, cap, rfl, hS b h.1, h⟩
theorem TS.kept {S : Nat → Prop} {W W' : World} {v : Value} {l : List ByteArray} (h : TS S W v l) (hb : Below W.heap.size W W') : TS S W' v l := by
  rcases h with h | ⟨b, o, cap, rfl, hb2, h⟩
  · exact .inl h
  · exact .inr ⟨b, o, cap, rfl, hb2, h.kept hb⟩
theorem below_grown {a b : World} (h : Below a.heap.size a b) (r : Option Nat) : a.grownBy b r := ⟨h.os, h.tape, h.output, h.size, fun j hj _ => h.block j hj⟩

theorem fitsI (a : Option Addr) (n c : Nat) (w : World) (hn : n ≤ maxLen) : Calls Try.prog 37 #[.slice a n c] w fun e w' => e = .returned (.bool (decide ((n : Int) ≤ 400))) ∧ w' = w := by
  unfold maxLen at hn
  go_enter Try.func37, Try.ntmps37
  go_wp2
  go_ret
  exact ⟨rfl, rfl⟩
/-- the heads that have come -/
def pre (l : List ByteArray) (k : Nat) : List Int := (List.range k).map (hdK l)
theorem pre_len (l : List ByteArray) (k : Nat) : (pre l k).length = k := by simp [pre]
theorem pre_succ (l : List ByteArray) (k : Nat) : pre l k ++ [hdK l k] = pre l (k + 1) := (headsF_step l k).symm
theorem pre_one (l : List ByteArray) : pre l 1 = [27182] := rfl
theorem pre_pre (l : List ByteArray) {k : Nat} (h : k ≤ cnt l + 1) : pre l k <+: headsF l := heads_pre l h

set_option maxRecDepth 100000 in
set_option maxHeartbeats 2000000 in
theorem heads1 (n : Nat) (hn : 1 ≤ n) (lp Bm : Nat) (S : Nat → Prop) (v : Value) (l : List ByteArray) (hl : l.length ≤ maxLen) (hs : ∀ u ∈ l, u.size ≤ 100000000) (J Jx : List Int → World → Prop)
    (W : World) (hBm : S Bm) (hS : ∀ j, S j → j < W.heap.size) (hJa : AbidesFrom W.heap.size J)
    (hY : ∀ pre x W1, J pre W1 → pre.length < cnt l + 1 → YieldAt Fence.wide (n - 1) Try.prog lp #[.int .i64 x] W1 fun e W' =>
      (e = .returned (.bool true) ∧ J (pre ++ [x]) W' ∧ KpS S W1 W') ∨ (e = .returned (.bool false) ∧ Jx (pre ++ [x]) W'))
    (hc : W.cell? ⟨Bm, 0, none⟩ = some v) (hT : TS S W v l) (h0 : J [] W) :
    CallsIn Fence.wide n Try.prog 45 #[.func (.yield lp) #[] #[], .pointer (some ⟨Bm, 0, none⟩)] W fun e W' => (∃ v, e = .returned v) ∧
      ((∃ ys, ys = headsF l ∧ J ys W') ∨ (∃ pre, pre <+: headsF l ∧ Jx pre W')) := by
  have HJ := hide hJa
  have HY := hide hY
  have HS := hide hs
  obtain ⟨fn, tmps, assign, body, hy, hR⟩ := hY [] 27182 W h0 (by simp)
  have HT := hide hT
  have HSS := hide hS
  clear hJa hY h0 hs hT hS
  have HR := hide hR
  clear hR
  refine callsIn_of_wp Try.func45 rfl trivial ?_ rfl
  simp only [Try.ntmps45, List.size_toArray, List.length_cons, List.length_nil, Nat.reduceAdd, Nat.reduceSub, Array.replicate_succ, Array.replicate_zero, List.push_toArray, List.append_toArray, List.nil_append, List.cons_append]
  gi_wp2_with (fail)
  refine (unhide HR).mono ?_
  rintro e W1 (⟨rfl, hJ1, hk1⟩ | ⟨rfl, hJx⟩)
  · have hc1 := hk1.cell hc hBm
    have HT1 := hide ((unhide HT).keptK hk1)
    have HJ1 := hide hJ1
    have hz1 := hk1.size
    have HS1 : Hid (∀ j, S j → j < W1.heap.size) := hide (fun j hj => Nat.lt_of_lt_of_le (unhide HSS j hj) hz1)
    rw [List.nil_append] at HJ1
    clear hy hk1 hJ1 HR HT hc
    by_cases hfit : l.length ≤ 400
    · have hcnt : cnt l = l.length := by unfold cnt; rw [if_pos hfit]
      have hd : decide ((l.length : Int) ≤ 400) = true := decide_eq_true (by omega)
      have HH : Hid (pre l (l.length + 1) = headsF l) := hide (by unfold pre headsF; rw [hcnt])
      have HP : Hid (∀ k, k ≤ l.length + 1 → pre l k <+: headsF l) := hide (fun k hk => pre_pre l (by omega))
      rcases unhide HT1 with ⟨rfl, a, c, rfl⟩ | ⟨b, o, cap, rfl, hb, htc⟩
      · gi_wp2_with (fail)
        refine ⟨trivial, (callsIn_wide.2 (fitsI _ _ _ _ (by unfold maxLen; omega))).mono ?_⟩
        rintro e w' ⟨rfl, hw'⟩
        replace hw' := hw'.symm
        subst hw'
        gi_wp2
        gi_loopw [17] (fun i wr => i = .int .i64 0 ∧ Hid (J [27182] wr)) (fun i _ => 0)
        case atStart => exact ⟨rfl, HJ1⟩
        case round =>
          obtain ⟨rfl, hJs⟩ := hrel
          gi_wp2
          go_end0
          exact ⟨⟨_, rfl⟩, .inl ⟨_, rfl, unhide hJs⟩⟩
      · have HC := hide htc
        clear htc
        gi_wp2_with (fail)
        refine ⟨trivial, (callsIn_wide.2 (fitsI _ _ _ _ (by unfold maxLen; omega))).mono ?_⟩
        rintro e w' ⟨rfl, hw'⟩
        replace hw' := hw'.symm
        subst hw'
        gi_wp2
        gi_loopw [3, 17] (fun h i wr => ∃ (k : Nat), k ≤ l.length ∧ i = .int .i64 k ∧ h = .int .i64 (hdK l k) ∧ Hid (J (pre l (k + 1)) wr) ∧ Hid (TC wr b o l) ∧ W1.heap.size ≤ wr.heap.size) (fun _ i _ => l.length - (intOf i).toNat)
        case atStart => exact ⟨0, Nat.zero_le _, rfl, rfl, HJ1, HC, Nat.le_refl _⟩
        case round =>
          obtain ⟨k, hk, rfl, rfl, hJs, htc, hsr⟩ := hrel
          by_cases hlt : k < l.length
          · have c0 := (unhide htc).2 k hlt
            have hsz : (l.getD k S0).size ≤ 100000000 := unhide HS _ (by simp [List.getD, hlt])
            have i1 : (0 : Int) ≤ (k : Int) := by omega
            have i2 : (k : Int) < (l.length : Int) := by omega
            have hh := hdK_succ hlt
            unfold mixT at hh
            have hps := pre_succ l (k + 1)
            obtain ⟨fn, tmps, assign, body, hy, hR⟩ := unhide HY (pre l (k + 1)) (hdK l (k + 1)) wr (unhide hJs) (by rw [pre_len]; omega)
            rw [hh] at hy hR hps
            have HPS := hide hps
            have HHD := hide hh
            clear hh hps
            generalize hdK l k = h1 at *
            generalize l.getD k S0 = x at *
            have HR := hide hR
            clear hR
            gi_wp2_with (fail)
            refine ⟨trivial, (callsIn_wide.2 (mixI _ _ _ hsz)).mono ?_⟩
            rintro e w' ⟨rfl, rfl⟩
            gi_wp2
            refine (unhide HR).mono ?_
            rintro e W3 (⟨rfl, hJ3, hk3⟩ | ⟨rfl, hJx3⟩)
            · have HJ3 := hide hJ3
              rw [unhide HPS] at HJ3
              have HC3 : Hid (TC W3 b o l) := hide ⟨Nat.lt_of_lt_of_le (unhide htc).1 hk3.size, fun i hi => hk3.cell ((unhide htc).2 i hi) hb⟩
              have z3 := Nat.le_trans hsr hk3.size
              clear hJ3 hk3 hy
              gi_wp2
              go_roundw
              case rel => exact ⟨k + 1, by omega, by go_num, by rw [unhide HHD], HJ3, HC3, z3⟩
              case measure => simp [intOf]; omega
            · have HJ3 := hide hJx3
              rw [unhide HPS] at HJ3
              clear hJx3 hy
              gi_wp2
              refine bodyPost_ret (results_none rfl _ _ _) rfl ?_
              exact ⟨⟨_, rfl⟩, .inr ⟨_, unhide HP _ (by omega), unhide HJ3⟩⟩
          · obtain rfl : k = l.length := by omega
            rw [unhide HH] at hJs
            gi_wp2
            go_end0
            exact ⟨⟨_, rfl⟩, .inl ⟨_, rfl, unhide hJs⟩⟩
    · have hcnt : cnt l = 0 := by unfold cnt; rw [if_neg hfit]
      have hd : decide ((l.length : Int) ≤ 400) = false := decide_eq_false (by omega)
      have HH : Hid ([27182] = headsF l) := hide (by unfold headsF; rw [hcnt]; rfl)
      have hform : ∃ a c, v = .slice a l.length c := by
        rcases unhide HT1 with ⟨rfl, a, c, rfl⟩ | ⟨b, o, cap, rfl, hb, htc⟩
        · exact ⟨a, c, rfl⟩
        · exact ⟨_, _, rfl⟩
      obtain ⟨a, c, rfl⟩ := hform
      clear HT1
      gi_wp2_with (fail)
      refine ⟨trivial, (callsIn_wide.2 (fitsI _ _ _ _ hl)).mono ?_⟩
      rintro e w' ⟨rfl, rfl⟩
      gi_wp2
      refine bodyPost_ret (results_none rfl _ _ _) rfl ?_
      exact ⟨⟨_, rfl⟩, .inl ⟨_, unhide HH, unhide HJ1⟩⟩
  · have HJ3 := hide hJx
    rw [List.nil_append] at HJ3
    clear hJx hy
    gi_wp2
    refine ⟨trivial, ?_⟩
    gi_wp2
    refine bodyPost_ret (results_none rfl _ _ _) rfl ?_
    exact ⟨⟨_, rfl⟩, .inr ⟨_, (pre_one l) ▸ pre_pre l (by omega), unhide HJ3⟩⟩

/-- what headsOf hands out, as a loop over it wants it -/
theorem heads_stops (n : Nat) (hn : 1 ≤ n) (Bm : Nat) (S : Nat → Prop) (v : Value) (l : List ByteArray) (hl : l.length ≤ maxLen) (hs : ∀ u ∈ l, u.size ≤ 100000000) (w : World) (hBm : S Bm) (hS : ∀ j, S j → j < w.heap.size)
    (hc : w.cell? ⟨Bm, 0, none⟩ = some v) (hT : TS S w v l) :
    SeqStopsK Fence.wide n Try.prog 45 #[.pointer (some ⟨Bm, 0, none⟩)] (fun x : Int => #[Value.int .i64 x]) (KpS S) (fun ys => ys = headsF l) (fun pre => pre <+: headsF l) (cnt l + 1) w :=
  fun lp J Jx W hW hJ _ hY h0 =>
    heads1 n hn lp Bm S v l hl hs J Jx W hBm (fun j hj => Nat.lt_of_lt_of_le (hS j hj) hW.size) hJ hY ((hW.cell (p := ⟨Bm, 0, none⟩) (hS Bm hBm)).trans hc) (hT.kept hW) h0

/-- impl.headsOf -/
theorem headsOfI (n : Nat) (v : Value) (hv : v.oneCell' = true) (w : World) :
    CallsIn Fence.wide n Try.prog 39 #[v] w fun e w' => e = .returned (.func (.func 45) #[] #[.pointer (some ⟨w.heap.size, 0, none⟩)]) ∧ w' = w.alloc (.cells #[v] 23) := by
  refine callsIn_of_wp Try.func39 rfl trivial ?_ rfl
  simp only [Try.ntmps39, List.size_toArray, List.length_cons, List.length_nil, Nat.reduceAdd, Nat.reduceSub, Array.replicate_succ, Array.replicate_zero, List.push_toArray, List.append_toArray, List.nil_append, List.cons_append]
  gi_wp2
  go_ret
  exact ⟨rfl, rfl⟩
end Go.Proofs.Ytgaflnkefjmblaa.Chain
