/-
  What impl.ascending hands out for a map of numbers: its entries in the order of their keys, for every loop body that keeps what it must.
-/
import Derived.Test.YthhkjbhkginecaaAsc1
import Derived.Test.YthhkjbhkginecaaSumM
namespace Go.Proofs.Ythhkjbhkginecaa.Sums
set_option linter.unusedVariables false
open Go.RowKit Go.Maps MapM Go.Shelf
open Uses (U U0)
open Evs (E E0 hide unhide RV law KpB below_trans below_grown enc_key)

attribute [local go_sem] Oper.semAt_some

/-- the map of sums as read -/
abbrev DU (l : List U) : DataW Value := DM keyU valU l
/-- block b is the map of the sums l -/
def UM (W : World) (b : Nat) (l : List U) : Prop := W.ownsMap Try.prog 9 RV b l.length (DU l)
theorem UM.kept {W W' : World} {b : Nat} {l : List U} (h : UM W b l) (hb : Below W.heap.size W W') : UM W' b l :=
  World.ownsMap.kept (row := none) h ⟨hb.os, hb.tape, hb.output, hb.size, fun j hj _ => hb.block j hj⟩ (by simp)
theorem UM.lt {W : World} {b : Nat} {l : List U} (h : UM W b l) : b < W.heap.size := World.ownsMap.lt h
theorem UM.keptK {B : Nat} {W W' : World} {b : Nat} {l : List U} (h : UM W b l) (hk : KpB B W W') (hb : b < B) : UM W' b l := by
  obtain ⟨es, clock, hb', F, hs, hD⟩ := h
  exact ⟨es, clock, hk.same b _ hb' (.inl hb), F, hs, hD⟩

/-- the keys in memory -/
def KC (W : World) (bk : Nat) (l : List U) : Prop := ∀ i, i < l.length → W.cell? ⟨bk, i, none⟩ = some (.string (l.getD i U0).1)

theorem keys_row {W : World} {base : Nat} {v : Value} {l : List U} (ha : Asc keyU l) {ss : List (List UInt8)} (hp : ss.Perm (strKeys (DU l))) (h : W.ownsRow base 9 1 v ss.length ((ss.mergeSort (fun x y => decide (x ≤ y))).map encStr)) :
    (l = [] ∧ v = .slice none 0 0) ∨ ∃ bk cap, v = .slice (some ⟨bk, 0, none⟩) l.length cap ∧ base ≤ bk ∧ bk < W.heap.size ∧ KC W bk l := by
  rw [keys_DM] at hp
  rw [sorted_keys keyU ha hp] at h
  have hlen : ss.length = l.length := by have := hp.length_eq; simpa using this
  obtain ⟨h1, h2⟩ := h
  rcases h2 with ⟨rfl, hn⟩ | ⟨g, cap, cur, rfl, hb, hg, hc1, hc2, hc3, hc4⟩
  · refine .inl ⟨List.length_eq_zero_iff.1 (by omega), rfl⟩
  · refine .inr ⟨g, cap, by rw [hlen], hb, ?_, fun i hi => ?_⟩
    · refine Nat.lt_of_not_le fun hle => ?_
      rw [Array.getElem?_eq_none hle] at hg; simp at hg
    · have e2 : cur[i]? = some (encStr (kb keyU (l.getD i U0))) := by
        have e1 : (cur.toList.take (ss.length * 1))[i]? = some (encStr (kb keyU (l.getD i U0))) := by
          rw [hc4]
          simp [List.getD, hi]
        rw [List.getElem?_take_of_lt (by omega)] at e1
        simpa using e1
      simp only [World.cell?, hg]
      rw [← enc_key]
      simpa using e2

theorem lkU_at {l : List U} (ha : Asc keyU l) {k : Nat} (hk : k < l.length) : lkU l (l.getD k U0).1 = (l.getD k U0).2 := by
  have hg : l.getD k U0 = l[k] := by simp [List.getD, hk]
  rw [hg]
  have hp : posU l l[k].1 = k := posU_hit ha hk
  rw [lk_yes (has_at hk rfl), hp, hg]
theorem zeroI (w : World) : (zeroValue 3).run Try.prog w = .ok (.int .i64 0) w := by kernel_rfl
theorem look1_run {w : World} {b : Nat} {n : Nat} {l : List U} {t : TypeId} {s : ByteArray} (ht : Try.prog.underlying t = some (.map 9 3)) (h : w.ownsMap Try.prog 9 RV b n (DU l)) (ha : Asc keyU l) (hs : s.size ≤ maxLen) :
    (Instr.lookup t (.map (some b)) (.string s) false).run Try.prog w = .ok (.int .i64 (lkU l s)) w := by
  obtain ⟨v, ps, hrun, hv⟩ := World.ownsMap.lookup h law ht (zeroI w) (zd := .held (.int .i64 0)) (zp := []) rfl (key := .string s) (WideMaps.keyOf_string_mk Try.underlying9 hs)
  rw [look_DU ha s] at hv
  simp only [RV, Option.some.injEq, Prod.mk.injEq, DataW.held.injEq] at hv
  rw [hv.1] at hrun
  exact hrun
theorem take_step {l : List U} {k : Nat} (hk : k < l.length) : l.take k ++ [l.getD k U0] = l.take (k + 1) := by
  rw [List.take_add_one, List.getElem?_eq_getElem hk]; simp [List.getD, hk]

set_option maxRecDepth 100000 in
set_option maxHeartbeats 2000000 in
theorem asc1 (n : Nat) (hn : 1 ≤ n) (lp Bm B b : Nat) (l : List U) (ha : Asc keyU l) (hl : l.length ≤ 1048576) (hs : ∀ u ∈ l, u.1.size ≤ maxLen) (J Jx : List U → World → Prop)
    (W : World) (hbB : b < B) (hBm : B + 2 ≤ Bm) (hBs : Bm < W.heap.size) (hJa : AbidesFrom W.heap.size J)
    (hY : ∀ pre x W1, J pre W1 → pre.length < l.length → YieldAt Fence.wide (n - 1) Try.prog lp #[.string x.1, valU x] W1 fun e W' =>
      (e = .returned (.bool true) ∧ J (pre ++ [x]) W' ∧ KpB B W1 W') ∨ (e = .returned (.bool false) ∧ Jx (pre ++ [x]) W'))
    (hc : W.cell? ⟨Bm, 0, none⟩ = some (.map (some b))) (hm : UM W b l) (h0 : J [] W) :
    CallsIn Fence.wide n Try.prog 59 #[.func (.yield lp) #[] #[], .pointer (some ⟨Bm, 0, none⟩)] W fun e W' => (∃ v, e = .returned v) ∧
      ((∃ ys, ys = l ∧ J ys W') ∨ (∃ pre, pre <+: l ∧ Jx pre W')) := by
  have HJ := hide hJa
  have HY := hide hY
  have H0 := hide h0
  have HA := hide ha
  have HM := hide hm
  have HS := hide hs
  clear hJa hY h0 ha hm hs
  refine callsIn_of_wp Try.func59 rfl trivial ?_ rfl
  simp only [Try.ntmps59, List.size_toArray, List.length_cons, List.length_nil, Nat.reduceAdd, Nat.reduceSub, Array.replicate_succ, Array.replicate_zero, List.push_toArray, List.append_toArray, List.nil_append, List.cons_append]
  gi_wp2_with (fail)
  refine ⟨trivial, (callsIn_wide.2 (callsIn_wide.1 (Try.maps_Keys_61 (some b) _))).mono ?_⟩
  rintro e w1 ⟨rfl, rfl⟩
  gi_wp2_with (fail)
  refine ⟨trivial, (callsIn_wide.2 (callsIn_wide.1 (Try.slices_Sorted_keys_60_61 b l.length (DU l) RV W (unhide HM) (by rw [size_DM]; unfold maxLen; omega) (by rw [size_DM]; omega)))).mono ?_⟩
  rintro e w2 ⟨v, ss, rfl, hS, hrow, hnil, hb2⟩
  have hbb : Below W.heap.size W w2 := below_trans ((Below.refl _ _).alloc (Nat.le_refl _) _) hb2
  have hkr := keys_row (unhide HA) hS hrow
  have c1 : w2.cell? ⟨Bm, 0, none⟩ = some (.map (some b)) := (hbb.cell (p := ⟨Bm, 0, none⟩) hBs).trans hc
  have HM2 := hide ((unhide HM).kept hbb)
  have HJ2 := hide (unhide HJ [] W w2 none (unhide H0) (below_grown hbb none) (by simp))
  have hsz2 : W.heap.size ≤ w2.heap.size := hbb.size
  clear hb2 hbb hS hrow hnil HM H0 hc
  rcases hkr with ⟨rfl, rfl⟩ | ⟨bk, cap, rfl, hbk, hbks, hkc⟩
  · gi_wp2
    gi_loopw [9] (fun i wr => i = .int .i64 0 ∧ Hid (J [] wr)) (fun i _ => 0)
    case atStart => exact ⟨rfl, HJ2⟩
    case round =>
      obtain ⟨rfl, hJs⟩ := hrel
      gi_wp2
      go_end0
      exact ⟨⟨_, rfl⟩, .inl ⟨_, rfl, unhide hJs⟩⟩
  · rw [World.size_alloc] at hbk
    have HKC := hide hkc
    clear hkc
    gi_wp2
    gi_loopw [9] (fun i wr => ∃ (k : Nat), k ≤ l.length ∧ i = .int .i64 k ∧ Hid (J (l.take k) wr) ∧ Hid (KC wr bk l) ∧ Hid (UM wr b l) ∧ wr.cell? ⟨Bm, 0, none⟩ = some (.map (some b)) ∧ W.heap.size ≤ wr.heap.size) (fun i _ => l.length - (intOf i).toNat)
    case atStart => exact ⟨0, Nat.zero_le _, rfl, HJ2, HKC, HM2, c1, hsz2⟩
    case round =>
      obtain ⟨k, hk, rfl, hJs, hkc, hmr, hcb, hsr⟩ := hrel
      by_cases hlt : k < l.length
      · have c0 := unhide hkc k hlt
        have hsz : (l.getD k U0).1.size ≤ maxLen := unhide HS _ (by simp [List.getD, hlt])
        have i1 : (0 : Int) ≤ (k : Int) := by omega
        have i2 : (k : Int) < (l.length : Int) := by omega
        have hlk := look1_run Try.underlying76 (unhide hmr) (unhide HA) hsz
        rw [lkU_at (unhide HA) hlt] at hlk
        obtain ⟨fn, tmps, assign, body, hy, hR⟩ := unhide HY (l.take k) (l.getD k U0) wr (unhide hJs) (by simp; omega)
        have HT := hide (take_step hlt)
        generalize l.getD k U0 = x at *
        obtain ⟨s, q⟩ := x
        dsimp only at hy c0 hlk
        have HR := hide hR
        clear hR
        gi_wp2
        refine (unhide HR).mono ?_
        rintro e W3 (⟨rfl, hJ3, hk3⟩ | ⟨rfl, hJx3⟩)
        · have HJ3 := hide hJ3
          rw [unhide HT] at HJ3
          have HK3 : Hid (KC W3 bk l) := hide (fun i hi => hk3.cell (unhide hkc i hi) (.inr (by omega)))
          have HM3 := hide ((unhide hmr).keptK hk3 hbB)
          have c3 := hk3.cell hcb (.inr hBm)
          have z3 := Nat.le_trans hsr hk3.size
          clear hJ3 hk3 hy
          gi_wp2
          go_roundw
          case rel => exact ⟨k + 1, by omega, by go_num, HJ3, HK3, HM3, c3, z3⟩
          case measure => simp [intOf]; omega
        · have HJ3 := hide hJx3
          rw [unhide HT] at HJ3
          clear hJx3 hy
          gi_wp2
          refine bodyPost_ret (results_none rfl _ _ _) rfl ?_
          exact ⟨⟨_, rfl⟩, .inr ⟨_, List.take_prefix _ _, unhide HJ3⟩⟩
      · obtain rfl : k = l.length := by omega
        rw [List.take_length] at hJs
        gi_wp2
        go_end0
        exact ⟨⟨_, rfl⟩, .inl ⟨_, rfl, unhide hJs⟩⟩

/-- what ascending hands out, as a loop over it wants it -/
theorem asc_stops (n : Nat) (hn : 1 ≤ n) (Bm B b : Nat) (l : List U) (ha : Asc keyU l) (hl : l.length ≤ 1048576) (hs : ∀ u ∈ l, u.1.size ≤ maxLen) (w : World) (hbB : b < B) (hBm : B + 2 ≤ Bm) (hBs : Bm < w.heap.size)
    (hc : w.cell? ⟨Bm, 0, none⟩ = some (.map (some b))) (hm : UM w b l) :
    SeqStopsK Fence.wide n Try.prog 59 #[.pointer (some ⟨Bm, 0, none⟩)] (fun x : U => #[Value.string x.1, valU x]) (KpB B) (fun ys => ys = l) (fun pre => pre <+: l) l.length w :=
  fun lp J Jx W hW hJ _ hY h0 =>
    asc1 n hn lp Bm B b l ha hl hs J Jx W hbB hBm (Nat.lt_of_lt_of_le hBs hW.size) hJ hY ((hW.cell (p := ⟨Bm, 0, none⟩) hBs).trans hc) (hm.kept hW) h0

/-- impl.ascending -/
theorem ascI (n : Nat) (b : Nat) (w : World) :
    CallsIn Fence.wide n Try.prog 46 #[.map (some b)] w fun e w' => e = .returned (.func (.func 59) #[] #[.pointer (some ⟨w.heap.size, 0, none⟩)]) ∧ w' = w.alloc (.cells #[.map (some b)] 76) := by
  refine callsIn_of_wp Try.func46 rfl trivial ?_ rfl
  simp only [Try.ntmps46, List.size_toArray, List.length_cons, List.length_nil, Nat.reduceAdd, Nat.reduceSub, Array.replicate_succ, Array.replicate_zero, List.push_toArray, List.append_toArray, List.nil_append, List.cons_append]
  gi_wp2
  go_ret
  exact ⟨rfl, rfl⟩
end Go.Proofs.Ythhkjbhkginecaa.Sums
