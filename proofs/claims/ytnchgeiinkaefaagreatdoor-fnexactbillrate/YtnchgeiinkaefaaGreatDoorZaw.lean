/-
  Texts of this proof laid together, in build order; each says of itself what it holds.
-/
import Derived.Test.YtnchgeiinkaefaaGreatDoorZav
import Derived.RangeFuncNested
import Derived.RangeFuncBound
import Derived.RangeFuncCalls
import Derived.RangeFuncLeaves
import Derived.Shelf.Abstract
import Derived.Shelf.RegionOpen
import Derived.OwnWalkIn
import Derived.TacticsInMore
import Derived.LoopNIn
import Derived.LoopIn
import Derived.ArgAppend
import Derived.Deep.AppendLies
import Derived.Test.YtnchgeiinkaefaaGreatDoorZal
import Derived.Test.YtnchgeiinkaefaaGreatDoorZaf
import Derived.Test.YtnchgeiinkaefaaGreatDoorZah
import Derived.Deep.AppendSrc
import Derived.Deep.RegionHeldLaw
import Derived.OwnWalk
import Derived.Laws.IdiomStrings
import Derived.Test.YtnchgeiinkaefaaGreatDoorZam
section
/-
  What impl.ascending hands out for a map of events: the events in the order of their Ids, for every loop body that keeps what it must.
-/
namespace Go.Proofs.YtnchgeiinkaefaaGreatDoor.Evs
set_option linter.unusedVariables false
open Go.RowKit Go.Maps MapM Go.Shelf

attribute [local go_sem] Oper.semAt_some

/-- what a round keeps: all that lies below B, and every row of cells from B + 2 on -/
structure KpB (B : Nat) (W W' : World) : Prop where
  os : W'.os = W.os
  tape : W'.tape = W.tape
  output : W'.output = W.output
  size : W.heap.size ≤ W'.heap.size
  same : ∀ (j : Nat) (o : Obj), W.heap[j]? = some o → (j < B ∨ B + 2 ≤ j ∧ o.isCells = true) → W'.heap[j]? = some o
theorem KpB.trans {B : Nat} {A C D : World} (h : KpB B A C) (k : KpB B C D) : KpB B A D :=
  ⟨k.os.trans h.os, k.tape.trans h.tape, k.output.trans h.output, Nat.le_trans h.size k.size, fun j o hj ho => k.same j o (h.same j o hj ho) ho⟩
theorem KpB.put {B : Nat} {n : Nat} (hn : B ≤ n) (W : World) (l : Nat) (o o' : Obj) (hl : n ≤ l) (h : W.heap[l]? = some o) (hc : o.isCells = false) (_ : o.isWalk = false) : KpB B W (W.putObj l o') := by
  have hg := grownBy_putObj' W l o'
  refine ⟨hg.os, hg.tape, hg.output, hg.size, fun j x hj hx => ?_⟩
  have hjs : j < W.heap.size := by
    refine Nat.lt_of_not_le fun hle => ?_
    rw [Array.getElem?_eq_none hle] at hj; simp at hj
  have hne : some j ≠ some l := by
    intro e
    simp only [Option.some.injEq] at e
    subst e
    rw [hj] at h
    simp only [Option.some.injEq] at h
    subst h
    rcases hx with hx | ⟨_, hx⟩
    · omega
    · rw [hc] at hx; simp at hx
  exact (hg.block j hjs hne).trans hj
theorem KpB.cell {B : Nat} {W W' : World} (h : KpB B W W') {j o : Nat} {v : Value} (hc : W.cell? ⟨j, o, none⟩ = some v) (hj : j < B ∨ B + 2 ≤ j) : W'.cell? ⟨j, o, none⟩ = some v := by
  obtain ⟨x, hx, hxc⟩ := cells_of_cell hc
  have := h.same j x hx (hj.imp id (fun e => ⟨e, hxc⟩))
  exact (World.cell?_of_block (this.trans hx.symm)).trans hc
theorem EM.keptK {B : Nat} {W W' : World} {b : Nat} {l : List E} (h : EM W b l) (hk : KpB B W W') (hb : b < B) : EM W' b l := by
  obtain ⟨es, clock, hb', F, hs, hD⟩ := h
  exact ⟨es, clock, hk.same b _ hb' (.inl hb), F, hs, hD⟩

/-- the keys in memory -/
def KC (W : World) (bk : Nat) (l : List E) : Prop := ∀ i, i < l.length → W.cell? ⟨bk, i, none⟩ = some (.string (l.getD i E0).1)

theorem enc_key (s : ByteArray) : encStr s.data.toList = .string s := by cases s; simp [encStr]
theorem keys_row {W : World} {base : Nat} {v : Value} {l : List E} (ha : Asc keyE l) {ss : List (List UInt8)} (hp : ss.Perm (strKeys (DE l))) (h : W.ownsRow base 9 1 v ss.length ((ss.mergeSort (fun x y => decide (x ≤ y))).map encStr)) :
    (l = [] ∧ v = .slice none 0 0) ∨ ∃ bk cap, v = .slice (some ⟨bk, 0, none⟩) l.length cap ∧ base ≤ bk ∧ bk < W.heap.size ∧ KC W bk l := by
  rw [keys_DM] at hp
  rw [sorted_keys keyE ha hp] at h
  have hlen : ss.length = l.length := by have := hp.length_eq; simpa using this
  obtain ⟨h1, h2⟩ := h
  rcases h2 with ⟨rfl, hn⟩ | ⟨g, cap, cur, rfl, hb, hg, hc1, hc2, hc3, hc4⟩
  · refine .inl ⟨List.length_eq_zero_iff.1 (by omega), rfl⟩
  · refine .inr ⟨g, cap, by rw [hlen], hb, ?_, fun i hi => ?_⟩
    · refine Nat.lt_of_not_le fun hle => ?_
      rw [Array.getElem?_eq_none hle] at hg; simp at hg
    · have e2 : cur[i]? = some (encStr (kb keyE (l.getD i E0))) := by
        have e1 : (cur.toList.take (ss.length * 1))[i]? = some (encStr (kb keyE (l.getD i E0))) := by
          rw [hc4]
          simp [List.getD, hi]
        rw [List.getElem?_take_of_lt (by omega)] at e1
        simpa using e1
      simp only [World.cell?, hg]
      rw [← enc_key]
      simpa using e2
theorem grown_alloc (w : World) (o : Obj) : w.grownBy (w.alloc o) none := ⟨rfl, rfl, rfl, by simp, fun j hj _ => Below.heap_alloc w o j hj⟩

theorem look1_run {w : World} {b : Nat} {l : List E} {t : TypeId} {s : ByteArray} (ht : Tryz.prog.underlying t = some (.map 9 59)) (h : EM w b l) (ha : Asc keyE l) (hs : s.size ≤ maxLen) :
    (Instr.lookup t (.map (some b)) (.string s) false).run Tryz.prog w = .ok (eV (lookE l s).1) w := by
  obtain ⟨v, ps, hrun, hv⟩ := World.ownsMap.lookup h law ht (zeroE w) (zd := .held (eV E0)) (zp := []) rfl (key := .string s) (WideMaps.keyOf_string_mk Tryz.underlying9 hs)
  rw [(look_DE ha s).1] at hv
  simp only [RV, Option.some.injEq, Prod.mk.injEq, DataW.held.injEq] at hv
  rw [hv.1] at hrun
  exact hrun
theorem take_step {l : List E} {k : Nat} (hk : k < l.length) : l.take k ++ [l.getD k E0] = l.take (k + 1) := by
  rw [List.take_add_one, List.getElem?_eq_getElem hk]; simp [List.getD, hk]

end Go.Proofs.YtnchgeiinkaefaaGreatDoor.Evs
end

section
/-
  Events in a map by their Ids: the method 'list' tells them in their order, in new memory.
-/
namespace Go.Proofs.YtnchgeiinkaefaaGreatDoor.Evs
set_option linter.unusedVariables false
open Go.RowKit Go.Maps MapM Go.Shelf

attribute [local go_sem] Oper.semAt_some

theorem new1 (w : World) (a : Value) (t : TypeId) : (w.alloc (.cells #[a] t)).cell? ⟨w.heap.size, 0, none⟩ = some a ∧ (w.alloc (.cells #[a] t)).frozen? ⟨w.heap.size, 0, none⟩ = false := by
  have e1 := (MapKept.heap_alloc w (.cells #[a] t)).1
  simp only [World.cell?, World.frozen?]
  rw [e1]; simp
theorem EOwn.keptR {W W' : World} {b : Nat} {L : List E} {row : Option Nat} (h : EOwn W b L) (hL : 0 < L.length) (hg : W.grownBy W' row) (hr : ∀ r, row = some r → ∃ o : Obj, W.heap[r]? = some o ∧ o.isCells = false) : EOwn W' b L := by
  obtain ⟨o, ho, hc⟩ := cells_of_cell (h.1.2 0 hL).1
  have hk := grownBy_keeps_cells hg hr ho hc
  refine ⟨⟨Nat.lt_of_lt_of_le h.1.1 hg.size, fun i hi => ?_⟩, fun j => ?_⟩
  · obtain ⟨c0, c1, c2⟩ := h.1.2 i hi
    have key : ∀ o : Nat, W'.cell? ⟨b, o, none⟩ = W.cell? ⟨b, o, none⟩ := fun o => World.cell?_of_block hk
    exact ⟨(key _).trans c0, (key _).trans c1, (key _).trans c2⟩
  · have key : W'.frozen? ⟨b, j, none⟩ = W.frozen? ⟨b, j, none⟩ := World.frozen?_of_block hk
    exact key.trans (h.2 j)
theorem EOwn.other {W : World} {b : Nat} {L : List E} (h : EOwn W b L) {j : Nat} (hj : b ≠ j) (o : Nat) (u : Value) : EOwn (W.setCell ⟨j, o, none⟩ u) b L := by
  have hne : ∀ o' : Nat, (⟨j, o, none⟩ : Addr) ≠ ⟨b, o', none⟩ := fun o' e => hj (by simp only [Addr.mk.injEq] at e; exact e.1.symm)
  refine ⟨⟨by simpa using h.1.1, fun i hi => ?_⟩, fun k => by simpa [World.frozen?_setCell] using h.2 k⟩
  obtain ⟨c0, c1, c2⟩ := h.1.2 i hi
  exact ⟨(World.cell?_setCell_other _ _ _ _ (hne _)).trans c0, (World.cell?_setCell_other _ _ _ _ (hne _)).trans c1, (World.cell?_setCell_other _ _ _ _ (hne _)).trans c2⟩
theorem set_grown (w : World) (b o : Nat) (u : Value) : w.grownBy (w.setCell ⟨b, o, none⟩ u) (some b) := by
  refine ⟨rfl, rfl, rfl, ?_, ?_⟩
  · simp
  · intro j hj hne
    exact Below.heap_setCell w ⟨b, o, none⟩ u j (fun e => hne (by rw [e]))
theorem KpB.grown {B : Nat} {W W' : World} {r : Option Nat} (hg : W.grownBy W' r) (hr : r = none ∨ r = some B ∨ r = some (B + 1)) : KpB B W W' :=
  ⟨hg.os, hg.tape, hg.output, hg.size, fun j o hj ho => by
    have hjs : j < W.heap.size := by
      refine Nat.lt_of_not_le fun hle => ?_
      rw [Array.getElem?_eq_none hle] at hj; simp at hj
    refine (hg.block j hjs ?_).trans hj
    rcases hr with rfl | rfl | rfl
    · simp
    · intro e; simp only [Option.some.injEq] at e; omega
    · intro e; simp only [Option.some.injEq] at e; omega⟩

/-- an append whose run is known, inside a fence -/
theorem wpListIn_app {F : Fence} {nF : Nat} {w w' : World} {ops : Array Oper} {rest : List Oper} {o : Oper} {a : Act} {Q : Exit → Act → World → Prop} (hgd : o.guard = none) (s x : Operand) (t : TypeId)
    (ho : o.op = .call { callee := .builtin .append, args := #[s, x], argTypes := #[t, t] }) (sv xv v : Value) (hs : a.eval s = sv) (hx : a.eval x = xv) (hr : ∀ ty, (Builtin.append_ #[t, t] ty #[sv, xv]).run Tryz.prog w = .ok v w')
    (h : wpListIn F nF Tryz.prog ops Q rest (a.put o.dst v) w') : wpListIn F nF Tryz.prog ops Q (o :: rest) a w := by
  refine wpListIn_plain hgd fun K hK => ?_
  unfold Oper.wpIn
  refine ⟨by simp [Oper.about, ho, resolve, Target.leads, Sem.run_pure], ?_⟩
  rw [Oper.semAt_plain F _ _ (by rw [ho]; intro c hc'; cases hc')]
  simp [execOp, ho, resolve, invoke, builtin, hs, hx, hr, Result.andThen]
  exact hK _ _ h

end Go.Proofs.YtnchgeiinkaefaaGreatDoor.Evs
end

section
/-
  impl.UsePut and impl.UseFix: what they answer.
-/
namespace Go.Proofs.YtnchgeiinkaefaaGreatDoor.Evs
set_option linter.unusedVariables false
open Go.RowKit Go.Maps MapM

end Go.Proofs.YtnchgeiinkaefaaGreatDoor.Evs
end

section
/-
  Lists of events that are right: the loops of spec.UseOk.
-/
namespace Go.Proofs.YtnchgeiinkaefaaGreatDoor.Evs
set_option linter.unusedVariables false
open Go.RowKit RegIn

set_option maxHeartbeats 2000000 in
/-- spec.UseOk -/
theorem okS (v : Value) (l : List E) (w : World) (h : ER w v l) (hl : l.length ≤ 1048576) (hs : ∀ u ∈ l, u.1.size ≤ maxLen ∧ u.2.1.size ≤ maxLen) :
    Calls Tryz.prog 20 #[v] w fun e w' => e = .returned (.bool (okB l)) ∧ Below w.heap.size w w' := by
  by_cases h20 : 20 < l.length
  · rw [okB_long h20]
    obtain ⟨a, c, rfl⟩ := h.slice
    have y : (20 : Int) < l.length := by omega
    clear h
    go_enter Tryz.func20, Tryz.ntmps20
    go_wp2
    go_ret
    exact ⟨rfl, Below.refl _ _⟩
  have y : (l.length : Int) ≤ 20 := by omega
  rcases h with ⟨rfl, a, c, rfl⟩ | ⟨b, o, cap, rfl, hc⟩
  · go_enter Tryz.func20, Tryz.ntmps20
    go_wp2
    refine wp_loop_rounds 1 ?_
    rw [rounds_succ]
    go_wp2
    go_ret
    exact ⟨rfl, Below.refl _ _⟩
  · have HC := hide hc
    have hbs := hc.1
    clear hc
    generalize hr : okB l = r
    have HR := hide hr; clear hr
    go_enter Tryz.func20, Tryz.ntmps20
    go_wp2
    go_loopw [3] (fun i wr => ∃ k : Nat, k ≤ l.length ∧ i = .int .i64 k ∧ Hid (∀ j, j < k → badAt l j = false) ∧ Hid (Below w.heap.size w wr)) (fun i _ => l.length - (intOf i).toNat)
    case atStart => exact ⟨0, Nat.zero_le _, rfl, hide (fun j hj => by omega), hide (Below.refl _ _)⟩
    case round =>
      obtain ⟨k, hk, rfl, hd, hb⟩ := hrel
      by_cases hlt : k < l.length
      · obtain ⟨c0, c1, c2⟩ := ((unhide HC).kept (unhide hb)).2 k hlt
        obtain ⟨hsz, hmz⟩ : (l.getD k E0).1.size ≤ maxLen ∧ (l.getD k E0).2.1.size ≤ maxLen := hs _ (by simp [List.getD, hlt])
        have i1 : (0 : Int) ≤ (k : Int) := by omega
        have i2 : (k : Int) < (l.length : Int) := by omega
        have z1 : b < wr.heap.size := Nat.lt_of_lt_of_le hbs (unhide hb).size
        have HBA : Hid (badAt l k = (!rightE (l.getD k E0) || (decide (0 < k) && !ltS (l.getD (k - 1) E0).1 (l.getD k E0).1))) := hide rfl
        have k1 : k - 1 < l.length := by omega
        obtain ⟨p0, _, _⟩ := ((unhide HC).kept (unhide hb)).2 (k - 1) k1
        generalize hx : l.getD k E0 = x at *
        generalize hp : (l.getD (k - 1) E0).1 = t at *
        clear hx hp
        obtain ⟨s, m, q⟩ := x
        simp only at c0 c1 c2 hsz hmz
        have HCA : Hid (∀ W : World, Calls Tryz.prog 34 #[.agg #[.string s, .string m, .int .i64 q]] W fun x w' => x = .returned (.bool (rightE (s, m, q))) ∧ Below W.heap.size W w') := hide (fun W => rightS (s, m, q) W hsz hmz)
        generalize hR : rightE (s, m, q) = rt at *
        clear hR
        have HK : Hid (∀ w2 w3 : World, (w2.cell? ⟨b, o + k * 3, none⟩ = some (.string s) ∧ w2.cell? ⟨b, o + k * 3 + 1, none⟩ = some (.string m) ∧ w2.cell? ⟨b, o + k * 3 + 2, none⟩ = some (.int .i64 q) ∧ w2.cell? ⟨b, o + (k - 1) * 3, none⟩ = some (.string t) ∧ b < w2.heap.size ∧ b < w2.heap.size ∧ Below w.heap.size w w2) → Below w2.heap.size w2 w3 → (w3.cell? ⟨b, o + k * 3, none⟩ = some (.string s) ∧ w3.cell? ⟨b, o + k * 3 + 1, none⟩ = some (.string m) ∧ w3.cell? ⟨b, o + k * 3 + 2, none⟩ = some (.int .i64 q) ∧ w3.cell? ⟨b, o + (k - 1) * 3, none⟩ = some (.string t) ∧ b < w3.heap.size ∧ b < w3.heap.size ∧ Below w.heap.size w w3)) := hide (fun w2 w3 ⟨a1, a2, a3, a4, a5, a6, a7⟩ hb => ⟨(hb.cell (p := ⟨b, o + k * 3, none⟩) a6).trans a1, (hb.cell (p := ⟨b, o + k * 3 + 1, none⟩) a6).trans a2, (hb.cell (p := ⟨b, o + k * 3 + 2, none⟩) a6).trans a3, (hb.cell (p := ⟨b, o + (k - 1) * 3, none⟩) a6).trans a4, Nat.lt_of_lt_of_le a5 hb.size, Nat.lt_of_lt_of_le a6 hb.size, below_trans a7 hb⟩)
        generalize hS : (fun w2 : World => w2.cell? ⟨b, o + k * 3, none⟩ = some (.string s) ∧ w2.cell? ⟨b, o + k * 3 + 1, none⟩ = some (.string m) ∧ w2.cell? ⟨b, o + k * 3 + 2, none⟩ = some (.int .i64 q) ∧ w2.cell? ⟨b, o + (k - 1) * 3, none⟩ = some (.string t) ∧ b < w2.heap.size ∧ b < w2.heap.size ∧ Below w.heap.size w w2) = S
        have HSI : Hid (∀ w2 : World, (w2.cell? ⟨b, o + k * 3, none⟩ = some (.string s) ∧ w2.cell? ⟨b, o + k * 3 + 1, none⟩ = some (.string m) ∧ w2.cell? ⟨b, o + k * 3 + 2, none⟩ = some (.int .i64 q) ∧ w2.cell? ⟨b, o + (k - 1) * 3, none⟩ = some (.string t) ∧ b < w2.heap.size ∧ b < w2.heap.size ∧ Below w.heap.size w w2) → S w2) := hide (fun w2 h => by rw [← hS]; exact h)
        have HSE : Hid (∀ w2 : World, S w2 → (w2.cell? ⟨b, o + k * 3, none⟩ = some (.string s) ∧ w2.cell? ⟨b, o + k * 3 + 1, none⟩ = some (.string m) ∧ w2.cell? ⟨b, o + k * 3 + 2, none⟩ = some (.int .i64 q) ∧ w2.cell? ⟨b, o + (k - 1) * 3, none⟩ = some (.string t) ∧ b < w2.heap.size ∧ b < w2.heap.size ∧ Below w.heap.size w w2)) := hide (fun w2 h => by rw [← hS] at h; exact h)
        clear hS
        have g0 : ∀ g : In S, g.x.cell? ⟨b, o + k * 3, none⟩ = some (.string s) := fun g => (unhide HSE _ g.h).1
        have g1 : ∀ g : In S, g.x.cell? ⟨b, o + k * 3 + 1, none⟩ = some (.string m) := fun g => (unhide HSE _ g.h).2.1
        have g2 : ∀ g : In S, g.x.cell? ⟨b, o + k * 3 + 2, none⟩ = some (.int .i64 q) := fun g => (unhide HSE _ g.h).2.2.1
        have g3 : ∀ g : In S, g.x.cell? ⟨b, o + (k - 1) * 3, none⟩ = some (.string t) := fun g => (unhide HSE _ g.h).2.2.2.1
        have HCB : Hid (∀ g : In S, Calls Tryz.prog 34 #[.agg #[.string s, .string m, .int .i64 q]] g.x fun x w' => x = .returned (.bool rt) ∧ S w') := hide (fun g => (unhide HCA g.x).mono (fun x w' ⟨hx, hb⟩ => ⟨hx, unhide HSI _ (unhide HK _ _ (unhide HSE _ g.h) hb)⟩))
        clear HCA
        cases rt with
        | false =>
          have hr : r = false := (unhide HR).symm.trans (okB_bad hlt ((unhide HBA).trans (by simp)))
          subst hr
          go_wp2
          refine wp_region_in S (by kernel_rfl) (by kernel_rfl) (unhide HSI _ ⟨?_, ?_, ?_, ?_, ?_, ?_, ?_⟩) ?_
          · go_keep
          · go_keep
          · go_keep
          · go_keep
          · exact z1
          · exact z1
          · exact below_drewN' (unhide hb) 1
          intro hne
          repeat (go_big_quiet_step (exact call_in _ (unhide HCB _)))
          refine wpQuiet_nil ?_
          rintro _ ⟨g, rfl⟩
          have HG := hide (unhide HSE _ g.h).2.2.2.2.2.2
          go_wp2
          go_ret
          exact ⟨rfl, unhide HG⟩
        | true =>
          by_cases k0 : k = 0
          · have hd' : Hid (∀ j, j < k + 1 → badAt l j = false) := hide (bad_next (unhide hd) ((unhide HBA).trans (by simp [k0])))
            have kn : decide (0 < k) = false := by simp [k0]
            clear k0
            go_wp2
            refine wp_region_in S (by kernel_rfl) (by kernel_rfl) (unhide HSI _ ⟨?_, ?_, ?_, ?_, ?_, ?_, ?_⟩) ?_
            · go_keep
            · go_keep
            · go_keep
            · go_keep
            · exact z1
            · exact z1
            · exact below_drewN' (unhide hb) 1
            intro hne
            repeat (go_big_quiet_step (exact call_in _ (unhide HCB _)))
            refine wpQuiet_nil ?_
            rintro _ ⟨g, rfl⟩
            have HG := hide (unhide HSE _ g.h).2.2.2.2.2.2
            go_wp2
            exact ⟨⟨k + 1, by omega, by go_num, hd', HG⟩, by simp [intOf]; omega⟩
          · have kn : 0 < k := by omega
            have kk : (0 : Int) < (k : Int) := by omega
            have j1 : (0 : Int) ≤ (k : Int) - 1 := by omega
            have j2 : (k : Int) - 1 < (l.length : Int) := by omega
            have hwr : IntKind.i64.wrap ((k : Int) - 1) = (k : Int) - 1 := IntWalk.i64_in _ ⟨by omega, by omega⟩
            have htn : ((k : Int) - 1).toNat = k - 1 := by omega
            have hcmp := ltS_total t s
            cases hlx : ltS t s with
            | false =>
              have hr : r = false := (unhide HR).symm.trans (okB_bad hlt ((unhide HBA).trans (by simp [kn, hlx])))
              subst hr
              rw [hlx] at hcmp
              simp only [ltS, Bool.not_false] at hcmp
              go_wp2
              refine wp_region_in S (by kernel_rfl) (by kernel_rfl) (unhide HSI _ ⟨?_, ?_, ?_, ?_, ?_, ?_, ?_⟩) ?_
              · go_keep
              · go_keep
              · go_keep
              · go_keep
              · exact z1
              · exact z1
              · exact below_drewN' (unhide hb) 1
              intro hne
              repeat (go_big_quiet_step (exact call_in _ (unhide HCB _)))
              refine wpQuiet_nil ?_
              rintro _ ⟨g, rfl⟩
              have HG := hide (unhide HSE _ g.h).2.2.2.2.2.2
              go_wp2
              go_ret
              exact ⟨rfl, unhide HG⟩
            | true =>
              have hd' : Hid (∀ j, j < k + 1 → badAt l j = false) := hide (bad_next (unhide hd) ((unhide HBA).trans (by simp [kn, hlx])))
              rw [hlx] at hcmp
              simp only [ltS, Bool.not_true] at hcmp
              go_wp2
              refine wp_region_in S (by kernel_rfl) (by kernel_rfl) (unhide HSI _ ⟨?_, ?_, ?_, ?_, ?_, ?_, ?_⟩) ?_
              · go_keep
              · go_keep
              · go_keep
              · go_keep
              · exact z1
              · exact z1
              · exact below_drewN' (unhide hb) 1
              intro hne
              repeat (go_big_quiet_step (exact call_in _ (unhide HCB _)))
              refine wpQuiet_nil ?_
              rintro _ ⟨g, rfl⟩
              have HG := hide (unhide HSE _ g.h).2.2.2.2.2.2
              go_wp2
              exact ⟨⟨k + 1, by omega, by go_num, hd', HG⟩, by simp [intOf]; omega⟩
      · have hr : r = true := (unhide HR).symm.trans (okB_true (by omega) (fun j hj => unhide hd j (by omega)))
        subst hr
        go_wp2
        go_ret
        exact ⟨rfl, unhide hb⟩
end Go.Proofs.YtnchgeiinkaefaaGreatDoor.Evs
end

section
/-
  'append(out, list...)' on a slice of events of the call's own.
-/
namespace Go.Proofs.YtnchgeiinkaefaaGreatDoor.Evs
set_option linter.unusedVariables false
open Go.RowKit

/-- three values each -/
abbrev flat3 (l : List E) : List Value := l.flatMap fun x => [.string x.1, .string x.2.1, .int .i64 x.2.2]
theorem flat3_len : ∀ l : List E, (flat3 l).length = l.length * 3
  | [] => rfl
  | x :: xs => by
    have := flat3_len xs
    simp only [flat3, List.flatMap_cons, List.length_append, List.length_cons, List.length_nil] at this ⊢
    omega
theorem flat3_get : ∀ (l : List E) (i : Nat) (x : E), l[i]? = some x → (flat3 l)[i * 3]? = some (.string x.1) ∧ (flat3 l)[i * 3 + 1]? = some (.string x.2.1) ∧ (flat3 l)[i * 3 + 2]? = some (.int .i64 x.2.2)
  | [], i, x, h => by simp at h
  | y :: ys, 0, x, h => by
    simp only [List.getElem?_cons_zero, Option.some.injEq] at h
    subst h
    simp [flat3]
  | y :: ys, i + 1, x, h => by
    have := flat3_get ys i x (by simpa using h)
    have e1 : (i + 1) * 3 = i * 3 + 1 + 1 + 1 := by omega
    rw [e1]
    simp only [flat3, List.flatMap_cons, List.cons_append, List.nil_append, List.getElem?_cons_succ]
    exact this
theorem flat3_one (l : List E) : ∀ u ∈ flat3 l, u.oneCell' = true := by
  intro u hu
  obtain ⟨x, _, hx⟩ := List.mem_flatMap.1 hu
  simp only [List.mem_cons, List.not_mem_nil, or_false] at hx
  rcases hx with rfl | rfl | rfl <;> rfl
theorem flat3_at {l : List E} {j : Nat} {u : Value} (h : (flat3 l)[j]? = some u) : j / 3 < l.length ∧ u = (if j % 3 = 0 then .string (l.getD (j / 3) E0).1 else if j % 3 = 1 then .string (l.getD (j / 3) E0).2.1 else .int .i64 (l.getD (j / 3) E0).2.2) := by
  have hj : j < (flat3 l).length := (List.getElem?_eq_some_iff.1 h).1
  rw [flat3_len] at hj
  have hlt : j / 3 < l.length := by omega
  refine ⟨hlt, ?_⟩
  have hx : l[j / 3]? = some (l.getD (j / 3) E0) := by rw [List.getElem?_eq_getElem hlt]; simp [List.getD, hlt]
  obtain ⟨h0, h1, h2⟩ := flat3_get l (j / 3) _ hx
  rcases (by omega : j % 3 = 0 ∨ j % 3 = 1 ∨ j % 3 = 2) with e | e | e
  · have ej : j = j / 3 * 3 := by omega
    rw [ej, h0] at h
    rw [if_pos e]
    exact (Option.some.inj h).symm
  · have ej : j = j / 3 * 3 + 1 := by omega
    rw [ej, h1] at h
    rw [if_neg (by omega), if_pos e]
    exact (Option.some.inj h).symm
  · have ej : j = j / 3 * 3 + 2 := by omega
    rw [ej, h2] at h
    rw [if_neg (by omega), if_neg (by omega)]
    exact (Option.some.inj h).symm

/-- the slice of the call's own in block b, not below B, holds l -/
def XO (W : World) (B b c : Nat) (l : List E) : Prop := W.ownsRow B 59 3 (.slice (some ⟨b, 0, none⟩) l.length c) l.length (flat3 l)

theorem XO.own {W : World} {B b c : Nat} {l : List E} (h : XO W B b c l) : B ≤ b ∧ EOwn W b l := by
  obtain ⟨_, h2⟩ := h
  rcases h2 with ⟨h2, _⟩ | ⟨g, cap, cur, hv, hb, hg, _, _, hc3, hc4⟩
  · simp at h2
  · simp only [Value.slice.injEq, Option.some.injEq, Addr.mk.injEq, and_true, true_and] at hv
    obtain ⟨rfl, rfl⟩ := hv
    refine ⟨hb, ⟨?_, fun i hi => ?_⟩, fun j => ?_⟩
    · refine Nat.lt_of_not_le fun hle => ?_
      rw [Array.getElem?_eq_none hle] at hg; simp at hg
    · have hx : l[i]? = some (l.getD i E0) := by rw [List.getElem?_eq_getElem hi]; simp [List.getD, hi]
      obtain ⟨h0, h1, h2⟩ := flat3_get l i _ hx
      rw [← hc4, List.getElem?_take_of_lt (by omega)] at h0 h1 h2
      simp only [World.cell?, hg]
      refine ⟨?_, ?_, ?_⟩
      · simpa using h0
      · simpa using h1
      · simpa using h2
    · simp only [World.frozen?, hg]; simp
theorem XO.cap {W : World} {B b c : Nat} {l : List E} (h : XO W B b c l) : l.length ≤ c := by
  rcases h.2 with ⟨h3, _⟩ | ⟨g, cap, cur, hv, _, _, h3, _⟩
  · simp at h3
  · simp only [Value.slice.injEq, Option.some.injEq, Addr.mk.injEq, and_true, true_and] at hv
    omega
theorem XO.en {W : World} {B b c : Nat} {l : List E} (h : XO W B b c l) : EN B W (.slice (some ⟨b, 0, none⟩) l.length c) l := .inr ⟨b, c, rfl, ⟨h.own.1, h.cap⟩, h.own.2⟩
theorem XO.kept {W W' : World} {B b c : Nat} {l : List E} {r : Option Nat} (h : XO W B b c l) (hg : W.grownBy W' r) (hne : some b ≠ r) : XO W' B b c l :=
  World.ownsRow.kept h hg (.inr (by simpa [Value.ownBlock] using hne))
theorem XO.made (w : World) (B : Nat) (hB : B ≤ w.heap.size) (t : TypeId) (ht : t = 59) : XO (w.alloc (.cells #[] t)) B w.heap.size 0 [] := by
  subst ht
  refine ⟨rfl, .inr ⟨w.heap.size, 0, #[], rfl, hB, (MapKept.heap_alloc w _).1, by simp, by simp, by simp, by simp⟩⟩

theorem src_of {w : World} {xv : Value} {l2 : List E} (hx : ER w xv l2) (i : TypeInfo) (hs : i.size = 3) : Src Tryz.prog i.size 31 xv l2.length (flat3 l2) w := by
  rw [hs]
  rcases hx with ⟨rfl, a, c, rfl⟩ | ⟨b2, o2, cap2, rfl, hc⟩
  · cases a with
    | none => exact Src.ofNil w Tryz.underlying31 c
    | some ad => exact Src.ofSlice w Tryz.underlying31 ad 0 c [] rfl (fun j u hj => by simp at hj) (fun u hu => by simp at hu)
  · refine Src.ofSlice w Tryz.underlying31 ⟨b2, o2, none⟩ l2.length cap2 (flat3 l2) (flat3_len l2) (fun j u hj => ?_) (flat3_one l2)
    obtain ⟨hlt, rfl⟩ := flat3_at hj
    obtain ⟨c0, c1, c2⟩ := hc.2 (j / 3) hlt
    rw [Addr.add_lit]
    rcases (by omega : j % 3 = 0 ∨ j % 3 = 1 ∨ j % 3 = 2) with e | e | e
    · rw [if_pos e]
      have ej : o2 + j = o2 + j / 3 * 3 := by omega
      rw [ej]; exact c0
    · rw [if_neg (by omega), if_pos e]
      have ej : o2 + j = o2 + j / 3 * 3 + 1 := by omega
      rw [ej]; exact c1
    · rw [if_neg (by omega), if_neg (by omega)]
      have ej : o2 + j = o2 + j / 3 * 3 + 2 := by omega
      rw [ej]; exact c2

section
variable {ops : Array Oper} {o : Oper} {a : Act} {K : Act → World → Prop} {Q : Exit → Act → World → Prop} {P0 : Prop}
end
end Go.Proofs.YtnchgeiinkaefaaGreatDoor.Evs
end

section
/-
  The laws' own helpers on slices of events: markText, markUseEventS, heldUseEventS.
-/
namespace Go.Proofs.YtnchgeiinkaefaaGreatDoor.Evs
set_option linter.unusedVariables false
open Go.RowKit RegIn

/-- a string of one byte -/
theorem conv1 (w : World) (c : Int) (h0 : 0 ≤ c) (h1 : c ≤ 255) : (convert 97 9 (.slice (some ⟨w.heap.size, 0, none⟩) 1 1)).run Tryz.prog (w.alloc (.cells #[.int .u8 c] 5)) = .ok (.string ⟨#[UInt8.ofNat c.toNat]⟩) (w.alloc (.cells #[.int .u8 c] 5)) := by
  have h := run_convert_bytes_back (P := Tryz.prog) (w.alloc (.cells #[.int .u8 c] 5)) 97 9 5 ⟨w.heap.size, 0, none⟩ 1 [UInt8.ofNat c.toNat] Tryz.underlying97 Tryz.underlying5 Tryz.underlying9 ?_
  · exact h
  · intro j hj
    obtain rfl : j = 0 := by simpa using hj
    have e : ((UInt8.ofNat c.toNat).toNat : Int) = c := by
      simp; omega
    rw [Addr.add_lit]
    show (w.alloc _).cell? _ = some (.int .u8 ((UInt8.ofNat c.toNat).toNat : Int))
    rw [e]
    have e1 := (MapKept.heap_alloc w (.cells #[.int .u8 c] 5)).1
    simp only [World.cell?]
    rw [e1]; rfl
theorem cat (a b : List UInt8) : ((⟨a.toArray⟩ : ByteArray) ++ ⟨b.toArray⟩) = ⟨(a ++ b).toArray⟩ := by
  apply ByteArray.ext; simp
theorem digit (k : Nat) : 48 + UInt8.ofNat k = UInt8.ofNat (48 + k) := by rw [UInt8.ofNat_add]; rfl

set_option maxHeartbeats 800000 in
/-- markText -/
theorem markT (n : Nat) (w : World) (h1 : 1 ≤ n) (hn : n ≤ 1000000000) : Calls Tryz.prog 32 #[.int .i64 (n : Int)] w fun e w' => e = .returned (.string (mt n)) ∧ Below w.heap.size w w' := by
  generalize hr : mt n = r
  have HR := hide hr
  clear hr
  have y1 : (0 : Int) < (n : Int) := by omega
  go_enter Tryz.func32, Tryz.ntmps32
  go_wp2
  go_loopw [0, 3] (fun t0 t3 wr => ∃ (m : Nat) (out : List UInt8), m ≤ n ∧ t0 = .int .i64 m ∧ t3 = .string ⟨out.toArray⟩ ∧ Hid (digs n = digs m ++ out) ∧ out.length + m ≤ n ∧ Below w.heap.size w wr) (fun t0 _ _ => (intOf t0).toNat)
  case atStart => exact ⟨n, [], Nat.le_refl _, rfl, rfl, by show _ = _; simp, by simp, Below.refl _ _⟩
  case round =>
    obtain ⟨m, out, hm, rfl, rfl, hd, hl, hb⟩ := hrel
    have hl2 : 1 + out.length ≤ 9223372036854775807 := by omega
    by_cases h0 : 0 < m
    · have hcv := conv1 wr (48 + (m : Int) % 10) (by omega) (by omega)
      have y2 : (0 : Int) < (m : Int) := by omega
      go_wp2
      refine ⟨⟨m / 10, UInt8.ofNat (48 + m % 10) :: out, by omega, by go_num, ?_, ?_, by simp; omega, hb.alloc hb.size _⟩, by simp [intOf]; omega⟩
      · have := cat [48 + UInt8.ofNat (m % 10)] out
        rw [digit] at this ⊢
        exact congrArg Value.string this
      · show _ = _
        rw [unhide hd, digs_pos h0]; simp
    · obtain rfl : m = 0 := by omega
      have hout : digs n = out := by rw [unhide hd, digs_zero]; rfl
      go_wp2
      go_ret
      refine ⟨?_, hb⟩
      rw [← unhide HR, mt, hout]
      exact congrArg (fun x => Ending.returned (.string x)) (cat [109] out)

theorem EOwn.setA {W : World} {b : Nat} {l : List E} (h : EOwn W b l) {k : Nat} (hk : k < l.length) (s : ByteArray) :
    EOwn (W.setCell ⟨b, k * 3, none⟩ (.string s)) b (l.set k (s, (l.getD k E0).2.1, (l.getD k E0).2.2)) := by
  refine ⟨⟨by simpa using h.1.1, fun i hi => ?_⟩, fun j => by simpa [World.frozen?_setCell] using h.2 j⟩
  have hi' : i < l.length := by simpa using hi
  obtain ⟨c0, c1, c2⟩ := h.1.2 i hi'
  rw [Nat.zero_add] at c0 c1 c2 ⊢
  have d1 : (⟨b, k * 3, none⟩ : Addr) ≠ ⟨b, i * 3 + 1, none⟩ := fun he => by simp only [Addr.mk.injEq, and_true, true_and] at he; omega
  have d2 : (⟨b, k * 3, none⟩ : Addr) ≠ ⟨b, i * 3 + 2, none⟩ := fun he => by simp only [Addr.mk.injEq, and_true, true_and] at he; omega
  by_cases e : i = k
  · subst e
    rw [List.getD_eq_getElem?_getD, List.getElem?_set_self hi']
    exact ⟨World.cell?_setCell_same _ _ _ c0, by rw [World.cell?_setCell_other _ _ _ _ d1]; exact c1, by rw [World.cell?_setCell_other _ _ _ _ d2]; exact c2⟩
  · have d0 : (⟨b, k * 3, none⟩ : Addr) ≠ ⟨b, i * 3, none⟩ := fun he => by simp only [Addr.mk.injEq, and_true, true_and] at he; omega
    rw [World.cell?_setCell_other _ _ _ _ d0, World.cell?_setCell_other _ _ _ _ d1, World.cell?_setCell_other _ _ _ _ d2, c0, c1, c2, List.getD_eq_getElem?_getD, List.getD_eq_getElem?_getD, List.getElem?_set_ne (by omega)]
    exact ⟨rfl, rfl, rfl⟩
theorem EOwn.setB {W : World} {b : Nat} {l : List E} (h : EOwn W b l) {k : Nat} (hk : k < l.length) (s : ByteArray) :
    EOwn (W.setCell ⟨b, k * 3 + 1, none⟩ (.string s)) b (l.set k ((l.getD k E0).1, s, (l.getD k E0).2.2)) := by
  refine ⟨⟨by simpa using h.1.1, fun i hi => ?_⟩, fun j => by simpa [World.frozen?_setCell] using h.2 j⟩
  have hi' : i < l.length := by simpa using hi
  obtain ⟨c0, c1, c2⟩ := h.1.2 i hi'
  rw [Nat.zero_add] at c0 c1 c2 ⊢
  have d0 : (⟨b, k * 3 + 1, none⟩ : Addr) ≠ ⟨b, i * 3, none⟩ := fun he => by simp only [Addr.mk.injEq, and_true, true_and] at he; omega
  have d2 : (⟨b, k * 3 + 1, none⟩ : Addr) ≠ ⟨b, i * 3 + 2, none⟩ := fun he => by simp only [Addr.mk.injEq, and_true, true_and] at he; omega
  by_cases e : i = k
  · subst e
    rw [List.getD_eq_getElem?_getD, List.getElem?_set_self hi']
    exact ⟨by rw [World.cell?_setCell_other _ _ _ _ d0]; exact c0, World.cell?_setCell_same _ _ _ c1, by rw [World.cell?_setCell_other _ _ _ _ d2]; exact c2⟩
  · have d1 : (⟨b, k * 3 + 1, none⟩ : Addr) ≠ ⟨b, i * 3 + 1, none⟩ := fun he => by simp only [Addr.mk.injEq, and_true, true_and] at he; omega
    rw [World.cell?_setCell_other _ _ _ _ d0, World.cell?_setCell_other _ _ _ _ d1, World.cell?_setCell_other _ _ _ _ d2, c0, c1, c2, List.getD_eq_getElem?_getD, List.getD_eq_getElem?_getD, List.getElem?_set_ne (by omega)]
    exact ⟨rfl, rfl, rfl⟩
theorem EOwn.setQ {W : World} {b : Nat} {l : List E} (h : EOwn W b l) {k : Nat} (hk : k < l.length) (q : Int) :
    EOwn (W.setCell ⟨b, k * 3 + 2, none⟩ (.int .i64 q)) b (l.set k ((l.getD k E0).1, (l.getD k E0).2.1, q)) := by
  refine ⟨⟨by simpa using h.1.1, fun i hi => ?_⟩, fun j => by simpa [World.frozen?_setCell] using h.2 j⟩
  have hi' : i < l.length := by simpa using hi
  obtain ⟨c0, c1, c2⟩ := h.1.2 i hi'
  rw [Nat.zero_add] at c0 c1 c2 ⊢
  have d0 : (⟨b, k * 3 + 2, none⟩ : Addr) ≠ ⟨b, i * 3, none⟩ := fun he => by simp only [Addr.mk.injEq, and_true, true_and] at he; omega
  have d1 : (⟨b, k * 3 + 2, none⟩ : Addr) ≠ ⟨b, i * 3 + 1, none⟩ := fun he => by simp only [Addr.mk.injEq, and_true, true_and] at he; omega
  by_cases e : i = k
  · subst e
    rw [List.getD_eq_getElem?_getD, List.getElem?_set_self hi']
    exact ⟨by rw [World.cell?_setCell_other _ _ _ _ d0]; exact c0, by rw [World.cell?_setCell_other _ _ _ _ d1]; exact c1, World.cell?_setCell_same _ _ _ c2⟩
  · have d2 : (⟨b, k * 3 + 2, none⟩ : Addr) ≠ ⟨b, i * 3 + 2, none⟩ := fun he => by simp only [Addr.mk.injEq, and_true, true_and] at he; omega
    rw [World.cell?_setCell_other _ _ _ _ d0, World.cell?_setCell_other _ _ _ _ d1, World.cell?_setCell_other _ _ _ _ d2, c0, c1, c2, List.getD_eq_getElem?_getD, List.getD_eq_getElem?_getD, List.getElem?_set_ne (by omega)]
    exact ⟨rfl, rfl, rfl⟩

/-- the marks of a row -/
def marksE (k n : Nat) : List E := (List.range n).map fun i => (mt (k + 3 * i), mt (k + 3 * i + 1), ((k + 3 * i + 2 : Nat) : Int))
theorem marksE_len (k n : Nat) : (marksE k n).length = n := by simp [marksE]
theorem marksE_step (k : Nat) (l : List E) (j : Nat) (h : j < l.length) : (marksE k j ++ l.drop j).set j (mt (k + 3 * j), mt (k + 3 * j + 1), ((k + 3 * j + 2 : Nat) : Int)) = marksE k (j + 1) ++ l.drop (j + 1) := by
  rw [List.set_append_right _ _ (by rw [marksE_len]; exact Nat.le_refl _), marksE_len, Nat.sub_self, List.drop_eq_getElem_cons h, List.set_cons_zero]
  have e : marksE k (j + 1) = marksE k j ++ [(mt (k + 3 * j), mt (k + 3 * j + 1), ((k + 3 * j + 2 : Nat) : Int))] := by
    unfold marksE
    rw [List.range_succ, List.map_append]
    rfl
  rw [e, List.append_assoc]
  rfl
theorem getD_set {L : List E} {j : Nat} (h : j < L.length) (y : E) : (L.set j y).getD j E0 = y := by simp [List.getD, h]

set_option maxHeartbeats 1000000 in
/-- markUseEventS -/
theorem markEvs (B : Nat) (v : Value) (l : List E) (k : Nat) (w : World) (h : EN B w v l) (hl : l.length ≤ 1048576) (h0 : 1 ≤ k) (h1 : k ≤ 100000000) :
    Calls Tryz.prog 14 #[v, .int .i64 (k : Int)] w fun e w' => e = .returned (.int .i64 ((k + 3 * l.length : Nat) : Int)) ∧ EN B w' v (marksE k l.length) ∧ ∃ r, w.grownBy w' r ∧ ∀ b, r = some b → v.ownBlock = some b ∧ l ≠ [] ∧ B ≤ b := by
  rcases h with ⟨rfl, a, c, rfl⟩ | ⟨b, cap, rfl, hB, hO⟩
  · go_enter Tryz.func14, Tryz.ntmps14
    go_wp2
    refine wp_loop_rounds 1 ?_
    rw [rounds_succ]
    go_wp2
    go_ret
    exact ⟨by simp, .inl ⟨rfl, _, _, rfl⟩, none, grow0 _ _, fun b hb => by simp at hb⟩
  · by_cases hne : l = []
    · subst hne
      clear hO
      go_enter Tryz.func14, Tryz.ntmps14
      go_wp2
      refine wp_loop_rounds 1 ?_
      rw [rounds_succ]
      go_wp2
      go_ret
      exact ⟨by simp, .inl ⟨rfl, _, _, rfl⟩, none, grow0 _ _, fun b hb => by simp at hb⟩
    have HO := hide hO
    clear hO
    go_enter Tryz.func14, Tryz.ntmps14
    go_wp2
    go_loopw [1, 5] (fun t i wr => ∃ j : Nat, j ≤ l.length ∧ i = .int .i64 j ∧ t = .int .i64 ((k + 3 * j : Nat) : Int) ∧ Hid (EOwn wr b (marksE k j ++ l.drop j)) ∧ Hid (w.grownBy wr (some b))) (fun _ i _ => l.length - (intOf i).toNat)
    case atStart => exact ⟨0, Nat.zero_le _, rfl, by simp, by show EOwn _ _ _; simpa [marksE] using unhide HO, hide (grow0 _ _)⟩
    case round =>
      obtain ⟨j, hj, rfl, rfl, hd, hg⟩ := hrel
      by_cases hlt : j < l.length
      · have hj2 : j < (marksE k j ++ l.drop j).length := by rw [List.length_append, marksE_len, List.length_drop]; omega
        have HS := hide (marksE_step k l j hlt)
        generalize marksE k j ++ l.drop j = L at *
        have i1 : (0 : Int) ≤ (j : Int) := by omega
        have i2 : (j : Int) < (l.length : Int) := by omega
        go_wp2_with (fail)
        refine (markT (k + 3 * j) wr (by omega) (by omega)).mono ?_
        rintro e w1 ⟨rfl, hb1⟩
        have ho1 := (unhide hd).kept hb1
        obtain ⟨c0, _, _⟩ := ho1.1.2 j hj2
        have f0 := ho1.2 (j * 3)
        rw [Nat.zero_add] at c0
        have ho2 := ho1.setA hj2 (mt (k + 3 * j))
        generalize hy0 : L.getD j E0 = y0 at *
        have O2 := hide ho2
        have G2 := hide (growT (unhide hg) (growT (growB hb1 (some b)) (growS w1 b (j * 3) (.string (mt (k + 3 * j))))))
        clear ho1 ho2 hb1 hd hg
        generalize mt (k + 3 * j) = m1 at *
        go_wp2_with (fail)
        have e1 : ((k + 3 * j : Nat) : Int) + 1 = ((k + 3 * j + 1 : Nat) : Int) := by omega
        refine (markT (k + 3 * j + 1) _ (by omega) (by omega)).mono ?_
        rintro e w2 ⟨rfl, hb2⟩
        have ho3 := (unhide O2).kept hb2
        have hj3 : j < (L.set j (m1, y0.2.1, y0.2.2)).length := by simpa using hj2
        obtain ⟨_, c1, _⟩ := ho3.1.2 j hj3
        have f1 := ho3.2 (j * 3 + 1)
        rw [Nat.zero_add] at c1
        have ho4 := ho3.setB hj3 (mt (k + 3 * j + 1))
        rw [getD_set hj2, List.set_set] at ho4
        have hj4 : j < (L.set j (m1, mt (k + 3 * j + 1), y0.2.2)).length := by simpa using hj2
        obtain ⟨_, _, c2⟩ := ho4.1.2 j hj4
        have f2 := ho4.2 (j * 3 + 2)
        rw [Nat.zero_add] at c2
        have ho5 := ho4.setQ hj4 ((k + 3 * j + 2 : Nat) : Int)
        rw [getD_set hj2, List.set_set] at ho5
        have O5 := hide ho5
        have G4 := hide (growT (unhide G2) (growT (growB hb2 (some b)) (growS w2 b (j * 3 + 1) (.string (mt (k + 3 * j + 1))))))
        have G5 := hide (growT (unhide G4) (growS _ b (j * 3 + 2) (.int .i64 ((k + 3 * j + 2 : Nat) : Int))))
        have e3 : ((k + 3 * j + 1 : Nat) : Int) + 1 = ((k + 3 * j + 2 : Nat) : Int) := by omega
        clear ho3 ho4 ho5 hb2 O2 G2 G4 hj3 hj4
        generalize mt (k + 3 * j + 1) = m2 at *
        rw [unhide HS] at O5
        go_wp2
        exact ⟨⟨j + 1, by omega, by go_num, by congr 1, O5, G5⟩, by simp [intOf]; omega⟩
      · obtain rfl : j = l.length := by omega
        go_wp2
        go_ret
        refine ⟨rfl, .inr ⟨b, cap, by rw [marksE_len], ⟨hB.1, by rw [marksE_len]; exact hB.2⟩, ?_⟩, some b, unhide hg, fun b' hb' => by cases hb'; exact ⟨rfl, hne, hB.1⟩⟩
        have := unhide hd
        simpa using this

end Go.Proofs.YtnchgeiinkaefaaGreatDoor.Evs
end

section
/-
  spec.UsePut and spec.UseFix: what they answer.
-/
namespace Go.Proofs.YtnchgeiinkaefaaGreatDoor.Evs
set_option linter.unusedVariables false
open Go.RowKit Go.Maps MapM

end Go.Proofs.YtnchgeiinkaefaaGreatDoor.Evs
end

section
/-
  The sums of events by their meters: the mathematics.
-/
namespace Go.Proofs.YtnchgeiinkaefaaGreatDoor.Sums
set_option linter.unusedVariables false
open Go.RowKit Go.Maps MapM
open Uses (U U0)
open Evs (E E0 hide unhide)

abbrev keyU (u : U) : ByteArray := u.1
abbrev valU (u : U) : Value := .int .i64 u.2

theorem ascU_put {l : List U} {e : U} (ha : Asc keyU l) (h : ∀ a ∈ l, kb keyU a ≠ kb keyU e) : Asc keyU (l.take (pos keyU (kb keyU e) l) ++ e :: l.drop (pos keyU (kb keyU e) l)) := by
  have hp := pos_le keyU (kb keyU e) l
  have htake : ∀ a ∈ l.take (pos keyU (kb keyU e) l), kb keyU a < kb keyU e := by
    intro a hm
    obtain ⟨i, hi, rfl⟩ := List.getElem_of_mem hm
    rw [List.getElem_take]
    exact (pos_spec keyU (kb keyU e) l i (by simp at hi; omega)).1 (by simp at hi; omega)
  have hdrop : ∀ a ∈ l.drop (pos keyU (kb keyU e) l), kb keyU e < kb keyU a := by
    intro a hm
    obtain ⟨i, hi, rfl⟩ := List.getElem_of_mem hm
    rw [List.getElem_drop]
    have hi' : pos keyU (kb keyU e) l + i < l.length := by simp at hi; omega
    have hpl : pos keyU (kb keyU e) l < l.length := by omega
    have h1 : kb keyU e < kb keyU l[pos keyU (kb keyU e) l] := lt_tri ((pos_spec keyU (kb keyU e) l _ hpl).2 rfl) (h _ (List.getElem_mem hpl))
    by_cases h0 : i = 0
    · subst h0; exact h1
    · exact List.lt_trans h1 (List.pairwise_iff_getElem.1 ha _ _ hpl hi' (by omega))
  refine List.pairwise_append.2 ⟨List.Pairwise.sublist (List.take_sublist _ _) ha, List.pairwise_cons.2 ⟨hdrop, List.Pairwise.sublist (List.drop_sublist _ _) ha⟩, ?_⟩
  intro a hm b hb
  rcases List.mem_cons.1 hb with rfl | hb
  · exact htake a hm
  · exact List.lt_trans (htake a hm) (hdrop b hb)
theorem ascU_set {l : List U} {e : U} {k : Nat} (ha : Asc keyU l) (hk : k < l.length) (h : kb keyU l[k] = kb keyU e) : Asc keyU (l.set k e) := by
  refine List.pairwise_iff_getElem.2 (fun i j hi hj hij => ?_)
  have hi' : i < l.length := by simpa using hi
  have hj' : j < l.length := by simpa using hj
  have hlt := List.pairwise_iff_getElem.1 ha i j hi' hj' hij
  rw [List.getElem_set, List.getElem_set]
  by_cases e1 : k = i
  · subst e1
    rw [if_pos rfl, if_neg (by omega), ← h]
    exact hlt
  · rw [if_neg e1]
    by_cases e2 : k = j
    · subst e2
      rw [if_pos rfl, ← h]
      exact hlt
    · rw [if_neg e2]
      exact hlt

theorem kbU_inj {a : U} {s : ByteArray} (h : kb keyU a = s.data.toList) : a.1 = s := by
  have : a.1.data = s.data := Array.toList_inj.1 h
  cases hh : a.1; cases s; simp_all
/-- where a meter is, or belongs -/
abbrev posU (l : List U) (m : ByteArray) : Nat := pos keyU m.data.toList l
def hasU (l : List U) (m : ByteArray) : Bool := l.any fun u => decide (u.1 = m)
/-- how much of it there is -/
def lkU (l : List U) (m : ByteArray) : Int := if hasU l m = true then (l.getD (posU l m) U0).2 else 0
/-- as much more -/
def addU (l : List U) (m : ByteArray) (q : Int) : List U :=
  if hasU l m = true then l.set (posU l m) (m, lkU l m + q) else l.take (posU l m) ++ (m, lkU l m + q) :: l.drop (posU l m)
def sumsFrom (a : List U) (l : List E) : List U := l.foldl (fun acc e => addU acc e.2.1 e.2.2) a
/-- the sums -/
def sums (l : List E) : List U := sumsFrom [] l

theorem has_no {l : List U} {m : ByteArray} (h : hasU l m = false) : ∀ a ∈ l, a.1 ≠ m := by
  intro a ha e
  unfold hasU at h
  have := List.any_eq_false.1 h a ha
  simp [e] at this
theorem has_no_kb {l : List U} {m : ByteArray} (h : hasU l m = false) : ∀ a ∈ l, kb keyU a ≠ m.data.toList := fun a ha e => has_no h a ha (kbU_inj e)
theorem posU_hit {l : List U} (ha : Asc keyU l) {k : Nat} (hk : k < l.length) : pos keyU (kb keyU l[k]) l = k :=
  pos_of keyU (Nat.le_of_lt hk) (fun i hi h => List.pairwise_iff_getElem.1 ha i k hi hk h) (fun _ => List.lt_irrefl _)
theorem has_yes {l : List U} {m : ByteArray} (ha : Asc keyU l) (h : hasU l m = true) : ∃ hp : posU l m < l.length, l[posU l m].1 = m := by
  unfold hasU at h
  obtain ⟨a, hm, he⟩ := List.any_eq_true.1 h
  obtain ⟨k, hk, rfl⟩ := List.getElem_of_mem hm
  have he' : l[k].1 = m := of_decide_eq_true he
  have hp : posU l m = k := by
    have := posU_hit ha hk
    unfold posU
    rw [← he']
    exact this
  refine ⟨by omega, ?_⟩
  simp only [hp]
  exact he'
theorem has_at {l : List U} {m : ByteArray} {k : Nat} (hk : k < l.length) (h : l[k].1 = m) : hasU l m = true := by
  unfold hasU
  exact List.any_eq_true.2 ⟨l[k], List.getElem_mem hk, by simp [h]⟩
theorem lk_yes {l : List U} {m : ByteArray} (h : hasU l m = true) : lkU l m = (l.getD (posU l m) U0).2 := by unfold lkU; rw [if_pos h]
theorem lk_no {l : List U} {m : ByteArray} (h : hasU l m = false) : lkU l m = 0 := by unfold lkU; rw [if_neg (by rw [h]; simp)]
theorem add_yes {l : List U} {m : ByteArray} {q : Int} (h : hasU l m = true) : addU l m q = l.set (posU l m) (m, lkU l m + q) := by unfold addU; rw [if_pos h]
theorem add_no {l : List U} {m : ByteArray} {q : Int} (h : hasU l m = false) : addU l m q = l.take (posU l m) ++ (m, q) :: l.drop (posU l m) := by unfold addU; rw [if_neg (by rw [h]; simp), lk_no h]; simp
theorem add_asc {l : List U} {m : ByteArray} {q : Int} (ha : Asc keyU l) : Asc keyU (addU l m q) := by
  cases h : hasU l m with
  | true =>
    obtain ⟨hp, he⟩ := has_yes ha h
    rw [add_yes h]
    exact ascU_set ha hp (by unfold kb keyU; rw [he])
  | false =>
    rw [add_no h]
    exact ascU_put (e := (m, q)) ha (has_no_kb h)
theorem add_len {l : List U} {m : ByteArray} {q : Int} : (addU l m q).length ≤ l.length + 1 := by
  unfold addU
  split
  · rw [List.length_set]; omega
  · have := pos_le keyU m.data.toList l
    simp; omega
theorem add_mem {l : List U} {m : ByteArray} {q : Int} {u : U} (h : u ∈ addU l m q) : u ∈ l ∨ u = (m, lkU l m + q) := by
  unfold addU at h
  split at h
  · rcases List.mem_or_eq_of_mem_set h with h | h
    · exact .inl h
    · exact .inr h
  · rcases List.mem_append.1 h with h | h
    · exact .inl (List.mem_of_mem_take h)
    · rcases List.mem_cons.1 h with h | h
      · exact .inr h
      · exact .inl (List.mem_of_mem_drop h)
theorem lk_bound {l : List U} {m : ByteArray} {M : Int} (ha : Asc keyU l) (h0 : 0 ≤ M) (h : ∀ u ∈ l, 0 ≤ u.2 ∧ u.2 ≤ M) : 0 ≤ lkU l m ∧ lkU l m ≤ M := by
  cases hh : hasU l m with
  | true =>
    obtain ⟨hp, _⟩ := has_yes ha hh
    rw [lk_yes hh]
    exact h _ (by simp [List.getD, hp])
  | false => rw [lk_no hh]; omega

theorem look_DU {l : List U} (ha : Asc keyU l) (m : ByteArray) : (DM keyU valU l).atKey (.string m.data.toList) (.held (.int .i64 0)) = .held (.int .i64 (lkU l m)) := by
  cases h : hasU l m with
  | true =>
    obtain ⟨hp, he⟩ := has_yes ha h
    have := atKey_hit keyU valU (.held (.int .i64 0)) l (posU l m) hp ha
    have e2 : kb keyU l[posU l m] = m.data.toList := by unfold kb keyU; rw [he]
    rw [e2] at this
    rw [this, lk_yes h]
    simp [List.getD, hp]
  | false =>
    rw [atKey_miss keyU valU _ l (has_no_kb h), lk_no h]
theorem put_DU {l : List U} (ha : Asc keyU l) (m : ByteArray) (q : Int) : (DM keyU valU l).put (.string m.data.toList) (.held (.int .i64 (lkU l m + q))) = DM keyU valU (addU l m q) := by
  cases h : hasU l m with
  | true =>
    obtain ⟨hp, he⟩ := has_yes ha h
    rw [add_yes h]
    exact put_old keyU valU l (m, lkU l m + q) (posU l m) hp ha (by unfold kb keyU; rw [he])
  | false =>
    rw [add_no h, lk_no h, Int.zero_add]
    exact put_new keyU valU l (m, q) (has_no_kb h)

theorem sums_step {l : List E} {k : Nat} (hk : k < l.length) : sums (l.take (k + 1)) = addU (sums (l.take k)) (l.getD k E0).2.1 (l.getD k E0).2.2 := by
  unfold sums sumsFrom
  have : l.take (k + 1) = l.take k ++ [l.getD k E0] := by rw [List.take_add_one, List.getElem?_eq_getElem hk]; simp [List.getD, hk]
  rw [this, List.foldl_append]
  rfl
theorem sums_asc (l : List E) : ∀ k, k ≤ l.length → Asc keyU (sums (l.take k)) := by
  intro k
  induction k with
  | zero => intro _; simp [sums, sumsFrom, Asc]
  | succ k ih =>
    intro hk
    rw [sums_step (by omega)]
    exact add_asc (ih (by omega))
theorem sums_len (l : List E) : ∀ k, k ≤ l.length → (sums (l.take k)).length ≤ k := by
  intro k
  induction k with
  | zero => intro _; simp [sums, sumsFrom]
  | succ k ih =>
    intro hk
    rw [sums_step (by omega)]
    exact Nat.le_trans add_len (by have := ih (by omega); omega)
theorem sums_bound (l : List E) (hq : ∀ u ∈ l, 0 ≤ u.2.2 ∧ u.2.2 ≤ 1000000000) : ∀ k, k ≤ l.length → ∀ u ∈ sums (l.take k), 0 ≤ u.2 ∧ u.2 ≤ (k : Int) * 1000000000 := by
  intro k
  induction k with
  | zero => intro _ u hu; simp [sums, sumsFrom] at hu
  | succ k ih =>
    intro hk u hu
    rw [sums_step (by omega)] at hu
    have hb := ih (by omega)
    have hx : 0 ≤ (l.getD k E0).2.2 ∧ (l.getD k E0).2.2 ≤ 1000000000 := hq _ (by simp [List.getD, (by omega : k < l.length)])
    rcases add_mem hu with h | rfl
    · have := hb u h
      omega
    · have := lk_bound (m := (l.getD k E0).2.1) (sums_asc l k (by omega)) (by omega) hb
      simp only
      omega
theorem sums_size (l : List E) (hs : ∀ u ∈ l, u.2.1.size ≤ maxLen) : ∀ k, k ≤ l.length → ∀ u ∈ sums (l.take k), u.1.size ≤ maxLen := by
  intro k
  induction k with
  | zero => intro _ u hu; simp [sums, sumsFrom] at hu
  | succ k ih =>
    intro hk u hu
    rw [sums_step (by omega)] at hu
    rcases add_mem hu with h | rfl
    · exact ih (by omega) u h
    · exact hs _ (by simp [List.getD, (by omega : k < l.length)])
theorem okB_qty {l : List E} (h : Evs.okB l = true) : ∀ u ∈ l, 0 ≤ u.2.2 ∧ u.2.2 ≤ 1000000000 := by
  intro u hu
  obtain ⟨k, hk, rfl⟩ := List.getElem_of_mem hu
  have := Evs.okB_right h hk
  have hg : l.getD k E0 = l[k] := by simp [List.getD, hk]
  rw [hg] at this
  unfold Evs.rightE at this
  simp only [Bool.and_eq_true, decide_eq_true_eq] at this
  exact this.2.2
/-- what UseSums answers -/
def sumsO (l : List E) : List U := if Evs.okB l = true then sums l else []
end Go.Proofs.YtnchgeiinkaefaaGreatDoor.Sums
end

section
/-
  What impl.ascending hands out for a map of numbers: its entries in the order of their keys, for every loop body that keeps what it must.
-/
namespace Go.Proofs.YtnchgeiinkaefaaGreatDoor.Sums
set_option linter.unusedVariables false
open Go.RowKit Go.Maps MapM Go.Shelf
open Uses (U U0)
open Evs (E E0 hide unhide RV law KpB below_trans below_grown enc_key)

attribute [local go_sem] Oper.semAt_some

/-- the map of sums as read -/
abbrev DU (l : List U) : DataW Value := DM keyU valU l
/-- block b is the map of the sums l -/
def UM (W : World) (b : Nat) (l : List U) : Prop := W.ownsMap Tryz.prog 9 RV b l.length (DU l)
theorem UM.kept {W W' : World} {b : Nat} {l : List U} (h : UM W b l) (hb : Below W.heap.size W W') : UM W' b l :=
  World.ownsMap.kept (row := none) h ⟨hb.os, hb.tape, hb.output, hb.size, fun j hj _ => hb.block j hj⟩ (by simp)
theorem UM.lt {W : World} {b : Nat} {l : List U} (h : UM W b l) : b < W.heap.size := World.ownsMap.lt h
theorem UM.keptK {B : Nat} {W W' : World} {b : Nat} {l : List U} (h : UM W b l) (hk : KpB B W W') (hb : b < B) : UM W' b l := by
  obtain ⟨es, clock, hb', F, hs, hD⟩ := h
  exact ⟨es, clock, hk.same b _ hb' (.inl hb), F, hs, hD⟩

/-- the keys in memory -/
def KC (W : World) (bk : Nat) (l : List U) : Prop := ∀ i, i < l.length → W.cell? ⟨bk, i, none⟩ = some (.string (l.getD i U0).1)

theorem keys_row {W : World} {base : Nat} {v : Value} {l : List U} (ha : Asc keyU l) {ss : List (List UInt8)} (hp : ss.Perm (strKeys (DU l))) (h : W.ownsRow base 9 1 v ss.length ((ss.mergeSort (fun x y => decide (x ≤ y))).map encStr)) :
    (l = [] ∧ v = .slice none 0 0) ∨ ∃ bk cap, v = .slice (some ⟨bk, 0, none⟩) l.length cap ∧ base ≤ bk ∧ bk < W.heap.size ∧ KC W bk l := by
  rw [keys_DM] at hp
  rw [sorted_keys keyU ha hp] at h
  have hlen : ss.length = l.length := by have := hp.length_eq; simpa using this
  obtain ⟨h1, h2⟩ := h
  rcases h2 with ⟨rfl, hn⟩ | ⟨g, cap, cur, rfl, hb, hg, hc1, hc2, hc3, hc4⟩
  · refine .inl ⟨List.length_eq_zero_iff.1 (by omega), rfl⟩
  · refine .inr ⟨g, cap, by rw [hlen], hb, ?_, fun i hi => ?_⟩
    · refine Nat.lt_of_not_le fun hle => ?_
      rw [Array.getElem?_eq_none hle] at hg; simp at hg
    · have e2 : cur[i]? = some (encStr (kb keyU (l.getD i U0))) := by
        have e1 : (cur.toList.take (ss.length * 1))[i]? = some (encStr (kb keyU (l.getD i U0))) := by
          rw [hc4]
          simp [List.getD, hi]
        rw [List.getElem?_take_of_lt (by omega)] at e1
        simpa using e1
      simp only [World.cell?, hg]
      rw [← enc_key]
      simpa using e2

theorem lkU_at {l : List U} (ha : Asc keyU l) {k : Nat} (hk : k < l.length) : lkU l (l.getD k U0).1 = (l.getD k U0).2 := by
  have hg : l.getD k U0 = l[k] := by simp [List.getD, hk]
  rw [hg]
  have hp : posU l l[k].1 = k := posU_hit ha hk
  rw [lk_yes (has_at hk rfl), hp, hg]
theorem zeroI (w : World) : (zeroValue 3).run Tryz.prog w = .ok (.int .i64 0) w := by kernel_rfl
theorem look1_run {w : World} {b : Nat} {n : Nat} {l : List U} {t : TypeId} {s : ByteArray} (ht : Tryz.prog.underlying t = some (.map 9 3)) (h : w.ownsMap Tryz.prog 9 RV b n (DU l)) (ha : Asc keyU l) (hs : s.size ≤ maxLen) :
    (Instr.lookup t (.map (some b)) (.string s) false).run Tryz.prog w = .ok (.int .i64 (lkU l s)) w := by
  obtain ⟨v, ps, hrun, hv⟩ := World.ownsMap.lookup h law ht (zeroI w) (zd := .held (.int .i64 0)) (zp := []) rfl (key := .string s) (WideMaps.keyOf_string_mk Tryz.underlying9 hs)
  rw [look_DU ha s] at hv
  simp only [RV, Option.some.injEq, Prod.mk.injEq, DataW.held.injEq] at hv
  rw [hv.1] at hrun
  exact hrun
theorem take_step {l : List U} {k : Nat} (hk : k < l.length) : l.take k ++ [l.getD k U0] = l.take (k + 1) := by
  rw [List.take_add_one, List.getElem?_eq_getElem hk]; simp [List.getD, hk]

set_option maxRecDepth 100000 in
set_option maxHeartbeats 2000000 in
theorem asc1 (n : Nat) (hn : 1 ≤ n) (lp Bm B b : Nat) (l : List U) (ha : Asc keyU l) (hl : l.length ≤ 1048576) (hs : ∀ u ∈ l, u.1.size ≤ maxLen) (J Jx : List U → World → Prop)
    (W : World) (hbB : b < B) (hBm : B + 2 ≤ Bm) (hBs : Bm < W.heap.size) (hJa : AbidesFrom W.heap.size J)
    (hY : ∀ pre x W1, J pre W1 → pre.length < l.length → YieldAt Fence.wide (n - 1) Tryz.prog lp #[.string x.1, valU x] W1 fun e W' =>
      (e = .returned (.bool true) ∧ J (pre ++ [x]) W' ∧ KpB B W1 W') ∨ (e = .returned (.bool false) ∧ Jx (pre ++ [x]) W'))
    (hc : W.cell? ⟨Bm, 0, none⟩ = some (.map (some b))) (hm : UM W b l) (h0 : J [] W) :
    CallsIn Fence.wide n Tryz.prog 99 #[.func (.yield lp) #[] #[], .pointer (some ⟨Bm, 0, none⟩)] W fun e W' => (∃ v, e = .returned v) ∧
      ((∃ ys, ys = l ∧ J ys W') ∨ (∃ pre, pre <+: l ∧ Jx pre W')) := by
  have HJ := hide hJa
  have HY := hide hY
  have H0 := hide h0
  have HA := hide ha
  have HM := hide hm
  have HS := hide hs
  clear hJa hY h0 ha hm hs
  refine callsIn_of_wp Tryz.func99 rfl trivial ?_ rfl
  simp only [Tryz.ntmps99, List.size_toArray, List.length_cons, List.length_nil, Nat.reduceAdd, Nat.reduceSub, Array.replicate_succ, Array.replicate_zero, List.push_toArray, List.append_toArray, List.nil_append, List.cons_append]
  gi_wp2_with (fail)
  refine ⟨trivial, (callsIn_wide.2 (callsIn_wide.1 (Tryz.maps_Keys_101 (some b) _))).mono ?_⟩
  rintro e w1 ⟨rfl, rfl⟩
  gi_wp2_with (fail)
  refine ⟨trivial, (callsIn_wide.2 (callsIn_wide.1 (Tryz.slices_Sorted_keys_100_101 b l.length (DU l) RV W (unhide HM) (by rw [size_DM]; unfold maxLen; omega) (by rw [size_DM]; omega)))).mono ?_⟩
  rintro e w2 ⟨v, ss, rfl, hS, hrow, hnil, hb2⟩
  have hbb : Below W.heap.size W w2 := below_trans ((Below.refl _ _).alloc (Nat.le_refl _) _) hb2
  have hkr := keys_row (unhide HA) hS hrow
  have c1 : w2.cell? ⟨Bm, 0, none⟩ = some (.map (some b)) := (hbb.cell (p := ⟨Bm, 0, none⟩) hBs).trans hc
  have HM2 := hide ((unhide HM).kept hbb)
  have HJ2 := hide (unhide HJ [] W w2 none (unhide H0) (below_grown hbb none) (by simp))
  have hsz2 : W.heap.size ≤ w2.heap.size := hbb.size
  clear hb2 hbb hS hrow hnil HM H0 hc
  rcases hkr with ⟨rfl, rfl⟩ | ⟨bk, cap, rfl, hbk, hbks, hkc⟩
  · gi_wp2
    gi_loopw [9] (fun i wr => i = .int .i64 0 ∧ Hid (J [] wr)) (fun i _ => 0)
    case atStart => exact ⟨rfl, HJ2⟩
    case round =>
      obtain ⟨rfl, hJs⟩ := hrel
      gi_wp2
      go_end0
      exact ⟨⟨_, rfl⟩, .inl ⟨_, rfl, unhide hJs⟩⟩
  · rw [World.size_alloc] at hbk
    have HKC := hide hkc
    clear hkc
    gi_wp2
    gi_loopw [9] (fun i wr => ∃ (k : Nat), k ≤ l.length ∧ i = .int .i64 k ∧ Hid (J (l.take k) wr) ∧ Hid (KC wr bk l) ∧ Hid (UM wr b l) ∧ wr.cell? ⟨Bm, 0, none⟩ = some (.map (some b)) ∧ W.heap.size ≤ wr.heap.size) (fun i _ => l.length - (intOf i).toNat)
    case atStart => exact ⟨0, Nat.zero_le _, rfl, HJ2, HKC, HM2, c1, hsz2⟩
    case round =>
      obtain ⟨k, hk, rfl, hJs, hkc, hmr, hcb, hsr⟩ := hrel
      by_cases hlt : k < l.length
      · have c0 := unhide hkc k hlt
        have hsz : (l.getD k U0).1.size ≤ maxLen := unhide HS _ (by simp [List.getD, hlt])
        have i1 : (0 : Int) ≤ (k : Int) := by omega
        have i2 : (k : Int) < (l.length : Int) := by omega
        have hlk := look1_run Tryz.underlying116 (unhide hmr) (unhide HA) hsz
        rw [lkU_at (unhide HA) hlt] at hlk
        obtain ⟨fn, tmps, assign, body, hy, hR⟩ := unhide HY (l.take k) (l.getD k U0) wr (unhide hJs) (by simp; omega)
        have HT := hide (take_step hlt)
        generalize l.getD k U0 = x at *
        obtain ⟨s, q⟩ := x
        dsimp only at hy c0 hlk
        have HR := hide hR
        clear hR
        gi_wp2
        refine (unhide HR).mono ?_
        rintro e W3 (⟨rfl, hJ3, hk3⟩ | ⟨rfl, hJx3⟩)
        · have HJ3 := hide hJ3
          rw [unhide HT] at HJ3
          have HK3 : Hid (KC W3 bk l) := hide (fun i hi => hk3.cell (unhide hkc i hi) (.inr (by omega)))
          have HM3 := hide ((unhide hmr).keptK hk3 hbB)
          have c3 := hk3.cell hcb (.inr hBm)
          have z3 := Nat.le_trans hsr hk3.size
          clear hJ3 hk3 hy
          gi_wp2
          go_roundw
          case rel => exact ⟨k + 1, by omega, by go_num, HJ3, HK3, HM3, c3, z3⟩
          case measure => simp [intOf]; omega
        · have HJ3 := hide hJx3
          rw [unhide HT] at HJ3
          clear hJx3 hy
          gi_wp2
          refine bodyPost_ret (results_none rfl _ _ _) rfl ?_
          exact ⟨⟨_, rfl⟩, .inr ⟨_, List.take_prefix _ _, unhide HJ3⟩⟩
      · obtain rfl : k = l.length := by omega
        rw [List.take_length] at hJs
        gi_wp2
        go_end0
        exact ⟨⟨_, rfl⟩, .inl ⟨_, rfl, unhide hJs⟩⟩

/-- what ascending hands out, as a loop over it wants it -/
theorem asc_stops (n : Nat) (hn : 1 ≤ n) (Bm B b : Nat) (l : List U) (ha : Asc keyU l) (hl : l.length ≤ 1048576) (hs : ∀ u ∈ l, u.1.size ≤ maxLen) (w : World) (hbB : b < B) (hBm : B + 2 ≤ Bm) (hBs : Bm < w.heap.size)
    (hc : w.cell? ⟨Bm, 0, none⟩ = some (.map (some b))) (hm : UM w b l) :
    SeqStopsK Fence.wide n Tryz.prog 99 #[.pointer (some ⟨Bm, 0, none⟩)] (fun x : U => #[Value.string x.1, valU x]) (KpB B) (fun ys => ys = l) (fun pre => pre <+: l) l.length w :=
  fun lp J Jx W hW hJ _ hY h0 =>
    asc1 n hn lp Bm B b l ha hl hs J Jx W hbB hBm (Nat.lt_of_lt_of_le hBs hW.size) hJ hY ((hW.cell (p := ⟨Bm, 0, none⟩) hBs).trans hc) (hm.kept hW) h0

/-- impl.ascending -/
theorem ascI (n : Nat) (b : Nat) (w : World) :
    CallsIn Fence.wide n Tryz.prog 66 #[.map (some b)] w fun e w' => e = .returned (.func (.func 99) #[] #[.pointer (some ⟨w.heap.size, 0, none⟩)]) ∧ w' = w.alloc (.cells #[.map (some b)] 116) := by
  refine callsIn_of_wp Tryz.func66 rfl trivial ?_ rfl
  simp only [Tryz.ntmps66, List.size_toArray, List.length_cons, List.length_nil, Nat.reduceAdd, Nat.reduceSub, Array.replicate_succ, Array.replicate_zero, List.push_toArray, List.append_toArray, List.nil_append, List.cons_append]
  gi_wp2
  go_ret
  exact ⟨rfl, rfl⟩
end Go.Proofs.YtnchgeiinkaefaaGreatDoor.Sums
end
