/-
  Texts of this proof laid together, in build order; each says of itself what it holds.
-/
import Derived.Test.YtnchgeiinkaefaaGreatDoorProg
import Derived.WalkKit
import Derived.WalkLawsBesides
import Derived.Below
import Derived.Deep.QuietTactic
import Derived.BigQuiet
import Derived.Deep.OwnRows
import Derived.WalkMore
import Derived.Outline
import Derived.Deep.RegionHeld3
import Derived.Lib.Strings
import Derived.Test.YtnchgeiinkaefaaGreatDoorZac
import Derived.Test.YtnchgeiinkaefaaGreatDoorZal
import Derived.Test.YtnchgeiinkaefaaGreatDoorZaa
import Derived.Test.YtnchgeiinkaefaaGreatDoorZaj
section
/-
  Slices of uses (a text and a number) in memory, and the laws' own helpers on them: size, copy, compare.
-/
namespace Go.Proofs.YtnchgeiinkaefaaGreatDoor.Uses
set_option linter.unusedVariables false
open Go.RowKit

theorem hide {p : Prop} (h : p) : Hid p := h
theorem unhide {p : Prop} (h : Hid p) : p := h

abbrev U := ByteArray × Int
abbrev U0 : U := (ByteArray.empty, 0)

/-- from o on block b holds the uses l -/
def UC (W : World) (b o : Nat) (l : List U) : Prop := b < W.heap.size ∧ ∀ i, i < l.length → W.cell? ⟨b, o + i * 2, none⟩ = some (.string (l.getD i U0).1) ∧ W.cell? ⟨b, o + i * 2 + 1, none⟩ = some (.int .i64 (l.getD i U0).2)

/-- the slice v holds the uses l -/
def UR (W : World) (v : Value) (l : List U) : Prop :=
  (l = [] ∧ ∃ a c, v = .slice a 0 c) ∨ ∃ b o cap, v = .slice (some ⟨b, o, none⟩) l.length cap ∧ UC W b o l

theorem UC.kept {W W' : World} {b o : Nat} {l : List U} (h : UC W b o l) (hb : Below W.heap.size W W') : UC W' b o l :=
  ⟨Nat.lt_of_lt_of_le h.1 hb.size, fun i hi => ⟨(hb.cell (p := ⟨b, o + i * 2, none⟩) h.1).trans (h.2 i hi).1, (hb.cell (p := ⟨b, o + i * 2 + 1, none⟩) h.1).trans (h.2 i hi).2⟩⟩
theorem UR.kept {W W' : World} {v : Value} {l : List U} (h : UR W v l) (hb : Below W.heap.size W W') : UR W' v l := by
  rcases h with h | ⟨b, o, cap, rfl, hc⟩
  · exact .inl h
  · exact .inr ⟨b, o, cap, rfl, hc.kept hb⟩
theorem below_trans {w w1 w2 : World} (h : Below w.heap.size w w1) (k : Below w1.heap.size w1 w2) : Below w.heap.size w w2 := h.trans (k.mono h.size)

/-! ### The copy -/

/-- a row of uses of the call's own: block b holds l, nothing of it is frozen -/
def UOwn (W : World) (b : Nat) (l : List U) : Prop := UC W b 0 l ∧ ∀ j, W.frozen? ⟨b, j, none⟩ = false

theorem UOwn.set {W : World} {b : Nat} {l : List U} (h : UOwn W b l) {k : Nat} (hk : k < l.length) (x : U) :
    UOwn ((W.setCell ⟨b, 0 + k * 2, none⟩ (.string x.1)).setCell ⟨b, 0 + k * 2 + 1, none⟩ (.int .i64 x.2)) b (l.set k x) := by
  refine ⟨⟨by simpa using h.1.1, fun i hi => ?_⟩, fun j => by simpa [World.frozen?_setCell] using h.2 j⟩
  have hi' : i < l.length := by simpa using hi
  obtain ⟨c0, c1⟩ := h.1.2 i hi'
  by_cases e : i = k
  · subst e
    rw [List.getD_eq_getElem?_getD, List.getElem?_set_self hi']
    refine ⟨?_, ?_⟩
    · rw [World.cell?_setCell_other _ _ _ _ (by simp)]
      exact World.cell?_setCell_same _ _ _ c0
    · exact World.cell?_setCell_same _ _ _ (by rw [World.cell?_setCell_other _ _ _ _ (by simp)]; exact c1)
  · rw [World.cell?_setCell_other _ _ _ _ (by simp), World.cell?_setCell_other _ _ _ _ (by simp), World.cell?_setCell_other _ _ _ _ (by simp), World.cell?_setCell_other _ _ _ _ (by simp), c0, c1, List.getD_eq_getElem?_getD, List.getD_eq_getElem?_getD, List.getElem?_set_ne (by omega)]
    exact ⟨rfl, rfl⟩

theorem UOwn.kept {W W' : World} {b : Nat} {l : List U} (h : UOwn W b l) (hb : Below W.heap.size W W') : UOwn W' b l :=
  ⟨h.1.kept hb, fun j => (hb.frozen (p := ⟨b, j, none⟩) h.1.1).trans (h.2 j)⟩

theorem infoU : (Tryz.prog.info? 73).map (fun i => (i.zero, i.size, i.bytes)) = some (some (.agg #[.string ByteArray.empty, .int .i64 0]), 2, 24) := by kernel_rfl

theorem UOwn.made (w : World) (n : Nat) (t : TypeId) : UOwn (w.alloc (.cells (madeCells #[.string ByteArray.empty, .int .i64 0] (n * 2)) t)) w.heap.size (List.replicate n U0) := by
  have e1 := (MapKept.heap_alloc w (.cells (madeCells #[.string ByteArray.empty, .int .i64 0] (n * 2)) t)).1
  refine ⟨⟨by simp, fun i hi => ?_⟩, fun j => ?_⟩
  · have hi' : i < n := by simpa using hi
    have m0 : i * 2 % 2 = 0 := by omega
    have m1 : (i * 2 + 1) % 2 = 1 := by omega
    have l0 : i * 2 < n * 2 := by omega
    have l1 : i * 2 + 1 < n * 2 := by omega
    simp only [World.cell?]
    rw [e1]
    constructor
    · simp [madeCells, hi', l0, m0]
    · simp [madeCells, hi', l1, m1]
  · simp only [World.frozen?]
    rw [e1]; simp

theorem copy_step (l : List U) (k : Nat) (h : k < l.length) : (l.take k ++ List.replicate (l.length - k) U0).set k (l.getD k U0) = l.take (k + 1) ++ List.replicate (l.length - (k + 1)) U0 := by
  have e : l.length - k = (l.length - (k + 1)) + 1 := by omega
  rw [e, List.replicate_succ, List.set_append_right _ _ (by simp; omega)]
  have e2 : k - (l.take k).length = 0 := by simp; omega
  rw [e2, List.set_cons_zero]
  have e3 : l.take (k + 1) = l.take k ++ [l.getD k U0] := by rw [List.take_add_one, List.getElem?_eq_getElem h]; simp [List.getD, h]
  rw [e3, List.append_assoc]; rfl

theorem below_drewN' {B : Nat} {a w : World} (h : Below B a w) (k : Nat) : Below B a (w.drewN k) := ⟨h.os, h.tape, h.output, h.size, h.block⟩
theorem below_of_drew {B : Nat} {a w : World} (h : Below B a.drew w) : Below B a w := ⟨h.os, h.tape, h.output, h.size, h.block⟩
/-! ### RuleOf -/

/-- how much of a meter was used -/
def ofV (m : ByteArray) : List U → Int
  | [] => 0
  | u :: us => if u.1 = m then u.2 else ofV m us

theorem ofV_hit (m : ByteArray) : ∀ (l : List U) (k : Nat), k < l.length → (∀ j, j < k → (l.getD j U0).1 ≠ m) → (l.getD k U0).1 = m → ofV m l = (l.getD k U0).2
  | [], k, h, _, _ => by simp at h
  | u :: us, 0, _, _, h => by simp only [List.getD_cons_zero] at h ⊢; simp [ofV, h]
  | u :: us, k + 1, hk, hj, h => by
    have h0 := hj 0 (by omega)
    simp only [List.getD_cons_zero] at h0
    simp only [List.getD_cons_succ] at h ⊢
    rw [ofV, if_neg h0]
    exact ofV_hit m us k (by simpa using hk) (fun j hj' => by have := hj (j + 1) (by omega); simpa using this) h
theorem ofV_none (m : ByteArray) : ∀ (l : List U), (∀ j, j < l.length → (l.getD j U0).1 ≠ m) → ofV m l = 0
  | [], _ => rfl
  | u :: us, hj => by
    have h0 := hj 0 (by simp)
    simp only [List.getD_cons_zero] at h0
    rw [ofV, if_neg h0]
    exact ofV_none m us (fun j hj' => by have := hj (j + 1) (by simp; omega); simpa using this)

theorem ext_toList {s t : ByteArray} (h : s.toList = t.toList) : s = t := by
  rw [Lib.toList_data, Lib.toList_data] at h
  cases s; cases t
  simp only at h
  rw [Array.toList_inj.1 h]

set_option maxHeartbeats 800000 in
/-- spec.RuleOf -/
theorem ofS (v : Value) (l : List U) (m : ByteArray) (w : World) (h : UR w v l) (hl : l.length ≤ 1048576) :
    Calls Tryz.prog 87 #[v, .string m] w fun e w' => e = .returned (.int .i64 (ofV m l)) ∧ Below w.heap.size w w' := by
  rcases h with ⟨rfl, a, c, rfl⟩ | ⟨b, o, cap, rfl, hc⟩
  · go_enter Tryz.func87, Tryz.ntmps87
    go_wp2
    refine wp_loop_rounds 1 ?_
    rw [rounds_succ]
    go_wp2
    go_ret
    exact ⟨rfl, Below.refl _ _⟩
  · have HC := hide hc; clear hc
    generalize hr : ofV m l = r
    have HR := hide hr; clear hr
    go_enter Tryz.func87, Tryz.ntmps87
    go_wp2
    go_loop [5] (fun i => ∃ k : Nat, k ≤ l.length ∧ i = .int .i64 k ∧ Hid (∀ j, j < k → (l.getD j U0).1 ≠ m)) (fun i => l.length - (intOf i).toNat)
    case atStart => exact ⟨0, Nat.zero_le _, rfl, hide (fun j hj => by omega)⟩
    case round =>
      obtain ⟨k, hk, rfl, hd⟩ := hrel
      by_cases hlt : k < l.length
      · obtain ⟨c0, c1⟩ := (unhide HC).2 k hlt
        by_cases he : (l.getD k U0).1 = m
        · have hr := (unhide HR).symm.trans (ofV_hit m l k hlt (unhide hd) he)
          rw [he] at c0
          rw [← hr] at c1
          clear he hr
          have hx : (m.toList == m.toList) = true := by simp
          go_wp2
          go_ret
          exact ⟨rfl, Below.refl _ _⟩
        · have hd' : Hid (∀ j, j < k + 1 → (l.getD j U0).1 ≠ m) := hide (fun j hj => by
            by_cases e : j < k
            · exact unhide hd j e
            · obtain rfl : j = k := by omega
              exact he)
          have hx : ((l.getD k U0).1.toList == m.toList) = false := by
            rw [beq_eq_false_iff_ne]; intro e; exact he (ext_toList e)
          clear he
          generalize (l.getD k U0).1 = s at *
          generalize (l.getD k U0).2 = q at *
          go_wp2
          exact ⟨⟨k + 1, by omega, by go_num, hd'⟩, by simp [intOf]; omega⟩
      · have hr : r = 0 := by rw [← unhide HR]; exact ofV_none m l (fun j hj => unhide hd j (by omega))
        subst hr
        go_wp2
        go_ret
        exact ⟨rfl, Below.refl _ _⟩

set_option maxHeartbeats 800000 in
/-- impl.RuleOf -/
theorem ofI (v : Value) (l : List U) (m : ByteArray) (w : World) (h : UR w v l) (hl : l.length ≤ 1048576) :
    Calls Tryz.prog 271 #[v, .string m] w fun e w' => e = .returned (.int .i64 (ofV m l)) ∧ Below w.heap.size w w' := by
  rcases h with ⟨rfl, a, c, rfl⟩ | ⟨b, o, cap, rfl, hc⟩
  · go_enter Tryz.func271, Tryz.ntmps271
    go_wp2
    refine wp_loop_rounds 1 ?_
    rw [rounds_succ]
    go_wp2
    go_ret
    exact ⟨rfl, Below.refl _ _⟩
  · have HC := hide hc; clear hc
    generalize hr : ofV m l = r
    have HR := hide hr; clear hr
    go_enter Tryz.func271, Tryz.ntmps271
    go_wp2
    go_loopw [9] (fun i wr => ∃ k : Nat, k ≤ l.length ∧ i = .int .i64 k ∧ Hid (∀ j, j < k → (l.getD j U0).1 ≠ m) ∧ Hid (Below w.heap.size w wr)) (fun i _ => l.length - (intOf i).toNat)
    case atStart => exact ⟨0, Nat.zero_le _, rfl, hide (fun j hj => by omega), hide (Below.refl _ _)⟩
    case round =>
      obtain ⟨k, hk, rfl, hd, hb⟩ := hrel
      by_cases hlt : k < l.length
      · obtain ⟨c0, c1⟩ := ((unhide HC).kept (unhide hb)).2 k hlt
        by_cases he : (l.getD k U0).1 = m
        · have hr := (unhide HR).symm.trans (ofV_hit m l k hlt (unhide hd) he)
          rw [he] at c0
          rw [← hr] at c1
          clear he hr
          have hx : (m.toList == m.toList) = true := by simp
          go_wp2
          go_ret
          exact ⟨rfl, (unhide hb).alloc (unhide hb).size _⟩
        · have hd' : Hid (∀ j, j < k + 1 → (l.getD j U0).1 ≠ m) := hide (fun j hj => by
            by_cases e : j < k
            · exact unhide hd j e
            · obtain rfl : j = k := by omega
              exact he)
          have hx : ((l.getD k U0).1.toList == m.toList) = false := by
            rw [beq_eq_false_iff_ne]; intro e; exact he (ext_toList e)
          clear he
          generalize (l.getD k U0).1 = s at *
          generalize (l.getD k U0).2 = q at *
          go_wp2
          exact ⟨⟨k + 1, by omega, by go_num, hd', hide ((unhide hb).alloc (unhide hb).size _)⟩, by simp [intOf]; omega⟩
      · have hr : r = 0 := by rw [← unhide HR]; exact ofV_none m l (fun j hj => unhide hd j (by omega))
        subst hr
        go_wp2
        go_ret
        exact ⟨rfl, unhide hb⟩
end Go.Proofs.YtnchgeiinkaefaaGreatDoor.Uses
end

section
/-
  What a tariff comes to: a relation; no program in it.
-/
namespace Go.Proofs.YtnchgeiinkaefaaGreatDoor.Rule
set_option linter.unusedVariables false
open Tiers (stepV stepB)
open Kinds (kidsK)
open Coin (okB addV addB timesV fitB partV partB)

def pairV (k a b : Int) : Int := if k = 3 then addV a b else if k = 4 then addV a (-b) else if k = 5 then timesV a b else if k = 7 then (if b < a then b else a) else (if b < a then a else b)
def pairB (k a b : Int) : Bool := if k = 3 then addB a b else if k = 4 then addB a (-b) else if k = 5 then fitB a b else true
/-- the kid to be run behind those that have these values -/
def nextM (k : Int) (vs : List Int) : Option Nat :=
  if k = 9 then (if vs.length = 0 then some 0 else if vs.length = 1 then (if 0 < vs.getD 0 0 then some 1 else some 2) else none)
  else if (vs.length : Int) < kidsK k then some vs.length else none
def valV (us : List Uses.U) (e : Ex) (vs : List Int) : Int :=
  if e.kind = 1 then e.num else if e.kind = 2 then Uses.ofV e.meter us else if e.kind = 6 then partV (vs.getD 0 0) e.num 10000
  else if e.kind = 9 then vs.getD 1 0 else if e.kind = 10 then stepV e.tiers (vs.getD 0 0) else pairV e.kind (vs.getD 0 0) (vs.getD 1 0)
def valB (us : List Uses.U) (e : Ex) (vs : List Int) : Bool :=
  if e.kind = 1 then true else if e.kind = 2 then okB (Uses.ofV e.meter us) else if e.kind = 6 then partB (vs.getD 0 0) e.num 10000
  else if e.kind = 9 then true else if e.kind = 10 then stepB e.tiers (vs.getD 0 0) else pairB e.kind (vs.getD 0 0) (vs.getD 1 0)

mutual
/-- with so much fuel an expression comes to: a value, a code, the fuel that is left -/
inductive Ev (us : List Uses.U) : Ex → Nat → Int → Nat → Nat → Prop where
  | out (e : Ex) : Ev us e 0 0 2 0
  | go {e : Ex} {l : Nat} {v : Int} {c l' : Nat} (h : Rest us e [] l v c l') : Ev us e (l + 1) v c l'
/-- .. whose first kids to be run came to these values -/
inductive Rest (us : List Uses.U) : Ex → List Int → Nat → Int → Nat → Nat → Prop where
  | kid {e : Ex} {vs : List Int} {l i : Nat} {v : Int} {l' : Nat} {r : Int} {c l'' : Nat} (hn : nextM e.kind vs = some i) (h : Ev us (e.kids.getD i E0) l v 0 l') (ho : okB v = true) (hl : l' ≤ l) (k : Rest us e (vs ++ [v]) l' r c l'') : Rest us e vs l r c l''
  | bad {e : Ex} {vs : List Int} {l i : Nat} {v : Int} {c l' : Nat} (hn : nextM e.kind vs = some i) (h : Ev us (e.kids.getD i E0) l v c l') (hc : c ≠ 0) (hl : l' ≤ l) : Rest us e vs l 0 c l'
  | val {e : Ex} {vs : List Int} {l : Nat} (hn : nextM e.kind vs = none) (hv : valB us e vs = true) : Rest us e vs l (valV us e vs) 0 l
  | over {e : Ex} {vs : List Int} {l : Nat} (hn : nextM e.kind vs = none) (hv : valB us e vs = false) : Rest us e vs l 0 1 l
end

theorem Ev.nought {us : List Uses.U} {e : Ex} {v : Int} {c l' : Nat} (h : Ev us e 0 v c l') : c = 2 ∧ l' = 0 := by
  cases h; exact ⟨rfl, rfl⟩
theorem Ev.more {us : List Uses.U} {e : Ex} {l : Nat} {v : Int} {c l' : Nat} (h : Ev us e (l + 1) v c l') : Rest us e [] l v c l' := by
  cases h; assumption
/-- what the rest is if a kid is to be run -/
theorem Rest.run {us : List Uses.U} {e : Ex} {vs : List Int} {l i : Nat} {r : Int} {c l'' : Nat} (h : Rest us e vs l r c l'') (hn : nextM e.kind vs = some i) :
    (∃ v l', Ev us (e.kids.getD i E0) l v 0 l' ∧ okB v = true ∧ l' ≤ l ∧ Rest us e (vs ++ [v]) l' r c l'') ∨ (∃ v, Ev us (e.kids.getD i E0) l v c l'' ∧ c ≠ 0 ∧ l'' ≤ l) := by
  cases h with
  | kid hn' h ho hl k => rw [hn] at hn'; cases hn'; exact .inl ⟨_, _, h, ho, hl, k⟩
  | bad hn' h hc hl => rw [hn] at hn'; cases hn'; exact .inr ⟨_, h, hc, hl⟩
  | val hn' _ => rw [hn] at hn'; cases hn'
  | over hn' _ => rw [hn] at hn'; cases hn'
theorem Rest.yes {us : List Uses.U} {e : Ex} {vs : List Int} {l : Nat} {r : Int} {c l'' : Nat} (h : Rest us e vs l r c l'') (hn : nextM e.kind vs = none) (hv : valB us e vs = true) : r = valV us e vs ∧ c = 0 ∧ l'' = l := by
  cases h with
  | kid hn' => rw [hn] at hn'; cases hn'
  | bad hn' => rw [hn] at hn'; cases hn'
  | val => exact ⟨rfl, rfl, rfl⟩
  | over _ hv' => rw [hv] at hv'; cases hv'
theorem Rest.no {us : List Uses.U} {e : Ex} {vs : List Int} {l : Nat} {r : Int} {c l'' : Nat} (h : Rest us e vs l r c l'') (hn : nextM e.kind vs = none) (hv : valB us e vs = false) : c = 1 ∧ l'' = l := by
  cases h with
  | kid hn' => rw [hn] at hn'; cases hn'
  | bad hn' => rw [hn] at hn'; cases hn'
  | val _ hv' => rw [hv] at hv'; cases hv'
  | over => exact ⟨rfl, rfl⟩

theorem pair_bd {k a b : Int} (ha : okB a = true) (hb : okB b = true) (h : pairB k a b = true) : okB (pairV k a b) = true := by
  unfold pairB at h
  unfold pairV
  split
  · rename_i h3; rw [if_pos h3] at h; rw [Coin.addV_yes h]; exact (Tiers.addB_parts h).2.2
  rename_i h3; rw [if_neg h3] at h
  split
  · rename_i h4; rw [if_pos h4] at h; rw [Coin.addV_yes h]; exact (Tiers.addB_parts h).2.2
  rename_i h4; rw [if_neg h4] at h
  split
  · rename_i h5; rw [if_pos h5] at h; rw [Coin.timesV_yes h]; exact Coin.okB_true (Coin.fit_ok h).2.2
  split <;> split <;> assumption
theorem node_parts {e : Ex} (h : nodeE e = true) : 1 ≤ e.kind ∧ e.kind ≤ 10 ∧ (e.kids.length : Int) = kidsK e.kind ∧ fitsB e.kind e.num e.meter e.tiers = true := by
  unfold nodeE nodeB at h
  simp only [Bool.and_eq_true, decide_eq_true_eq] at h
  exact ⟨h.1.1, h.1.2.1, h.1.2.2, h.2⟩
theorem all_kid {e : Ex} {i : Nat} (h : allB e = true) (hi : i < e.kids.length) : allB (e.kids.getD i E0) = true := by
  rw [allB_eq] at h
  simp only [Bool.and_eq_true] at h
  have h2 := h.2
  have : allL (e.kids.take (i + 1)) = true := by
    cases hh : allL (e.kids.take (i + 1))
    · rw [allL_false hh] at h2; cases h2
    · rfl
  rw [allL_take hi] at this
  simp only [Bool.and_eq_true] at this
  exact this.2
theorem all_node {e : Ex} (h : allB e = true) : nodeE e = true := by
  rw [allB_eq] at h; simp only [Bool.and_eq_true] at h; exact h.1
theorem num_bd {e : Ex} (h : nodeE e = true) (hk : e.kind = 1) : okB e.num = true := by
  have := (node_parts h).2.2.2
  unfold fitsB at this
  rw [if_pos hk] at this
  simp only [Bool.and_eq_true, decide_eq_true_eq] at this
  exact Coin.okB_true (by omega)
theorem wt_kid {e : Ex} {i : Nat} (hi : i < e.kids.length) (hw : wt e ≤ 1048576) : wt (e.kids.getD i E0) ≤ 1048576 := by
  have := wt_at hi
  rw [wt_eq] at hw; omega
end Go.Proofs.YtnchgeiinkaefaaGreatDoor.Rule
end

section
/-
  What a tariff comes to does not hang on the order of meters; no program in it.
-/
namespace Go.Proofs.YtnchgeiinkaefaaGreatDoor.Rule
set_option linter.unusedVariables false

theorem val_congr {us us' : List Uses.U} (h : ∀ m, Uses.ofV m us = Uses.ofV m us') (e : Ex) (vs : List Int) : valV us e vs = valV us' e vs ∧ valB us e vs = valB us' e vs := by
  unfold valV valB; rw [h e.meter]; exact ⟨rfl, rfl⟩
mutual
theorem Ev.congr {us us' : List Uses.U} (h : ∀ m, Uses.ofV m us = Uses.ofV m us') {e : Ex} {l : Nat} {v : Int} {c l' : Nat} : Ev us e l v c l' → Ev us' e l v c l'
  | .out e => .out e
  | .go k => .go (Rest.congr h k)
theorem Rest.congr {us us' : List Uses.U} (h : ∀ m, Uses.ofV m us = Uses.ofV m us') {e : Ex} {vs : List Int} {l : Nat} {v : Int} {c l' : Nat} : Rest us e vs l v c l' → Rest us' e vs l v c l'
  | .kid hn k ho hl r => .kid hn (Ev.congr h k) ho hl (Rest.congr h r)
  | .bad hn k hc hl => .bad hn (Ev.congr h k) hc hl
  | .val hn hv => by rw [(val_congr h e vs).1]; exact .val hn (by rw [← (val_congr h e vs).2]; exact hv)
  | .over hn hv => .over hn (by rw [← (val_congr h e vs).2]; exact hv)
end
end Go.Proofs.YtnchgeiinkaefaaGreatDoor.Rule
end

section
/-
  CoinPart, the program's and the document's: both answer one and the same.
-/
namespace Go.Proofs.YtnchgeiinkaefaaGreatDoor.Coin
set_option linter.unusedVariables false
open Go.RowKit

theorem rndEM (q r d : Int) (w : World) (h0 : 0 ≤ q) (h0' : q ≤ 4000000000000000) (h1 : 0 ≤ r) (h2 : r < d) (h3 : d ≤ 16000000) : Calls Tryz.prog 104 #[.int .i64 q, .int .i64 r, .int .i64 d] w fun e w' => e = .returned (.int .i64 (rndE q r d)) ∧ w' = w := by
  by_cases c1 : d < 2 * r
  · go_enter Tryz.func104, Tryz.ntmps104
    go_wp2
    go_ret
    exact ⟨ret_int (rndE_up c1).symm, rfl⟩
  · by_cases c2 : 2 * r = d
    · have c2' : (2 * r == d) = true := by simpa using c2
      by_cases c3 : q % 2 = 0
      · have c3' : (q % 2 != 0) = false := by simpa using c3
        have C2 := hide c2; clear c2
        have C3 := hide c3; clear c3
        go_enter Tryz.func104, Tryz.ntmps104
        go_wp2
        go_ret
        exact ⟨ret_int (rndE_even (unhide C2) (unhide C3)).symm, rfl⟩
      · have c3' : (q % 2 != 0) = true := by simpa using c3
        have C2 := hide c2; clear c2
        go_enter Tryz.func104, Tryz.ntmps104
        go_wp2
        go_ret
        exact ⟨ret_int (rndE_tie (unhide C2) c3).symm, rfl⟩
    · have c2' : (2 * r == d) = false := by simpa using c2
      go_enter Tryz.func104, Tryz.ntmps104
      go_wp2
      go_ret
      exact ⟨ret_int (rndE_low (by omega)).symm, rfl⟩

theorem rndDM (q r d : Int) (w : World) : Calls Tryz.prog 69 #[.int .i64 q, .int .i64 r, .int .i64 d] w fun e w' => e = .returned (.int .i64 q) ∧ w' = w := by
  go_enter Tryz.func69, Tryz.ntmps69
  go_wp2
  go_ret
  exact ⟨rfl, rfl⟩

theorem timesM_yes (a b : Int) (w : World) (h : fitB a b = true) : Calls Tryz.prog 102 #[.int .i64 a, .int .i64 b] w fun e w' => e = .returned (.tuple #[.int .i64 (a * b), .bool true]) ∧ w' = w := by
  have := timesM a b w; rw [timesV_yes h, h] at this; exact this
theorem timesM_no (a b : Int) (w : World) (h : fitB a b = false) : Calls Tryz.prog 102 #[.int .i64 a, .int .i64 b] w fun e w' => e = .returned (.tuple #[.int .i64 0, .bool false]) ∧ w' = w := by
  have := timesM a b w; rw [timesV_no h, h] at this; exact this

/-- what divide answers with roundEven: the part, the rest, whether it is told -/
theorem divE_no (x n d : Int) (w : World) (h1 : 0 ≤ x) (h2 : x ≤ 1000000000000000) (hn : 0 ≤ n) (hn' : n ≤ 1000000) (hd : 1 ≤ d) (hd' : d ≤ 16000000) (fn : Value) (hf : fitB (x / d) n = false) : Calls Tryz.prog 68 #[.int .i64 x, .int .i64 n, .int .i64 d, fn] w fun e w' => e = .returned (.tuple #[.int .i64 0, .int .i64 0, .bool false]) ∧ w' = w := by
  go_enter Tryz.func68, Tryz.ntmps68
  go_wp2_with (first | (go_at_call 102; refine (timesM_no _ _ _ hf).mono ?_; rintro e w' ⟨rfl, rfl⟩))
  go_ret3
  exact ⟨rfl, rfl⟩

theorem divE_yes (x n d : Int) (w : World) (h1 : 0 ≤ x) (h2 : x ≤ 1000000000000000) (hn : 0 ≤ n) (hn' : n ≤ 1000000) (hd : 1 ≤ d) (hd' : d ≤ 16000000) (hf : fitB (x / d) n = true) (hp : okB (rndE (x / d * n + x % d * n / d) (x % d * n % d) d) = true) : Calls Tryz.prog 68 #[.int .i64 x, .int .i64 n, .int .i64 d, .func (.func 104) #[] #[]] w fun e w' => e = .returned (.tuple #[.int .i64 (rndE (x / d * n + x % d * n / d) (x % d * n % d) d), .int .i64 (x % d * n % d), .bool true]) ∧ ∃ k, w' = w.drewN k := by
  obtain ⟨f1, f2, f3, f4⟩ := fit_ok hf
  obtain ⟨p1, p2⟩ := prodBd (x := x) hn hn' hd hd'
  obtain ⟨q1, q2, q3, q4⟩ := divBd (y := x % d * n) p1 hd
  have x0 := divBd h1 hd
  have f0 : 0 ≤ x / d * n := Int.mul_nonneg x0.1 hn
  clear f1 f2 f3
  go_enter Tryz.func68, Tryz.ntmps68
  go_wp2_with (first | (go_at_call 102; refine (timesM_yes _ _ _ hf).mono ?_; rintro e w' ⟨rfl, rfl⟩))
  go_quiet ((go_at_call 104; exact Calls.quiet_of_same (rndEM _ _ _ _ (by omega) (by omega) (by omega) (by omega) (by omega))))
  go_wp2_with (first | (go_at_call 72; refine (okM _ _).mono ?_; rintro e w' ⟨rfl, rfl⟩))
  go_quiet (fail)
  go_wp2
  go_ret3
  exact ⟨rfl, _, World.drewN_drewN _ _ _⟩

theorem divE_big (x n d : Int) (w : World) (h1 : 0 ≤ x) (h2 : x ≤ 1000000000000000) (hn : 0 ≤ n) (hn' : n ≤ 1000000) (hd : 1 ≤ d) (hd' : d ≤ 16000000) (hf : fitB (x / d) n = true) (hp : okB (rndE (x / d * n + x % d * n / d) (x % d * n % d) d) = false) : Calls Tryz.prog 68 #[.int .i64 x, .int .i64 n, .int .i64 d, .func (.func 104) #[] #[]] w fun e w' => e = .returned (.tuple #[.int .i64 0, .int .i64 0, .bool false]) ∧ ∃ k, w' = w.drewN k := by
  obtain ⟨f1, f2, f3, f4⟩ := fit_ok hf
  obtain ⟨p1, p2⟩ := prodBd (x := x) hn hn' hd hd'
  obtain ⟨q1, q2, q3, q4⟩ := divBd (y := x % d * n) p1 hd
  have x0 := divBd h1 hd
  have f0 : 0 ≤ x / d * n := Int.mul_nonneg x0.1 hn
  clear f1 f2 f3
  go_enter Tryz.func68, Tryz.ntmps68
  go_wp2_with (first | (go_at_call 102; refine (timesM_yes _ _ _ hf).mono ?_; rintro e w' ⟨rfl, rfl⟩))
  go_quiet ((go_at_call 104; exact Calls.quiet_of_same (rndEM _ _ _ _ (by omega) (by omega) (by omega) (by omega) (by omega))))
  go_wp2_with (first | (go_at_call 72; refine (okM _ _).mono ?_; rintro e w' ⟨rfl, rfl⟩))
  go_ret3
  exact ⟨rfl, _, rfl⟩

theorem partI_bad (a n d : Int) (w : World) (h : okB a = false ∨ n < 0 ∨ 1000000 < n ∨ d < 1 ∨ 1000000 < d) : Calls Tryz.prog 70 #[.int .i64 a, .int .i64 n, .int .i64 d] w fun e w' => e = .returned (.tuple #[.int .i64 0, .bool false]) ∧ w' = w := by
  cases ha : okB a
  · go_enter Tryz.func70, Tryz.ntmps70
    go_wp2_with (first | (go_at_call 47; refine (okI _ _).mono ?_; rintro e w' ⟨rfl, rfl⟩))
    go_ret2
    exact ⟨rfl, rfl⟩
  · by_cases c1 : n < 0
    · go_enter Tryz.func70, Tryz.ntmps70
      go_wp2_with (first | (go_at_call 47; refine (okI _ _).mono ?_; rintro e w' ⟨rfl, rfl⟩))
      go_ret2
      exact ⟨rfl, rfl⟩
    · by_cases c2 : 1000000 < n
      · go_enter Tryz.func70, Tryz.ntmps70
        go_wp2_with (first | (go_at_call 47; refine (okI _ _).mono ?_; rintro e w' ⟨rfl, rfl⟩))
        go_ret2
        exact ⟨rfl, rfl⟩
      · by_cases c3 : d < 1
        · go_enter Tryz.func70, Tryz.ntmps70
          go_wp2_with (first | (go_at_call 47; refine (okI _ _).mono ?_; rintro e w' ⟨rfl, rfl⟩))
          go_ret2
          exact ⟨rfl, rfl⟩
        · have c4 : 1000000 < d := by rw [ha] at h; simp at h; omega
          clear h
          go_enter Tryz.func70, Tryz.ntmps70
          go_wp2_with (first | (go_at_call 47; refine (okI _ _).mono ?_; rintro e w' ⟨rfl, rfl⟩))
          go_ret2
          exact ⟨rfl, rfl⟩

theorem partI (a n d : Int) (w : World) : Calls Tryz.prog 70 #[.int .i64 a, .int .i64 n, .int .i64 d] w fun e w' => e = .returned (.tuple #[.int .i64 (partV a n d), .bool (partB a n d)]) ∧ ∃ k, w' = w.drewN k := by
  by_cases hb : okB a = false ∨ n < 0 ∨ 1000000 < n ∨ d < 1 ∨ 1000000 < d
  · have e : partB a n d = false := by
      unfold partB
      rcases hb with h | h
      · simp [h]
      · have : decide (0 ≤ n ∧ n ≤ 1000000 ∧ 1 ≤ d ∧ d ≤ 1000000) = false := by simp; omega
        rw [this]; simp
    refine (partI_bad a n d w hb).mono ?_
    rintro e' w' ⟨rfl, rfl⟩
    exact ⟨by simp [partV, e], 0, rfl⟩
  · have ha : okB a = true := by cases h : okB a <;> simp_all
    have hn : 0 ≤ n := by omega
    have hn' : n ≤ 1000000 := by omega
    have hd : 1 ≤ d := by omega
    have hd' : d ≤ 1000000 := by omega
    clear hb
    have h1 := okB_iff.1 ha
    have h2 : 0 ≤ sz a ∧ sz a ≤ 1000000000000000 := by unfold sz; split <;> omega
    have hdec : decide (0 ≤ n ∧ n ≤ 1000000 ∧ 1 ≤ d ∧ d ≤ 1000000) = true := by simp; omega
    cases hf : fitB (sz a / d) n
    · have e : partB a n d = false := by simp [partB, hf]
      have e' : partV a n d = 0 := by simp [partV, e]
      rw [e, e']
      have E := hide e; have E' := hide e'
      clear e e' hdec
      by_cases hs : a < 0
      · go_enter Tryz.func70, Tryz.ntmps70
        go_wp2_with (first | (go_at_call 47; refine (okI _ _).mono ?_; rintro e w' ⟨rfl, rfl⟩) | (go_at_call 103; refine (szM _ _ (by omega) (by omega)).mono ?_; rintro e w' ⟨rfl, rfl⟩) | (go_at_call 68; refine (divE_no _ _ _ _ (by omega) (by omega) (by omega) (by omega) (by omega) (by omega) _ hf).mono ?_; rintro e w' ⟨rfl, rfl⟩))
        go_ret2
        exact ⟨rfl, 0, rfl⟩
      · go_enter Tryz.func70, Tryz.ntmps70
        go_wp2_with (first | (go_at_call 47; refine (okI _ _).mono ?_; rintro e w' ⟨rfl, rfl⟩) | (go_at_call 103; refine (szM _ _ (by omega) (by omega)).mono ?_; rintro e w' ⟨rfl, rfl⟩) | (go_at_call 68; refine (divE_no _ _ _ _ (by omega) (by omega) (by omega) (by omega) (by omega) (by omega) _ hf).mono ?_; rintro e w' ⟨rfl, rfl⟩))
        go_ret2
        exact ⟨rfl, 0, rfl⟩
    · cases hp : okB (rndE (sz a / d * n + sz a % d * n / d) (sz a % d * n % d) d)
      · have e : partB a n d = false := by simp [partB, hp]
        have e' : partV a n d = 0 := by simp [partV, e]
        rw [e, e']
        clear e e' hdec
        by_cases hs : a < 0
        · go_enter Tryz.func70, Tryz.ntmps70
          go_wp2_with (first | (go_at_call 47; refine (okI _ _).mono ?_; rintro e w' ⟨rfl, rfl⟩) | (go_at_call 103; refine (szM _ _ (by omega) (by omega)).mono ?_; rintro e w' ⟨rfl, rfl⟩) | (go_at_call 68; refine (divE_big _ _ _ _ (by omega) (by omega) (by omega) (by omega) (by omega) (by omega) hf hp).mono ?_; rintro e w' ⟨rfl, k, rfl⟩))
          go_ret2
          exact ⟨rfl, _, rfl⟩
        · go_enter Tryz.func70, Tryz.ntmps70
          go_wp2_with (first | (go_at_call 47; refine (okI _ _).mono ?_; rintro e w' ⟨rfl, rfl⟩) | (go_at_call 103; refine (szM _ _ (by omega) (by omega)).mono ?_; rintro e w' ⟨rfl, rfl⟩) | (go_at_call 68; refine (divE_big _ _ _ _ (by omega) (by omega) (by omega) (by omega) (by omega) (by omega) hf hp).mono ?_; rintro e w' ⟨rfl, k, rfl⟩))
          go_ret2
          exact ⟨rfl, _, rfl⟩
      · have e : partB a n d = true := by simp only [partB, ha, hdec, hf, hp, Bool.and_self]
        have hb := okB_iff.1 hp
        rw [e]
        by_cases hs : a < 0
        · have e' : partV a n d = -(rndE (sz a / d * n + sz a % d * n / d) (sz a % d * n % d) d) := by simp only [partV, e, hs, if_true]
          rw [e']
          clear e e' hdec
          go_enter Tryz.func70, Tryz.ntmps70
          go_wp2_with (first | (go_at_call 47; refine (okI _ _).mono ?_; rintro e w' ⟨rfl, rfl⟩) | (go_at_call 103; refine (szM _ _ (by omega) (by omega)).mono ?_; rintro e w' ⟨rfl, rfl⟩) | (go_at_call 68; refine (divE_yes _ _ _ _ (by omega) (by omega) (by omega) (by omega) (by omega) (by omega) hf hp).mono ?_; rintro e w' ⟨rfl, k, rfl⟩))
          go_ret2
          exact ⟨rfl, _, rfl⟩
        · have e' : partV a n d = rndE (sz a / d * n + sz a % d * n / d) (sz a % d * n % d) d := by simp only [partV, e, hs, if_true, if_false]
          rw [e']
          clear e e' hdec
          go_enter Tryz.func70, Tryz.ntmps70
          go_wp2_with (first | (go_at_call 47; refine (okI _ _).mono ?_; rintro e w' ⟨rfl, rfl⟩) | (go_at_call 103; refine (szM _ _ (by omega) (by omega)).mono ?_; rintro e w' ⟨rfl, rfl⟩) | (go_at_call 68; refine (divE_yes _ _ _ _ (by omega) (by omega) (by omega) (by omega) (by omega) (by omega) hf hp).mono ?_; rintro e w' ⟨rfl, k, rfl⟩))
          go_ret2
          exact ⟨rfl, _, rfl⟩
end Go.Proofs.YtnchgeiinkaefaaGreatDoor.Coin
end

section
/-
  CoinPart as the document's model has it: it answers what the program's answers.
-/
namespace Go.Proofs.YtnchgeiinkaefaaGreatDoor.Coin
set_option linter.unusedVariables false
open Go.RowKit

theorem szS_pos (r : Int) (w : World) (h : 0 ≤ r) (h' : r ≤ 9223372036854775807) : Calls Tryz.prog 91 #[.int .i64 r] w fun e w' => e = .returned (.int .i64 r) ∧ w' = w := by
  have t := szS r w (by omega) (by omega)
  rw [sz_pos h] at t; exact t
theorem szS_neg (r : Int) (w : World) (h : 0 ≤ r) (h' : r ≤ 9223372036854775807) : Calls Tryz.prog 91 #[.int .i64 (-r)] w fun e w' => e = .returned (.int .i64 r) ∧ w' = w := by
  have t := szS (-r) w (by omega) (by omega)
  have e : sz (-r) = r := by unfold sz; split <;> omega
  rw [e] at t; exact t

/-- l1Round where nothing is below 0 -/
theorem roundS_pos (q r d : Int) (w : World) (h0 : 0 ≤ q) (h0' : q ≤ 4000000000000000) (h1 : 0 ≤ r) (h2 : r < d) (h3 : d ≤ 16000000) : Calls Tryz.prog 56 #[.int .i64 q, .int .i64 r, .int .i64 d] w fun e w' => e = .returned (.int .i64 (rndE q r d)) ∧ w' = w := by
  by_cases c1 : d < 2 * r
  · go_enter Tryz.func56, Tryz.ntmps56
    go_wp2_with (first | (go_at_call 91; refine (szS_pos _ _ (by omega) (by omega)).mono ?_; rintro e w' ⟨rfl, rfl⟩))
    go_ret
    exact ⟨ret_int (rndE_up c1).symm, rfl⟩
  · by_cases c2 : 2 * r = d
    · have c2' : (2 * r == d) = true := by simpa using c2
      by_cases c3 : q % 2 = 0
      · have c3' : (q % 2 != 0) = false := by simpa using c3
        have C2 := hide c2; clear c2
        have C3 := hide c3; clear c3
        go_enter Tryz.func56, Tryz.ntmps56
        go_wp2_with (first | (go_at_call 91; refine (szS_pos _ _ (by omega) (by omega)).mono ?_; rintro e w' ⟨rfl, rfl⟩))
        go_ret
        exact ⟨ret_int (rndE_even (unhide C2) (unhide C3)).symm, rfl⟩
      · have c3' : (q % 2 != 0) = true := by simpa using c3
        have C2 := hide c2; clear c2
        go_enter Tryz.func56, Tryz.ntmps56
        go_wp2_with (first | (go_at_call 91; refine (szS_pos _ _ (by omega) (by omega)).mono ?_; rintro e w' ⟨rfl, rfl⟩))
        go_ret
        exact ⟨ret_int (rndE_tie (unhide C2) c3).symm, rfl⟩
    · have c2' : (2 * r == d) = false := by simpa using c2
      go_enter Tryz.func56, Tryz.ntmps56
      go_wp2_with (first | (go_at_call 91; refine (szS_pos _ _ (by omega) (by omega)).mono ?_; rintro e w' ⟨rfl, rfl⟩))
      go_ret
      exact ⟨ret_int (rndE_low (by omega)).symm, rfl⟩

theorem tmod_neg (q : Int) (h : 0 ≤ q) : (-q).tmod 2 = -(q % 2) := by
  rw [Int.neg_tmod, Int.tmod_eq_emod_of_nonneg h]

/-- l1Round where nothing is above 0 -/
theorem roundS_neg (q r d : Int) (w : World) (h0 : 0 ≤ q) (h0' : q ≤ 4000000000000000) (h1 : 0 ≤ r) (h2 : r < d) (h3 : d ≤ 16000000) : Calls Tryz.prog 56 #[.int .i64 (-q), .int .i64 (-r), .int .i64 d] w fun e w' => e = .returned (.int .i64 (-(rndE q r d))) ∧ w' = w := by
  have tm := tmod_neg q h0
  by_cases c1 : d < 2 * r
  · go_enter Tryz.func56, Tryz.ntmps56
    go_wp2_with (first | (go_at_call 91; refine (szS_neg _ _ (by omega) (by omega)).mono ?_; rintro e w' ⟨rfl, rfl⟩))
    go_ret
    exact ⟨ret_int (by rw [rndE_up c1]; omega), rfl⟩
  · by_cases c2 : 2 * r = d
    · have c2' : (2 * r == d) = true := by simpa using c2
      by_cases c3 : q % 2 = 0
      · have c3' : (-(q % 2) != 0) = false := by simp; omega
        have C2 := hide c2; clear c2
        have C3 := hide c3; clear c3
        go_enter Tryz.func56, Tryz.ntmps56
        go_wp2_with (first | (go_at_call 91; refine (szS_neg _ _ (by omega) (by omega)).mono ?_; rintro e w' ⟨rfl, rfl⟩))
        go_ret
        exact ⟨ret_int (by rw [rndE_even (unhide C2) (unhide C3)]), rfl⟩
      · have c3' : (-(q % 2) != 0) = true := by simp; omega
        have hr : 0 < r := by omega
        have C2 := hide c2; clear c2
        go_enter Tryz.func56, Tryz.ntmps56
        go_wp2_with (first | (go_at_call 91; refine (szS_neg _ _ (by omega) (by omega)).mono ?_; rintro e w' ⟨rfl, rfl⟩))
        go_ret
        exact ⟨ret_int (by rw [rndE_tie (unhide C2) c3]; omega), rfl⟩
    · have c2' : (2 * r == d) = false := by simpa using c2
      go_enter Tryz.func56, Tryz.ntmps56
      go_wp2_with (first | (go_at_call 91; refine (szS_neg _ _ (by omega) (by omega)).mono ?_; rintro e w' ⟨rfl, rfl⟩))
      go_ret
      exact ⟨ret_int (by rw [rndE_low (by omega)]), rfl⟩
theorem timesS_yes (a b : Int) (w : World) (h : fitB a b = true) : Calls Tryz.prog 55 #[.int .i64 a, .int .i64 b] w fun e w' => e = .returned (.tuple #[.int .i64 (a * b), .bool true]) ∧ w' = w := by
  have := timesS a b w; rw [timesV_yes h, h] at this; exact this
theorem timesS_no (a b : Int) (w : World) (h : fitB a b = false) : Calls Tryz.prog 55 #[.int .i64 a, .int .i64 b] w fun e w' => e = .returned (.tuple #[.int .i64 0, .bool false]) ∧ w' = w := by
  have := timesS a b w; rw [timesV_no h, h] at this; exact this
theorem fit_neg (a b : Int) : fitB (-a) b = fitB a b := by
  have h1 : okB (-a) = okB a := by unfold okB; congr 1; apply propext; omega
  have h2 : sz (-a) = sz a := by unfold sz; split <;> split <;> omega
  unfold fitB; rw [h1, h2]
theorem timesS_yesN (a b : Int) (w : World) (h : fitB a b = true) : Calls Tryz.prog 55 #[.int .i64 (-a), .int .i64 b] w fun e w' => e = .returned (.tuple #[.int .i64 (-(a * b)), .bool true]) ∧ w' = w := by
  have := timesS_yes (-a) b w (by rw [fit_neg]; exact h); rw [Int.neg_mul] at this; exact this
theorem timesS_noN (a b : Int) (w : World) (h : fitB a b = false) : Calls Tryz.prog 55 #[.int .i64 (-a), .int .i64 b] w fun e w' => e = .returned (.tuple #[.int .i64 0, .bool false]) ∧ w' = w :=
  timesS_no (-a) b w (by rw [fit_neg]; exact h)

theorem partS_bad (a n d : Int) (w : World) (h : okB a = false ∨ n < 0 ∨ 1000000 < n ∨ d < 1 ∨ 1000000 < d) : Calls Tryz.prog 38 #[.int .i64 a, .int .i64 n, .int .i64 d] w fun e w' => e = .returned (.tuple #[.int .i64 0, .bool false]) ∧ w' = w := by
  cases ha : okB a
  · go_enter Tryz.func38, Tryz.ntmps38
    go_wp2_with (first | (go_at_call 23; refine (okS _ _).mono ?_; rintro e w' ⟨rfl, rfl⟩))
    go_ret2
    exact ⟨rfl, rfl⟩
  · by_cases c1 : n < 0
    · go_enter Tryz.func38, Tryz.ntmps38
      go_wp2_with (first | (go_at_call 23; refine (okS _ _).mono ?_; rintro e w' ⟨rfl, rfl⟩))
      go_ret2
      exact ⟨rfl, rfl⟩
    · by_cases c2 : 1000000 < n
      · go_enter Tryz.func38, Tryz.ntmps38
        go_wp2_with (first | (go_at_call 23; refine (okS _ _).mono ?_; rintro e w' ⟨rfl, rfl⟩))
        go_ret2
        exact ⟨rfl, rfl⟩
      · by_cases c3 : d < 1
        · go_enter Tryz.func38, Tryz.ntmps38
          go_wp2_with (first | (go_at_call 23; refine (okS _ _).mono ?_; rintro e w' ⟨rfl, rfl⟩))
          go_ret2
          exact ⟨rfl, rfl⟩
        · have c4 : 1000000 < d := by rw [ha] at h; simp at h; omega
          clear h
          go_enter Tryz.func38, Tryz.ntmps38
          go_wp2_with (first | (go_at_call 23; refine (okS _ _).mono ?_; rintro e w' ⟨rfl, rfl⟩))
          go_ret2
          exact ⟨rfl, rfl⟩

/-- the document's CoinPart at an amount x not below 0 -/
theorem partS_pos (x n d : Int) (w : World) (h1 : 0 ≤ x) (h2 : x ≤ 1000000000000000) (hn : 0 ≤ n) (hn' : n ≤ 1000000) (hd : 1 ≤ d) (hd' : d ≤ 1000000) (hf : fitB (x / d) n = true) : Calls Tryz.prog 38 #[.int .i64 x, .int .i64 n, .int .i64 d] w fun e w' => e = .returned (.tuple #[.int .i64 (if okB (rndE (x / d * n + x % d * n / d) (x % d * n % d) d) = true then rndE (x / d * n + x % d * n / d) (x % d * n % d) d else 0), .bool (okB (rndE (x / d * n + x % d * n / d) (x % d * n % d) d))]) ∧ ∃ k, w' = w.drewN k := by
  obtain ⟨f1, f2, f3, f4⟩ := fit_ok hf
  obtain ⟨p1, p2⟩ := prodBd (x := x) hn hn' hd (by omega)
  obtain ⟨q1, q2, q3, q4⟩ := divBd (y := x % d * n) p1 hd
  have x0 := divBd h1 hd
  have f0 : 0 ≤ x / d * n := Int.mul_nonneg x0.1 hn
  have ha := okB_true (n := x) (by omega)
  clear f1 f2 f3
  cases hp : okB (rndE (x / d * n + x % d * n / d) (x % d * n % d) d)
  · go_enter Tryz.func38, Tryz.ntmps38
    go_wp2_with (first | (go_at_call 23; refine (okS _ _).mono ?_; rintro e w' ⟨rfl, rfl⟩) | (go_at_call 55; refine (timesS_yes _ _ _ hf).mono ?_; rintro e w' ⟨rfl, rfl⟩))
    go_quiet ((go_at_call 56; exact Calls.quiet_of_same (roundS_pos _ _ _ _ (by omega) (by omega) (by omega) (by omega) (by omega))))
    go_wp2_with (first | (go_at_call 23; refine (okS _ _).mono ?_; rintro e w' ⟨rfl, rfl⟩))
    go_ret2
    exact ⟨rfl, _, rfl⟩
  · go_enter Tryz.func38, Tryz.ntmps38
    go_wp2_with (first | (go_at_call 23; refine (okS _ _).mono ?_; rintro e w' ⟨rfl, rfl⟩) | (go_at_call 55; refine (timesS_yes _ _ _ hf).mono ?_; rintro e w' ⟨rfl, rfl⟩))
    go_quiet ((go_at_call 56; exact Calls.quiet_of_same (roundS_pos _ _ _ _ (by omega) (by omega) (by omega) (by omega) (by omega))))
    go_wp2_with (first | (go_at_call 23; refine (okS _ _).mono ?_; rintro e w' ⟨rfl, rfl⟩))
    go_ret2
    exact ⟨rfl, _, rfl⟩

theorem roundS_neg' (q' r' q r d : Int) (w : World) (hq : q' = -q) (hr : r' = -r) (h0 : 0 ≤ q) (h0' : q ≤ 4000000000000000) (h1 : 0 ≤ r) (h2 : r < d) (h3 : d ≤ 16000000) : Calls Tryz.prog 56 #[.int .i64 q', .int .i64 r', .int .i64 d] w fun e w' => e = .returned (.int .i64 (-(rndE q r d))) ∧ w' = w := by
  subst hq hr; exact roundS_neg q r d w h0 h0' h1 h2 h3

theorem tdiv_neg (x d : Int) (h : 0 ≤ x) : (-x).tdiv d = -(x / d) := by rw [Int.neg_tdiv, Int.tdiv_eq_ediv_of_nonneg h]
theorem tmod_neg' (x d : Int) (h : 0 ≤ x) : (-x).tmod d = -(x % d) := by rw [Int.neg_tmod, Int.tmod_eq_emod_of_nonneg h]

/-- the document's CoinPart at an amount below 0 -/
theorem partS_neg (x n d : Int) (w : World) (h1 : 1 ≤ x) (h2 : x ≤ 1000000000000000) (hn : 0 ≤ n) (hn' : n ≤ 1000000) (hd : 1 ≤ d) (hd' : d ≤ 1000000) (hf : fitB (x / d) n = true) : Calls Tryz.prog 38 #[.int .i64 (-x), .int .i64 n, .int .i64 d] w fun e w' => e = .returned (.tuple #[.int .i64 (if okB (rndE (x / d * n + x % d * n / d) (x % d * n % d) d) = true then -(rndE (x / d * n + x % d * n / d) (x % d * n % d) d) else 0), .bool (okB (rndE (x / d * n + x % d * n / d) (x % d * n % d) d))]) ∧ ∃ k, w' = w.drewN k := by
  obtain ⟨f1, f2, f3, f4⟩ := fit_ok hf
  obtain ⟨p1, p2⟩ := prodBd (x := x) hn hn' hd (by omega)
  obtain ⟨q1, q2, q3, q4⟩ := divBd (y := x % d * n) p1 hd
  have x0 := divBd (y := x) (by omega) hd
  have f0 : 0 ≤ x / d * n := Int.mul_nonneg x0.1 hn
  have ha := okB_true (n := -x) (by omega)
  have t1 := tdiv_neg x d (by omega)
  have t2 := tmod_neg' x d (by omega)
  have t3 : -(x % d) * n = -(x % d * n) := Int.neg_mul _ _
  have t4 := tdiv_neg (x % d * n) d p1
  have t5 := tmod_neg' (x % d * n) d p1
  have t6 := okB_neg (rndE (x / d * n + x % d * n / d) (x % d * n % d) d)
  clear f1 f2 f3
  cases hp : okB (rndE (x / d * n + x % d * n / d) (x % d * n % d) d)
  · rw [hp] at t6
    go_enter Tryz.func38, Tryz.ntmps38
    go_wp2_with (first | (go_at_call 23; refine (okS _ _).mono ?_; rintro e w' ⟨rfl, rfl⟩) | (go_at_call 55; refine (timesS_yesN _ _ _ hf).mono ?_; rintro e w' ⟨rfl, rfl⟩))
    go_quiet ((go_at_call 56; exact Calls.quiet_of_same (roundS_neg' _ _ (x / d * n + x % d * n / d) (x % d * n % d) _ _ (by omega) (by omega) (by omega) (by omega) (by omega) (by omega) (by omega))))
    go_wp2_with (first | (go_at_call 23; refine (okS _ _).mono ?_; rintro e w' ⟨rfl, rfl⟩))
    go_ret2
    exact ⟨rfl, _, rfl⟩
  · rw [hp] at t6
    go_enter Tryz.func38, Tryz.ntmps38
    go_wp2_with (first | (go_at_call 23; refine (okS _ _).mono ?_; rintro e w' ⟨rfl, rfl⟩) | (go_at_call 55; refine (timesS_yesN _ _ _ hf).mono ?_; rintro e w' ⟨rfl, rfl⟩))
    go_quiet ((go_at_call 56; exact Calls.quiet_of_same (roundS_neg' _ _ (x / d * n + x % d * n / d) (x % d * n % d) _ _ (by omega) (by omega) (by omega) (by omega) (by omega) (by omega) (by omega))))
    go_wp2_with (first | (go_at_call 23; refine (okS _ _).mono ?_; rintro e w' ⟨rfl, rfl⟩))
    go_ret2
    exact ⟨rfl, _, rfl⟩

theorem partS_noP (x n d : Int) (w : World) (h1 : 0 ≤ x) (h2 : x ≤ 1000000000000000) (hn : 0 ≤ n) (hn' : n ≤ 1000000) (hd : 1 ≤ d) (hd' : d ≤ 1000000) (hf : fitB (x / d) n = false) : Calls Tryz.prog 38 #[.int .i64 x, .int .i64 n, .int .i64 d] w fun e w' => e = .returned (.tuple #[.int .i64 0, .bool false]) ∧ w' = w := by
  have ha := okB_true (n := x) (by omega)
  go_enter Tryz.func38, Tryz.ntmps38
  go_wp2_with (first | (go_at_call 23; refine (okS _ _).mono ?_; rintro e w' ⟨rfl, rfl⟩) | (go_at_call 55; refine (timesS_no _ _ _ hf).mono ?_; rintro e w' ⟨rfl, rfl⟩))
  go_ret2
  exact ⟨rfl, rfl⟩
theorem partS_noN (x n d : Int) (w : World) (h1 : 1 ≤ x) (h2 : x ≤ 1000000000000000) (hn : 0 ≤ n) (hn' : n ≤ 1000000) (hd : 1 ≤ d) (hd' : d ≤ 1000000) (hf : fitB (x / d) n = false) : Calls Tryz.prog 38 #[.int .i64 (-x), .int .i64 n, .int .i64 d] w fun e w' => e = .returned (.tuple #[.int .i64 0, .bool false]) ∧ w' = w := by
  have ha := okB_true (n := -x) (by omega)
  have x0 := divBd (y := x) (by omega) hd
  have t1 := tdiv_neg x d (by omega)
  go_enter Tryz.func38, Tryz.ntmps38
  go_wp2_with (first | (go_at_call 23; refine (okS _ _).mono ?_; rintro e w' ⟨rfl, rfl⟩) | (go_at_call 55; refine (timesS_noN _ _ _ hf).mono ?_; rintro e w' ⟨rfl, rfl⟩))
  go_ret2
  exact ⟨rfl, rfl⟩

theorem partS (a n d : Int) (w : World) : Calls Tryz.prog 38 #[.int .i64 a, .int .i64 n, .int .i64 d] w fun e w' => e = .returned (.tuple #[.int .i64 (partV a n d), .bool (partB a n d)]) ∧ ∃ k, w' = w.drewN k := by
  by_cases hb : okB a = false ∨ n < 0 ∨ 1000000 < n ∨ d < 1 ∨ 1000000 < d
  · have e : partB a n d = false := by
      unfold partB
      rcases hb with h | h
      · simp [h]
      · have : decide (0 ≤ n ∧ n ≤ 1000000 ∧ 1 ≤ d ∧ d ≤ 1000000) = false := by simp; omega
        rw [this]; simp
    refine (partS_bad a n d w hb).mono ?_
    rintro e' w' ⟨rfl, rfl⟩
    exact ⟨by simp [partV, e], 0, rfl⟩
  · have ha : okB a = true := by cases h : okB a <;> simp_all
    have hn : 0 ≤ n := by omega
    have hn' : n ≤ 1000000 := by omega
    have hd : 1 ≤ d := by omega
    have hd' : d ≤ 1000000 := by omega
    clear hb
    have h1 := okB_iff.1 ha
    have hdec : decide (0 ≤ n ∧ n ≤ 1000000 ∧ 1 ≤ d ∧ d ≤ 1000000) = true := by simp; omega
    by_cases hs : a < 0
    · have hz : sz a = -a := sz_neg hs
      obtain ⟨x, rfl⟩ : ∃ x, a = -x := ⟨-a, by omega⟩
      rw [Int.neg_neg] at hz
      cases hf : fitB (x / d) n
      · refine (partS_noN x n d w (by omega) (by omega) hn hn' hd hd' hf).mono ?_
        rintro e' w' ⟨rfl, rfl⟩
        have e : partB (-x) n d = false := by simp [partB, hz, hf]
        exact ⟨by simp [partV, e], 0, rfl⟩
      · refine (partS_neg x n d w (by omega) (by omega) hn hn' hd hd' hf).mono ?_
        rintro e' w' ⟨rfl, k, rfl⟩
        have e : partB (-x) n d = okB (rndE (x / d * n + x % d * n / d) (x % d * n % d) d) := by simp only [partB, hz, hf, ha, hdec, Bool.true_and]
        refine ⟨?_, k, rfl⟩
        unfold partV
        rw [e, hz, if_pos hs]
    · have hz : sz a = a := sz_pos (by omega)
      cases hf : fitB (a / d) n
      · refine (partS_noP a n d w (by omega) (by omega) hn hn' hd hd' hf).mono ?_
        rintro e' w' ⟨rfl, rfl⟩
        have e : partB a n d = false := by simp [partB, hz, hf]
        exact ⟨by simp [partV, e], 0, rfl⟩
      · refine (partS_pos a n d w (by omega) (by omega) hn hn' hd hd' hf).mono ?_
        rintro e' w' ⟨rfl, k, rfl⟩
        have e : partB a n d = okB (rndE (a / d * n + a % d * n / d) (a % d * n % d) d) := by simp only [partB, hz, hf, ha, hdec, Bool.true_and]
        refine ⟨?_, k, rfl⟩
        unfold partV
        rw [e, hz, if_neg hs]
end Go.Proofs.YtnchgeiinkaefaaGreatDoor.Coin
end

section
/-
  spec's run of a tariff: over, calc.
-/
namespace Go.Proofs.YtnchgeiinkaefaaGreatDoor.Rule
set_option linter.unusedVariables false
open Go.RowKit Tiers
open Kinds (kidsK)
open Coin (okB addV addB timesV fitB partV partB)

/-- the run that block P holds -/
def RunC (W : World) (P : Nat) (uv : Value) (l c : Nat) : Prop := W.cell? ⟨P, 0, none⟩ = some uv ∧ W.cell? ⟨P, 1, none⟩ = some (.int .i64 (l : Int)) ∧ W.cell? ⟨P, 2, none⟩ = some (.int .i64 (c : Int)) ∧ W.frozen? ⟨P, 1, none⟩ = false ∧ W.frozen? ⟨P, 2, none⟩ = false
theorem RunC.lt {W : World} {P : Nat} {uv : Value} {l c : Nat} (h : RunC W P uv l c) : P < W.heap.size := lt_of_cell h.1
theorem RunC.kept {W W' : World} {P : Nat} {uv : Value} {l c : Nat} (h : RunC W P uv l c) (hb : Below W.heap.size W W') : RunC W' P uv l c := by
  have hP := h.lt
  exact ⟨(hb.cell (p := ⟨P, 0, none⟩) hP).trans h.1, (hb.cell (p := ⟨P, 1, none⟩) hP).trans h.2.1, (hb.cell (p := ⟨P, 2, none⟩) hP).trans h.2.2.1, (hb.frozen (p := ⟨P, 1, none⟩) hP).trans h.2.2.2.1, (hb.frozen (p := ⟨P, 2, none⟩) hP).trans h.2.2.2.2⟩
theorem RunC.left {W : World} {P : Nat} {uv : Value} {l c : Nat} (h : RunC W P uv l c) (l' : Nat) : RunC (W.setCell ⟨P, 1, none⟩ (.int .i64 (l' : Int))) P uv l' c := by
  obtain ⟨h0, h1, h2, f1, f2⟩ := h
  refine ⟨?_, World.cell?_setCell_same _ _ _ h1, ?_, by simpa [World.frozen?_setCell] using f1, by simpa [World.frozen?_setCell] using f2⟩
  · rw [World.cell?_setCell_other _ _ _ _ (by simp)]; exact h0
  · rw [World.cell?_setCell_other _ _ _ _ (by simp)]; exact h2
theorem RunC.code {W : World} {P : Nat} {uv : Value} {l c : Nat} (h : RunC W P uv l c) (c' : Nat) : RunC (W.setCell ⟨P, 2, none⟩ (.int .i64 (c' : Int))) P uv l c' := by
  obtain ⟨h0, h1, h2, f1, f2⟩ := h
  refine ⟨?_, ?_, World.cell?_setCell_same _ _ _ h2, by simpa [World.frozen?_setCell] using f1, by simpa [World.frozen?_setCell] using f2⟩
  · rw [World.cell?_setCell_other _ _ _ _ (by simp)]; exact h0
  · rw [World.cell?_setCell_other _ _ _ _ (by simp)]; exact h1
theorem grown_set (W : World) (P o : Nat) (u : Value) : W.grownBy (W.setCell ⟨P, o, none⟩ u) (some P) :=
  ⟨rfl, rfl, rfl, by simp, fun j hj hne => Below.heap_setCell W ⟨P, o, none⟩ u j (by simpa using Ne.symm (fun h => hne (by rw [h])))⟩

/-- the world behind 'over' -/
def overW (W : World) (P : Nat) (ok : Bool) : World := if ok = true then W else W.setCell ⟨P, 2, none⟩ (.int .i64 1)
def overC (ok : Bool) : Nat := if ok = true then 0 else 1
theorem RunC.over {W : World} {P : Nat} {uv : Value} {l : Nat} (h : RunC W P uv l 0) (ok : Bool) : RunC (overW W P ok) P uv l (overC ok) := by
  cases ok
  · exact h.code 1
  · exact h
theorem grown_over (W : World) (P : Nat) (ok : Bool) : W.grownBy (overW W P ok) (some P) := by
  cases ok
  · exact grown_set _ _ _ _
  · exact ⟨rfl, rfl, rfl, Nat.le_refl _, fun _ _ _ => rfl⟩

theorem overS (P : Nat) (uv : Value) (l : Nat) (n : Int) (ok : Bool) (w : World) (h : RunC w P uv l 0) :
    Calls Tryz.prog 88 #[.pointer (some ⟨P, 0, none⟩), .int .i64 n, .bool ok] w fun x w' => x = .returned (.int .i64 n) ∧ w' = overW w P ok := by
  obtain ⟨h0, h1, h2, f1, f2⟩ := h
  cases ok
  · go_enter Tryz.func88, Tryz.ntmps88
    go_wp2
    go_ret
    exact ⟨rfl, rfl⟩
  · go_enter Tryz.func88, Tryz.ntmps88
    go_wp2
    go_ret
    exact ⟨rfl, rfl⟩

theorem pair_cases {k : Int} (h1 : 1 ≤ k ∧ k ≤ 10) (h2 : k ≠ 1) (h3 : k ≠ 2) (h4 : k ≠ 6) (h5 : k ≠ 9) (h6 : k ≠ 10) : k = 3 ∨ k = 4 ∨ k = 5 ∨ k = 7 ∨ k = 8 := by omega

set_option maxHeartbeats 1600000 in
theorem calcS (P : Nat) (uv : Value) (l : Nat) (k a b : Int) (w : World) (h : RunC w P uv l 0) (hk : k = 3 ∨ k = 4 ∨ k = 5 ∨ k = 7 ∨ k = 8) (hb : okB b = true) :
    Calls Tryz.prog 90 #[.pointer (some ⟨P, 0, none⟩), .int .i64 k, .int .i64 a, .int .i64 b] w fun x w' => x = .returned (.int .i64 (pairV k a b)) ∧ w' = overW w P (pairB k a b) := by
  obtain ⟨h0, h1, h2, f1, f2⟩ := h
  obtain ⟨b1, b2⟩ := okB_bd hb
  clear hb
  rcases hk with rfl | rfl | rfl | rfl | rfl
  · have e1 : pairV 3 a b = addV a b := rfl
    have e2 : pairB 3 a b = addB a b := rfl
    rw [e1, e2]
    clear e1 e2
    cases hp : addB a b
    all_goals
      go_enter Tryz.func90, Tryz.ntmps90
      go_wp2_with (go_at_call 114; refine (Coin.addS _ _ _).mono ?_; rintro e w' ⟨rfl, rfl⟩)
      go_ret
      exact ⟨rfl, rfl⟩
  · have e1 : pairV 4 a b = addV a (-b) := rfl
    have e2 : pairB 4 a b = addB a (-b) := rfl
    rw [e1, e2]
    clear e1 e2
    cases hp : addB a (-b)
    all_goals
      go_enter Tryz.func90, Tryz.ntmps90
      go_wp2_with (go_at_call 114; refine (Coin.addS _ _ _).mono ?_; rintro e w' ⟨rfl, rfl⟩)
      go_ret
      exact ⟨rfl, rfl⟩
  · have e1 : pairV 5 a b = timesV a b := rfl
    have e2 : pairB 5 a b = fitB a b := rfl
    rw [e1, e2]
    clear e1 e2
    cases hp : fitB a b
    all_goals
      go_enter Tryz.func90, Tryz.ntmps90
      go_wp2_with (go_at_call 55; refine (Coin.timesS _ _ _).mono ?_; rintro e w' ⟨rfl, rfl⟩)
      go_ret
      exact ⟨rfl, rfl⟩
  · have e2 : pairB 7 a b = true := rfl
    rw [e2]
    by_cases hlt : b < a
    · have e1 : pairV 7 a b = b := by show (if b < a then b else a) = b; rw [if_pos hlt]
      rw [e1]
      clear e1 e2
      have hd : decide (b < a) = true := decide_eq_true hlt
      go_enter Tryz.func90, Tryz.ntmps90
      go_wp2
      go_ret
      exact ⟨rfl, rfl⟩
    · have e1 : pairV 7 a b = a := by show (if b < a then b else a) = a; rw [if_neg hlt]
      rw [e1]
      clear e1 e2
      have hd : decide (b < a) = false := decide_eq_false hlt
      go_enter Tryz.func90, Tryz.ntmps90
      go_wp2
      go_ret
      exact ⟨rfl, rfl⟩
  · have e2 : pairB 8 a b = true := rfl
    rw [e2]
    by_cases hlt : b < a
    · have e1 : pairV 8 a b = a := by show (if b < a then a else b) = a; rw [if_pos hlt]
      rw [e1]
      clear e1 e2
      have hd : decide (b < a) = true := decide_eq_true hlt
      go_enter Tryz.func90, Tryz.ntmps90
      go_wp2
      go_ret
      exact ⟨rfl, rfl⟩
    · have e1 : pairV 8 a b = b := by show (if b < a then a else b) = b; rw [if_neg hlt]
      rw [e1]
      clear e1 e2
      have hd : decide (b < a) = false := decide_eq_false hlt
      go_enter Tryz.func90, Tryz.ntmps90
      go_wp2
      go_ret
      exact ⟨rfl, rfl⟩
end Go.Proofs.YtnchgeiinkaefaaGreatDoor.Rule
end
